/- Texts of UmU, Sub1, Cmp0, VtP. Own work of the verifier. -/
import Derived.Test.YtaakpdakeolgeaaGreatUqbi
import Derived.Test.YtaakpdakeolgeaaGreatUqbh
import Derived.Test.YtaakpdakeolgeaaGreatUqbc
import Derived.Test.YtaakpdakeolgeaaGreatUqaw
import Derived.Test.YtaakpdakeolgeaaGreatUqas
import Derived.Test.YtaakpdakeolgeaaGreatUqbd
import Derived.Test.YtaakpdakeolgeaaGreatUqae
import Derived.Test.YtaakpdakeolgeaaGreatUqac
import Derived.Test.YtaakpdakeolgeaaGreatUqaf
import Derived.Test.YtaakpdakeolgeaaGreatUqan
import Derived.Test.YtaakpdakeolgeaaGreatUqau
namespace Go.Proofs.YtaakpdakeolgeaaGreat
open Go Go.RowKit
set_option linter.unusedVariables false
theorem look_up : ∀ (bs : List Bnd), (∀ i j, i < j → j < bs.length → (bs.getD i Bnd.zero).1 < (bs.getD j Bnd.zero).1) → ∀ i, i < bs.length → look bs (bs.getD i Bnd.zero).1 = some (bs.getD i Bnd.zero).2
  | [], _, i, hi => by simp at hi
  | b :: r, h, 0, hi => by simp [look]
  | b :: r, h, i + 1, hi => by
    have h0 := h 0 (i + 1) (by omega) hi
    simp only [List.getD_cons_zero, List.getD_cons_succ] at h0 ⊢
    have hne : ¬ b.1 = (r.getD i Bnd.zero).1 := by omega
    have := look_up r (fun i j hij hj => by have := h (i + 1) (j + 1) (by omega) (by simp; omega); simpa using this) i (by simpa using hi)
    unfold look
    first
      | rw [if_neg hne]; exact this
      | rw [if_neg (fun e => hne e.symm)]; exact this
theorem BsR.at {bs : List Bnd} {M : BM} (h : BsR bs M) (i : Nat) (hi : i < bs.length) : ∃ u, M (bs.getD i Bnd.zero).1 = some u ∧ (bs.getD i Bnd.zero).2 = tcs u := by
  have h1 := look_up bs h.up i hi
  rcases h.rel (bs.getD i Bnd.zero).1 with ⟨u, h2, h3⟩ | ⟨h2, h3⟩
  · rw [h1] at h3; exact ⟨u, h2, Option.some.inj h3⟩
  · rw [h1] at h3; cases h3
theorem BsR.asc {bs : List Bnd} {M : BM} (h : BsR bs M) : AscM M (bs.map Prod.fst) := by
  refine ⟨?_, fun x => ?_⟩
  · rw [List.pairwise_iff_getElem]
    intro i j hi hj hij
    have := h.up i j hij (by simpa using hj)
    simp only [List.length_map] at hi hj
    simpa [List.getD, hi, hj] using this
  · constructor
    · intro hx
      obtain ⟨b, hb, rfl⟩ := List.mem_map.1 hx
      obtain ⟨i, hi, rfl⟩ := List.mem_iff_getElem.1 hb
      obtain ⟨u, hu, _⟩ := h.at i hi
      simp only [List.getD, List.getElem?_eq_getElem hi, Option.getD_some] at hu
      rw [hu]; rfl
    · intro hx
      rcases h.find x with ⟨k, u, hk, hf, hu, _⟩ | ⟨_, hu⟩
      · have := findI_at hf hk
        rw [← this]
        exact List.mem_map.2 ⟨_, by simp [List.getD, hk], rfl⟩
      · rw [hu] at hx; cases hx
theorem OwnBB.fresh {w w' : World} {B : Nat} {p : Option Addr} {n c : Nat} {bs : List Bnd} (h : OwnBB w B w.heap.size p n c bs) (hb : Below w.heap.size w w') : OwnBB w' B w'.heap.size p n c bs := by
  obtain ⟨ds, hd⟩ := h
  have h1 : OwnBB w' B w.heap.size p n c bs := ⟨ds, hd.other hb.size (fun k hk _ _ => hb.block k hk)⟩
  exact h1.wide hb.size (Nat.le_refl _)
theorem MS.start (w : World) : MS w (w.alloc (.cells #[.slice none 0 0, .int .i64 0] 50)) w.heap.size (fun _ => none) 0 none 0 0 [] := by
  have hnew := heap_alloc_new w (.cells #[.slice none 0 0, .int .i64 0] 50)
  refine ⟨(Below.refl _ _).alloc (Nat.le_refl _) _, Nat.le_refl _, ?_, ?_, rfl, fun h => by simp at h, ⟨fun i j _ h => by simp at h, fun v => .inr ⟨rfl, rfl⟩⟩, Nat.le_refl _, by decide, fun _ => ⟨rfl, rfl⟩, Nat.le_refl _, (fun a h => by cases h), fun o => ?_⟩
  · simp only [World.cell?]; rw [hnew]; rfl
  · simp only [World.cell?]; rw [hnew]; rfl
  · simp only [World.frozen?]; rw [hnew]; rfl
set_option maxRecDepth 100000 in
set_option maxHeartbeats 1000000 in
theorem specUniC_bad (xs ys : List Cel) (p q : Option Addr) (cx cy : Nat) (hcx : xs.length ≤ cx ∧ cx ≤ 9223372036854775807) (hcy : ys.length ≤ cy ∧ cy ≤ 9223372036854775807) (w : World) (hn : xs.length ≤ 1000000000) (hm : ys.length ≤ 1000000000) (hp : CIn w p xs) (hq : CIn w q ys) (hb : ¬ (validB xs = true ∧ validB ys = true)) :
    Calls Tryz.prog 5 #[.slice p xs.length cx, .slice q ys.length cy] w (UniO w xs ys) := by
  have HV1 := specValid_any p cx xs w hn hp
  have HF : Hid (∀ W, Below w.heap.size w W → UniO w xs ys (.returned (.tuple #[.slice none 0 0, .int .i64 1])) W) := fun W hW => ⟨[], 1, none, 0, 0, .inr ⟨hb, rfl, rfl⟩, rfl, OwnBB.nil _ _ _, hW⟩
  by_cases h1 : validB xs = true
  · have HV2 : Hid (∀ W, Below w.heap.size w W → Calls Tryz.prog 17 #[.slice q ys.length cy] W fun e w' => e = .returned (.bool (validB ys)) ∧ Below W.heap.size W w') := fun W hW => specValid_any q cy ys W hm (hq.below hW)
    rw [h1] at HV1
    have h2' : validB ys = false := by
      cases h : validB ys with
      | false => rfl
      | true => exact (hb ⟨h1, h⟩).elim
    rw [h2'] at HV2
    clear h1 h2' hp hq hb
    go_enter Tryz.func5, Tryz.ntmps5
    go_wp2_with fail
    refine HV1.mono ?_
    rintro e w1 ⟨rfl, hb1⟩
    have HB1 : Hid (Below w.heap.size w w1) := hb1
    clear hb1 HV1
    go_wp2_with fail
    refine (HV2.out w1 HB1.out).mono ?_
    rintro e w2 ⟨rfl, hb2⟩
    have HB2 : Hid (Below w.heap.size w w2) := Below.on HB1.out hb2
    clear hb2
    go_wp2_with fail
    go_ret2
    exact HF.out _ HB2.out
  · have h1' : validB xs = false := by simpa using h1
    rw [h1'] at HV1
    clear h1 h1' hp hq hb
    go_enter Tryz.func5, Tryz.ntmps5
    go_wp2_with fail
    refine HV1.mono ?_
    rintro e w1 ⟨rfl, hb1⟩
    have HB1 : Hid (Below w.heap.size w w1) := hb1
    clear hb1 HV1
    go_wp2_with fail
    go_ret2
    exact HF.out _ HB1.out
set_option maxRecDepth 100000 in
set_option maxHeartbeats 2000000 in
theorem specUniC_any (xs ys : List Cel) (p q : Option Addr) (cx cy : Nat) (hcx : xs.length ≤ cx ∧ cx ≤ 9223372036854775807) (hcy : ys.length ≤ cy ∧ cy ≤ 9223372036854775807) (w : World) (hxb : ∀ i, i < xs.length → Byte (xs.getD i Cel.none).2.2) (hyb : ∀ i, i < ys.length → Byte (ys.getD i Cel.none).2.2) (hn : xs.length ≤ 1000000000) (hm : ys.length ≤ 1000000000) (hp : CIn w p xs) (hq : CIn w q ys) :
    Calls Tryz.prog 5 #[.slice p xs.length cx, .slice q ys.length cy] w (UniO w xs ys) := by
  by_cases hv : validB xs = true ∧ validB ys = true
  · obtain ⟨h1, h2⟩ := hv
    obtain ⟨c, k, ex, hok, hlx⟩ := tree_of hxb h1
    obtain ⟨c', k', ey, hok', hly⟩ := tree_of hyb h2
    have HV1 := specValid_any p cx xs w hn hp
    have HV2 : Hid (∀ W, Below w.heap.size w W → Calls Tryz.prog 17 #[.slice q ys.length cy] W fun e w' => e = .returned (.bool (validB ys)) ∧ Below W.heap.size W w') := fun W hW => specValid_any q cy ys W hm (hq.below hW)
    rw [h1] at HV1
    rw [h2] at HV2
    have HFIN : Hid (∀ bs code e pp nn cc W, UniT (c, k) (c', k') bs code → e = .returned (.tuple #[.slice pp nn cc, .int .i64 code]) → OwnBB W w.heap.size W.heap.size pp nn cc bs → Below w.heap.size w W → UniO w xs ys e W) := fun bs code e pp nn cc W h he ho hW => ⟨bs, code, pp, nn, cc, .inl ⟨h1, h2, c, k, c', k', ex, ey, hok, hok', h⟩, he, ho, hW⟩
    obtain ⟨n, en⟩ : ∃ n, n = xs.length := ⟨_, rfl⟩
    obtain ⟨m, em⟩ : ∃ m, m = ys.length := ⟨_, rfl⟩
    rw [← en] at hcx HV1 hn hlx ⊢
    rw [← em] at hcy HV2 hm hly ⊢
    have HK : Hid ((tcs (c, k)).length ≤ 2000 ∧ (tcs (c', k')).length ≤ 2000) := ⟨by rw [en, ex] at hlx; simp [tcs] at hlx ⊢; omega, by rw [em, ey] at hly; simp [tcs] at hly ⊢; omega⟩
    have HX : Hid ((Fo.node c k .nil).ok ∧ (Fo.node c' k' .nil).ok) := ⟨hok, hok'⟩
    have HPR : Hid (∀ W, Below w.heap.size w W → Calls Tryz.prog 23 #[.pointer (some ⟨W.heap.size, 0, none⟩), .slice p n cx, .slice q m cy] (W.alloc (.cells #[.slice none 0 0, .int .i64 0] 50)) (PairO W W.heap.size (runU 4 5 3 20000 (fun _ => none) [((c, k), (c', k'))]) (W.alloc (.cells #[.slice none 0 0, .int .i64 0] 50)))) := fun W hW => pair_any W W.heap.size 20000 (Nat.le_refl _) (fun _ => none) none 0 0 [] (c, k) (c', k') p q n cx m cy _ (MS.start W) WfU.zero (fun x u h => by cases h) hok hok' HK.out.1 HK.out.2 ⟨by rw [en, ex]; rfl, hcx.1, hcx.2, by have := hp.below hW; rwa [ex] at this⟩ ⟨by rw [em, ey]; rfl, hcy.1, hcy.2, by have := hq.below hW; rwa [ey] at this⟩
    clear h1 h2 hp hq ex ey en em hok hok' hxb hyb hlx hly
    obtain ⟨RR, eRR⟩ : ∃ RR, RR = runU 4 5 3 20000 (fun _ => none) [((c, k), (c', k'))] := ⟨_, rfl⟩
    have HER : Hid (RR = runU 4 5 3 20000 (fun _ => none) [((c, k), (c', k'))]) := eRR
    rw [← eRR] at HPR
    clear eRR
    go_enter Tryz.func5, Tryz.ntmps5
    go_wp2_with fail
    refine HV1.mono ?_
    rintro e w1 ⟨rfl, hb1⟩
    have HB1 : Hid (Below w.heap.size w w1) := hb1
    clear hb1 HV1
    go_wp2_with fail
    refine (HV2.out w1 HB1.out).mono ?_
    rintro e w2 ⟨rfl, hb2⟩
    have HB2 : Hid (Below w.heap.size w w2) := Below.on HB1.out hb2
    clear hb2
    have HP2 := HPR.out w2 HB2.out
    go_wp2_with fail
    refine HP2.mono ?_
    intro e w3 ho
    clear HP2
    cases RR with
    | error d =>
      obtain ⟨hd, rfl, hb3, _⟩ := ho
      have HB3 : Hid (Below w.heap.size w w3) := Below.on HB2.out hb3
      have HD : Hid (3 ≤ d ∧ d ≤ 5) := hd
      have hd0 : (d == 0) = false := by rw [beq_eq_false_iff_ne]; omega
      clear hd hb3
      go_wp2_with fail
      go_ret2
      refine HFIN.out [] d _ _ _ _ _ ?_ rfl (OwnBB.nil _ _ _) HB3.out
      unfold UniT
      rw [← HER.out]
      exact ⟨rfl, rfl, HD.out.1, HD.out.2⟩
    | ok r =>
      obtain ⟨M, ff⟩ := r
      obtain ⟨rfl, hff, ⟨sp, sn, sc, bs, hms⟩, hwf, hsm, _⟩ := ho
      have HB3 : Hid (Below w.heap.size w w3) := Below.on HB2.out hms.low
      have s0 := hms.sub
      have hsn := hms.len
      have hsr : sn ≤ sc := hms.room
      have hsn2 : sn ≤ 20000 := by have := hms.few; have := hms.kle; omega
      have HBR : Hid (BsR bs M) := hms.bsr
      have HU : Hid (∀ (l : List Bnd) (code : Int), (match bindR M (bs.map Prod.fst) with | none => l = [] ∧ code = 3 | some l' => l = l' ∧ code = 0) → UniT (c, k) (c', k') l code) := fun l code h => by
        unfold UniT
        rw [← HER.out]
        exact ⟨_, HBR.out.asc, h⟩
      by_cases hbig : 1000 < sn
      · have HF : Hid (UniO w xs ys (.returned (.tuple #[.slice none 0 0, .int .i64 3])) w3) := HFIN.out [] 3 _ _ _ _ _ (HU.out [] 3 (by
          have : bindR M (bs.map Prod.fst) = none := by
            unfold bindR
            rw [if_neg (fun h => by have := h.1; simp only [List.length_map] at this; omega)]
          rw [this]; exact ⟨rfl, rfl⟩)) rfl (OwnBB.nil _ _ _) HB3.out
        have hL : (1000 : Int) < (sn : Int) := by omega
        clear hms hwf hsm hsn HBR HU hff
        go_wp2_with fail
        go_ret2
        exact HF.out
      · obtain ⟨rk, hac⟩ := hwf.acyc
        have HWH : Hid (∀ N, WholeOk w2 w3 w2.heap.size M rk N) := fun N => whole_any w2 w3 w2.heap.size M rk hac hwf hsm _ sp sn sc bs hms N
        have HM0 : Hid (∀ W, Below w3.heap.size w3 W → MS w2 W w2.heap.size M (20000 - ff) sp sn sc bs) := fun W h => hms.below h
        have HW : Hid ((Acyc M rk ∧ WfU M) ∧ ∀ x u, M x = some u → (tcs u).length ≤ 2000) := ⟨⟨hac, hwf⟩, hsm⟩
        have HLN : Hid (sn = bs.length) := hsn
        have hL : (sn : Int) ≤ 1000 := by omega
        have hbg : sn ≤ 1000 := by omega
        clear hms hwf hsm hsn hac hbig hff
        go_wp2_with fail
        go_loopw [8, 9] (fun al i wr => ∃ (j n c : Nat) (p : Option Addr), j ≤ sn ∧ n ≤ 1000 ∧ al = .slice p n c ∧ i = .int .i64 j ∧ Hid (n = j) ∧ Hid (OwnBB wr w3.heap.size wr.heap.size p n c (bndsU M ((bs.map Prod.fst).take j))) ∧ Hid (Below w3.heap.size w3 wr) ∧ Hid (∀ v ∈ (bs.map Prod.fst).take j, (bndU M v).2.length ≤ 2000)) (fun _ i _ => sn - (intOf i).toNat)
        case atStart => exact ⟨0, 0, 0, none, Nat.zero_le _, Nat.zero_le _, rfl, rfl, rfl, OwnBB.nil _ _ _, Below.refl _ _, fun v hv => by simp at hv⟩
        case round =>
          obtain ⟨j, n, c, p, hj, hn, rfl, rfl, HNJ, HOB, HB, HSM⟩ := hrel
          clear s0
          have hms := HM0.out wr HB.out
          have s0 := hms.sub
          by_cases hlt : j < sn
          · have hjk : j < bs.length := by rw [← HLN.out]; exact hlt
            obtain ⟨sg, so, rfl, hbs⟩ := hms.lies (by omega)
            obtain ⟨qd, cd, y0, y1, y2, y3, y4⟩ := hbs j hjk
            obtain ⟨u, hu, eu⟩ := HBR.out.at j hjk
            rw [eu] at y1 y2 y4
            have hfl : bndU M (bs.getD j Bnd.zero).1 = ((bs.getD j Bnd.zero).1, (tcs u).flatMap (putC M)) := by
              unfold bndU
              rw [hu]
              simp only [HW.out.1.2.full_flat u (HW.out.1.2.ok _ _ hu)]
              rfl
            have HTK : Hid ((bs.map Prod.fst).take (j + 1) = (bs.map Prod.fst).take j ++ [(bs.getD j Bnd.zero).1]) := by
              show _ = _
              rw [List.take_add_one, List.getElem?_eq_getElem (by simpa using hjk)]
              simp [List.getD, hjk]
            have hmem : (bs.getD j Bnd.zero).1 ∈ bs.map Prod.fst := List.mem_map.2 ⟨_, by simp [List.getD, hjk], rfl⟩
            have HREC := HWH.out (rk (bs.getD j Bnd.zero).1) u qd (tcs u).length cd wr.heap.size wr [] none 0 0 (HW.out.1.2.ok _ _ hu) (HW.out.2 _ _ hu) ⟨rfl, y2, y3, y4⟩ (fun v hv _ => HW.out.1.1 _ _ hu v hv) HB.out HB.out.size (Nat.le_refl _) (OwnC.nil _ _) (Nat.zero_le _)
            obtain ⟨x, ex⟩ : ∃ x, x = (bs.getD j Bnd.zero).1 := ⟨_, rfl⟩
            rw [← ex] at y0 hfl hmem HTK
            obtain ⟨ld, eld⟩ : ∃ l, l = (tcs u).length := ⟨_, rfl⟩
            rw [← eld] at y1 HREC
            obtain ⟨R, eR⟩ : ∃ R, R = (tcs u).flatMap (putC M) := ⟨_, rfl⟩
            rw [← eR] at hfl HREC
            rw [List.nil_append] at HREC
            have HBU : Hid (bndU M x = (x, R) ∧ x ∈ bs.map Prod.fst) := ⟨hfl, hmem⟩
            have HY0 : Hid (∀ W, Below wr.heap.size wr W → W.cell? ⟨sg, so + j * 2, none⟩ = some (.int .i64 x) ∧ W.cell? ⟨w2.heap.size, 0, none⟩ = some (.slice (some ⟨sg, so, none⟩) sn sc)) := fun W hW => ⟨(hW.cell (World.block_lt_of_cell? _ _ y0)).trans y0, (hW.cell (World.block_lt_of_cell? _ _ s0)).trans s0⟩
            clear hbs y0 y2 y3 y4 eu hu hfl hmem ex eld eR hms
            go_wp2_with fail
            refine HREC.mono ?_
            rintro e w4 ⟨hb4, ⟨hle, q4, m4, c4, rfl, ho4⟩ | ⟨hle, rfl⟩⟩
            · have HOC : Hid (OwnC w4 wr.heap.size q4 m4 c4 R) := ho4
              have HB4 : Hid (Below wr.heap.size wr w4) := hb4
              have HLR : Hid (R.length ≤ 2000) := hle
              clear s0 y1
              obtain ⟨y0, s0⟩ := HY0.out w4 hb4
              have HW3 : Hid (w3.heap.size ≤ wr.heap.size) := HB.out.size
              clear ho4 hb4 hle HREC
              go_wp2_with (at_builtin; refine app_bnd wr _ rfl _ _ rfl w3.heap.size p n c _ x rfl HOB.out HB4.out HW3.out q4 m4 c4 _ HOC.out rfl (by omega) ?_; intro g6 n6 cap6 w6 hown6 hb6 hn6 hg6 hat6)
              have HO6 : Hid (OwnBB w6 w3.heap.size w6.heap.size (some ⟨g6, 0, none⟩) n6 cap6 (bndsU M ((bs.map Prod.fst).take (j + 1)))) := by
                have e : bndsU M ((bs.map Prod.fst).take (j + 1)) = bndsU M ((bs.map Prod.fst).take j) ++ [(x, R)] := by
                  rw [HTK.out]
                  unfold bndsU
                  rw [List.map_append, List.map_singleton, HBU.out.1]
                rw [e]; exact hown6
              have HB6 : Hid (Below w3.heap.size w3 w6) := (HB.out.trans ((Below.on HB4.out ((Below.refl _ _).alloc (Nat.le_refl _) _)).mono HW3.out)).trans hb6
              have HM6 : Hid (∀ v ∈ (bs.map Prod.fst).take (j + 1), (bndU M v).2.length ≤ 2000) := fun v hv => by
                rw [HTK.out] at hv
                rcases List.mem_append.1 hv with hv | hv
                · exact HSM.out v hv
                · rw [List.mem_singleton.1 hv, HBU.out.1]; exact HLR.out
              have HN6 : Hid (n6 = j + 1) := by have := hn6.out; have := HNJ.out; show n6 = j + 1; omega
              have hn6b : n6 ≤ 1000 := by have := hn6.out; have := HNJ.out; omega
              clear hown6 hb6 hn6 hg6 hat6 HOC HB4
              go_wp2_with fail
              go_roundw
              case rel => exact ⟨j + 1, n6, cap6, _, by omega, hn6b, rfl, by go_num, HN6, HO6, HB6, HM6⟩
              case measure => simp [intOf]; omega
            · have HF : Hid (UniO w xs ys (.returned (.tuple #[.slice none 0 0, .int .i64 3])) w4) := HFIN.out [] 3 _ _ _ _ _ (HU.out [] 3 (by
                have : bindR M (bs.map Prod.fst) = none := by
                  unfold bindR
                  rw [if_neg (fun h => by have := h.2 x HBU.out.2; rw [HBU.out.1] at this; exact absurd this (by show ¬ R.length ≤ 2000; omega))]
                rw [this]; exact ⟨rfl, rfl⟩)) rfl (OwnBB.nil _ _ _) (Below.on HB3.out (Below.on HB.out hb4))
              clear hb4 hle HREC s0 y1
              go_wp2_with fail
              go_ret2
              exact HF.out
          · obtain rfl : j = sn := by omega
            have hall : (bs.map Prod.fst).take j = bs.map Prod.fst := List.take_of_length_le (by rw [List.length_map, HLN.out]; exact Nat.le_refl _)
            rw [hall] at HOB HSM
            have HF : Hid (UniO w xs ys (.returned (.tuple #[.slice p n c, .int .i64 0])) wr) := HFIN.out (bndsU M (bs.map Prod.fst)) 0 _ _ _ _ _ (HU.out _ 0 (by
              have : bindR M (bs.map Prod.fst) = some (bndsU M (bs.map Prod.fst)) := by
                unfold bindR
                rw [if_pos ⟨by rw [List.length_map, ← HLN.out]; omega, HSM.out⟩]
              rw [this]; exact ⟨rfl, rfl⟩)) rfl (HOB.out.wide (Nat.le_refl _) HB3.out.size) (Below.on HB3.out HB.out)
            clear hms hall
            go_wp2_with fail
            go_ret2
            exact HF.out
  · exact specUniC_bad xs ys p q cx cy hcx hcy w hn hm hp hq hv
end Go.Proofs.YtaakpdakeolgeaaGreat

namespace Go.Proofs.YtaakpdakeolgeaaGreat
open Go Go.RowKit
set_option linter.unusedVariables false
def EnvIn (W0 : World) (Bt : Nat) : Env → List (Int × Value) → Prop
  | [], E => E = []
  | y :: r, E => ∃ v s, E = (y.1, v) :: s ∧ FoIn W0 Bt y.2.fo [v] ∧ EnvIn W0 Bt r s
theorem EnvIn.look {W0 : World} {Bt : Nat} : ∀ (env : Env) (E : List (Int × Value)), EnvIn W0 Bt env E → ∀ x : Int, (∀ t, Go.Proofs.YtaakpdakeolgeaaGreat.look env x = some t → ∃ v, Go.Proofs.YtaakpdakeolgeaaGreat.look E x = some v ∧ FoIn W0 Bt t.fo [v]) ∧ (Go.Proofs.YtaakpdakeolgeaaGreat.look env x = none → Go.Proofs.YtaakpdakeolgeaaGreat.look E x = none)
  | [], E, h, x => by rw [show E = [] from h]; exact ⟨fun t e => (by cases e), fun _ => rfl⟩
  | y :: r, E, ⟨v, s, e, hf, hr⟩, x => by
    subst e
    have ih := EnvIn.look r s hr x
    simp only [Go.Proofs.YtaakpdakeolgeaaGreat.look]
    by_cases h : y.1 = x
    · simp only [if_pos h]
      exact ⟨fun t e => ⟨v, rfl, by cases e; exact hf⟩, fun e => by cases e⟩
    · simp only [if_neg h]
      exact ih
theorem EnvIn.snoc {W0 : World} {Bt : Nat} {x : Int} {t : Tr} {v : Value} (hf : FoIn W0 Bt t.fo [v]) : ∀ (env : Env) (E : List (Int × Value)), EnvIn W0 Bt env E → EnvIn W0 Bt (env ++ [(x, t)]) (E ++ [(x, v)])
  | [], E, h => by rw [show E = [] from h]; exact ⟨v, [], rfl, hf, rfl⟩
  | y :: r, E, ⟨u, s, e, h1, h2⟩ => by subst e; exact ⟨u, s ++ [(x, v)], rfl, h1, EnvIn.snoc hf r s h2⟩
def envOk (env : Env) : Prop := ∀ y ∈ env, y.2.ok ∧ y.2.2.cells.length ≤ 10000
def stOk (st : List TT) : Prop := ∀ y ∈ st, y.1.ok ∧ y.2.ok ∧ y.2.2.cells.length ≤ 10000
theorem opened_small {x : TT} (h1 : x.1.ok) (h2 : x.2.ok) (h3 : x.2.2.cells.length ≤ 10000) : stOk (opened x) := fun y hy => by
  have h := opened_ok h1 h2 y hy
  refine ⟨h.1, h.2, ?_⟩
  unfold opened argPairs at hy
  split at hy
  · have hz := (List.of_mem_zip (List.mem_reverse.1 hy)).2
    have : ∀ (F : Fo) (t : Tr), t ∈ trs F → t.2.cells.length ≤ F.cells.length := fun F => by
      induction F with
      | nil => intro t ht; simp [trs] at ht
      | node c k r _ ih =>
        intro t ht
        rcases List.mem_cons.1 (show t ∈ (c, k) :: trs r from ht) with rfl | ht
        · simp [Fo.cells]; omega
        · have := ih t ht
          simp [Fo.cells]; omega
    exact Nat.le_trans (this _ _ hz) h3
  · cases hy
structure SubSt (w : World) (wr : World) (R : Bool) (k : Nat) (p : Option Addr) (n c : Nat) (st : List TT) (env : Env) (E : List (Int × Value)) (N : Nat) : Prop where
  stk : Stk w 0 wr (w.heap.size + 1) (w.heap.size + 1 + 1) 0 p n c st
  map : VMap wr w.heap.size N E
  envin : EnvIn w 0 env E
  eok : envOk env
  sok : stOk st
  loadk : Go.Proofs.YtaakpdakeolgeaaGreat.load st = k
  room : N + k ≤ 20000
  res : (subL env st.reverse).isSome = R
  low : Below w.heap.size w wr
theorem VMap.kept2 {w w' : World} {b N sb so : Nat} {E : List (Int × Value)} {g : Option Nat} (h : VMap w b N E) (hk : Kept2 w w' sb so g) (h1 : b ≠ sb) (h2 : some b ≠ g) : VMap w' b N E := h.of_block (hk.block b h.lt h1 h2)
theorem Stk.grown {W0 : World} {Bt : Nat} {w w' : World} {B sb so mb : Nat} {p : Option Addr} {n c : Nat} {st : List TT} (h : Stk W0 Bt w B sb so p n c st) (hg : w.grownBy w' (some mb)) (h1 : mb < B) (h2 : mb ≠ sb) : Stk W0 Bt w' B sb so p n c st := by
  have hs : sb < w.heap.size := World.block_lt_of_cell? _ _ h.cell
  have hb : w'.heap[sb]? = w.heap[sb]? := hg.block sb hs (fun e => h2 (Option.some.inj e).symm)
  obtain ⟨vs, hr, hp⟩ := h.row
  refine ⟨(World.cell?_of_block (a := ⟨sb, so, none⟩) hb).trans h.cell, (World.frozen?_of_block (a := ⟨sb, so, none⟩) hb).trans h.free, h.len, ⟨vs, hr.kept hg ?_, hp⟩, h.away⟩
  right
  intro e
  have := (hr.lt mb e).1
  omega
set_option maxRecDepth 100000 in
set_option maxHeartbeats 2000000 in
theorem subsumes_any (w : World) (x : TT) (v1 v2 : Value) (hx1 : FoIn w 0 x.1.fo [v1]) (hx2 : FoIn w 0 x.2.fo [v2]) (ho1 : x.1.ok) (ho2 : x.2.ok) (hl : x.1.2.cells.length ≤ 10000) (hl2 : x.2.2.cells.length ≤ 10000) :
    Calls Tryz.prog 40 #[v1, v2] w fun e w' => e = .returned (.bool (subF [] x.1.fo x.2.fo).isSome) ∧ Below w.heap.size w w' := by
  obtain ⟨t1, y1, rfl⟩ := FoIn.iface (show FoIn w 0 (.node x.1.1 x.1.2 .nil) [v1] from hx1)
  obtain ⟨t2, y2, rfl⟩ := FoIn.iface (show FoIn w 0 (.node x.2.1 x.2.2 .nil) [v2] from hx2)
  have hms := Stk.made (w.alloc (.map #[] 0)) x (.iface t1 y1) (.iface t2 y2) 94 hx1 hx2
  simp only [World.size_alloc] at hms
  have HB : Hid (∀ a b d, Below w.heap.size w (((w.alloc a).alloc b).alloc d)) := fun a b d => (((Below.refl _ _).alloc (Nat.le_refl _) _).alloc (by simp) _).alloc (by simp; omega) _
  obtain ⟨R, eR⟩ : ∃ R, R = (subF [] x.1.fo x.2.fo).isSome := ⟨_, rfl⟩
  have HST : Hid (SubSt w (((w.alloc (.map #[] 0)).alloc (.cells #[.iface t1 y1, .iface t2 y2] 92)).alloc (.cells #[.slice (some ⟨w.heap.size + 1, 0, none⟩) 1 1] 94)) R (load [x]) (some ⟨w.heap.size + 1, 0, none⟩) 1 1 [x] [] [] 0) := ⟨hms, ((VMap.made w).below (((Below.refl _ _).alloc (Nat.le_refl _) _).alloc (by simp) _)).mono (Nat.zero_le _), rfl, fun y h => (by cases h), fun y hy => by rw [List.mem_singleton.1 hy]; exact ⟨ho1, ho2, hl2⟩, rfl, by simp [load]; omega, by rw [eR]; simp only [List.reverse_singleton, subL]; cases subF [] x.1.fo x.2.fo <;> rfl, HB.out _ _ _⟩
  rw [← eR]
  clear hx1 hx2 ho1 ho2 eR hms
  have hmm := @run_makeMap Tryz.prog
  go_enter Tryz.func40, Tryz.ntmps40
  go_wp2
  go_loopg [] (load [x]) (fun k wr => ∃ (p : Option Addr) (n c : Nat) (st : List TT) (env : Env) (E : List (Int × Value)) (N : Nat), wr.cell? ⟨w.heap.size + 1 + 1, 0, none⟩ = some (.slice p n c) ∧ n ≤ 100000 ∧ Hid (SubSt w wr R k p n c st env E N))
  case atStart => exact ⟨_, _, _, [x], [], [], 0, HST.out.stk.cell, by decide, HST.out⟩
  case round =>
    obtain ⟨p, n, c, st, env, E, N, hcell, hn, HR⟩ := hrel
    rcases List.eq_nil_or_concat st with rfl | ⟨st', y, rfl⟩
    · have hn0 : n = 0 := HR.out.stk.len
      subst hn0
      have HF : Hid (R = true) := HR.out.res.symm
      go_wp2
      go_ret
      exact ⟨ret_bool HF.out.symm, HR.out.low⟩
    · rw [List.concat_eq_append] at HR
      have hst := HR.out.stk
      have hn1 : n = st'.length + 1 := by rw [hst.len]; simp
      have hpos : (0 : Int) < (n : Int) := by omega
      have HT := take_any w 0 wr (w.heap.size + 1) (w.heap.size + 1 + 1) 0 p n c st' y (by omega) hst
      have HOY : Hid (y.1.ok ∧ y.2.ok ∧ y.2.2.cells.length ≤ 10000) := HR.out.sok y (by simp)
      have HN1 : Hid (n = st'.length + 1) := hn1
      have HBwr : Hid (w.heap.size + 1 + 1 < wr.heap.size) := World.block_lt_of_cell? _ _ hcell
      have HRV : Hid (subL env (y :: st'.reverse)).isSome = Hid (subL env (y :: st'.reverse)).isSome := rfl
      have HRES : Hid ((subL env (y :: st'.reverse)).isSome = R) := by have := HR.out.res; simpa [Hid] using this
      clear hst hn1 HRV
      go_wp2_with fail
      refine HT.mono ?_
      rintro e w1 ⟨v1, v2, rfl, f1, f2, ⟨p', n', c', hs', hrow'⟩, hk⟩
      obtain ⟨u1, z1, rfl⟩ := FoIn.iface (show FoIn w 0 (.node y.1.1 y.1.2 .nil) [v1] from f1)
      obtain ⟨u2, z2, rfl⟩ := FoIn.iface (show FoIn w 0 (.node y.2.1 y.2.2 .nil) [v2] from f2)
      have HS1 : Hid (Stk w 0 w1 (w.heap.size + 1) (w.heap.size + 1 + 1) 0 p' n' c' st') := hs'
      have HM1 : Hid (VMap w1 w.heap.size N E) := HR.out.map.kept2 hk (by omega) (fun e => by cases e)
      have HB1 : Hid (Below w.heap.size w w1) := HR.out.low.trans (hk.below (by omega) (fun k e => by cases e) (by have := HBwr.out; omega))
      have HF : Hid (FoIn w 0 y.1.fo [.iface u1 z1] ∧ FoIn w 0 y.2.fo [.iface u2 z2]) := ⟨f1, f2⟩
      have HSZ1 : Hid (wr.heap.size ≤ w1.heap.size) := hk.size
      have hsz1 : w.heap.size + 1 + 1 < w1.heap.size := Nat.lt_of_lt_of_le HBwr.out hk.size
      clear hs' hrow' hk HT f2 hcell
      obtain ⟨v', vr, e', hnode, _⟩ := f1
      obtain ⟨rfl, rfl⟩ := List.cons.inj e'
      by_cases h0 : y.1.1.1 = 0
      · have hu : u1 = 63 ∧ z1 = .int .i64 y.1.1.2.1 := by
          rcases hnode with ⟨_, e⟩ | ⟨e, _⟩ | ⟨e, _⟩ | ⟨e, _⟩
          · cases e; exact ⟨rfl, rfl⟩
          · omega
          · omega
          · omega
        obtain ⟨rfl, rfl⟩ := hu
        have hv := HOY.out.1.1
        rw [h0] at hv
        have hvr : 0 ≤ y.1.1.2.1 ∧ y.1.1.2.1 ≤ 1000000 := by simp [cellB] at hv; exact ⟨hv.1, hv.2.1⟩
        have a1 := isVar
        have hal : Below w1.heap.size w1 (w1.alloc (.cells #[.iface 63 (.int .i64 y.1.1.2.1), .iface u2 z2] 92)).drew := ((Below.refl w1.heap.size w1).alloc (Nat.le_refl _) _).drew
        have HSA : Hid _ := HS1.out.below hal
        have HBA : Hid _ := Below.on HB1.out hal
        have HMA : Hid _ := HM1.out.below hal
        have hld : load st' + 1 ≤ gk := by have := HR.out.loadk; rw [load_append] at this; simp [load] at this; omega
        have hrm := HR.out.room
        have HLK := (HR.out.envin).look _ _ y.1.1.2.1
        have H0 : Hid (y.1.1.1 = 0) := h0
        have hce : ∃ (f : TypeId × Value) (t : Tr) (env' : Env) (E' : List (Int × Value)), KeepOut = KeepOut ∧ (∀ W, VMap W w.heap.size N E → Calls Tryz.prog 68 #[.map (some w.heap.size), .int .i64 y.1.1.2.1, .iface u2 z2] W fun e w' => e = .returned (.iface f.1 f.2) ∧ VMap w' w.heap.size (N + 1) E' ∧ W.grownBy w' (some w.heap.size)) ∧ FoIn w 0 t.fo [.iface f.1 f.2] ∧ t.ok ∧ t.2.cells.length ≤ 10000 ∧ EnvIn w 0 env' E' ∧ envOk env' ∧ (subL env (y :: st'.reverse)).isSome = (eqT (t, y.2) && (subL env' st'.reverse).isSome) := by
          cases hl : look env y.1.1.2.1 with
          | some t =>
            obtain ⟨v, hv1, hv2⟩ := HLK.1 t hl
            obtain ⟨tt, yy, rfl⟩ := FoIn.iface (show FoIn w 0 (.node t.1 t.2 .nil) [v] from hv2)
            have hte := HR.out.eok _ (look_mem hl)
            refine ⟨(tt, yy), t, env, E, rfl, fun W hW => ?_, hv2, hte.1, hte.2, HR.out.envin, HR.out.eok, ?_⟩
            · have := keep_any w.heap.size N E y.1.1.2.1 u2 z2 W hvr.1 hvr.2 (by omega) (fun u hu => by rw [hv1] at hu; cases hu; exact ⟨_, _, rfl⟩) hW
              unfold KeepOut at this
              rw [hv1] at this
              exact this
            · rw [subL_old _ H0.out hl]
              cases eqT (t, y.2) <;> simp
          | none =>
            have hv1 := HLK.2 hl
            refine ⟨(u2, z2), y.2, env ++ [(y.1.1.2.1, y.2)], E ++ [(y.1.1.2.1, .iface u2 z2)], rfl, fun W hW => ?_, HF.out.2, HOY.out.2.1, HOY.out.2.2, EnvIn.snoc HF.out.2 _ _ HR.out.envin, ?_, ?_⟩
            · have := keep_any w.heap.size N E y.1.1.2.1 u2 z2 W hvr.1 hvr.2 (by omega) (fun u hu => by rw [hv1] at hu; cases hu) hW
              unfold KeepOut at this
              rw [hv1] at this
              exact this
            · intro z hz
              rcases List.mem_append.1 hz with hz | hz
              · exact HR.out.eok z hz
              · rw [List.mem_singleton.1 hz]; exact ⟨HOY.out.2.1, HOY.out.2.2⟩
            · rw [subL_new _ H0.out hl, (eqT_iff (y.2, y.2)).2 rfl]; simp
        obtain ⟨f, t, env', E', _, hkeep, hft, htok, htl, henv, heok, hres⟩ := hce
        have HKP : Hid (∀ W, VMap W w.heap.size N E → Calls Tryz.prog 68 #[.map (some w.heap.size), .int .i64 y.1.1.2.1, .iface u2 z2] W fun e w' => e = .returned (.iface f.1 f.2) ∧ VMap w' w.heap.size (N + 1) E' ∧ W.grownBy w' (some w.heap.size)) := hkeep
        have HSM : Hid (∀ W, Below w.heap.size w W → Calls Tryz.prog 44 #[.iface f.1 f.2, .iface u2 z2] W fun e w' => e = .returned (.bool (eqT (t, y.2))) ∧ Below W.heap.size W w') := fun W hW => isSame_any w 0 W (t, y.2) _ _ hW hft HF.out.2 htok HOY.out.2.1 htl
        have HEN : Hid (EnvIn w 0 env' E' ∧ envOk env') := ⟨henv, heok⟩
        have HRE : Hid (R = (eqT (t, y.2) && (subL env' st'.reverse).isSome)) := by show _ = _; rw [← hres]; exact HRES.out.symm
        obtain ⟨f1, f2⟩ := f
        simp only at HKP HSM
        obtain ⟨vv, evv⟩ : ∃ vv, vv = y.1.1.2.1 := ⟨_, rfl⟩
        rw [← evv] at HKP HSA HBA HMA ⊢
        have HAFT : Hid (∀ w3, (w1.alloc (.cells #[.iface 63 (.int .i64 vv), .iface u2 z2] 92)).drew.grownBy w3 (some w.heap.size) → w3.cell? ⟨w1.heap.size, 1, none⟩ = some (.iface u2 z2) ∧ Below w.heap.size w w3 ∧ Stk w 0 w3 (w.heap.size + 1) (w.heap.size + 1 + 1) 0 p' n' c' st') := fun w3 hg => by
          refine ⟨?_, HBA.out.grown hg HBA.out.size (fun k e => by cases e; exact Nat.le_refl _), HSA.out.grown hg (by omega) (by omega)⟩
          rw [World.cell?_of_block (a := ⟨w1.heap.size, 1, none⟩) (hg.block w1.heap.size (by show _ < (w1.alloc _).heap.size; simp) (fun e => by have := Option.some.inj e; omega))]
          exact cell_of_row _ _ 1 _ _ _ (heap_alloc_new w1 _)
        obtain ⟨R2, eR2⟩ : ∃ R2, R2 = eqT (t, y.2) := ⟨_, rfl⟩
        rw [← eR2] at HSM HRE
        clear hnode h0 hal e' hkeep hft htok htl henv heok hres eR2 evv HLK hvr hv
        go_wp2_with fail
        go_region_held3 (fun W => W.cell? ⟨w1.heap.size, 1, none⟩ = some (.iface u2 z2)) (first | exact kc | go_keep)
          (first
            | (go_at_call 68; refine (HKP.out _ HMA.out).mono ?_; rintro e w3 ⟨rfl, hm3, hg3⟩; obtain ⟨kc, hb3, hs3⟩ := HAFT.out w3 hg3)
            | (go_at_call 44; refine (HSM.out _ hb3).mono ?_; rintro e w4 ⟨rfl, hb4⟩; have kc := (hb4.cell (p := ⟨w1.heap.size, 1, none⟩) (World.block_lt_of_cell? _ _ kc)).trans kc))
        have HM4 : Hid _ := hm3.below hb4
        have HS4 : Hid _ := hs3.below hb4
        have HB4 : Hid _ := Below.on hb3 hb4
        clear hm3 hg3 hs3 hb3 hb4 kc
        cases R2 with
        | false =>
          have HFR : Hid (R = false) := by show _ = _; rw [HRE.out]; rfl
          go_wp2_with fail
          go_ret
          exact ⟨ret_bool HFR.out.symm, HB4.out⟩
        | true =>
          go_wp2_with fail
          go_roundg (load st')
          case measure => omega
          case rel =>
            exact ⟨p', n', c', st', env', E', N + 1, HS4.out.cell, by have := HS4.out.len; have := HN1.out; omega, HS4.out, HM4.out, HEN.out.1, HEN.out.2, fun z hz => HR.out.sok z (by simp [hz]), rfl, by omega, by have := HRE.out; simpa using this.symm, HB4.out⟩
      · have hty : ∀ W, (Instr.typeAssert (.iface u1 z1) 57 63 true).run Tryz.prog W = .ok (.tuple #[.int .i64 0, .bool false]) W := fun W => by
          rcases hnode with ⟨e, _⟩ | ⟨_, e⟩ | ⟨_, e⟩ | ⟨_, b, g, vs, e, _⟩
          · exact absurd e h0
          · cases e; exact noVar_num W _
          · cases e; exact noVar_atom W _
          · cases e; exact noVar_comp W _
        have H0 : Hid (y.1.1.1 ≠ 0) := h0
        have hal : Below w1.heap.size w1 (w1.alloc (.cells #[.iface u1 z1, .iface u2 z2] 92)).drew := ((Below.refl w1.heap.size w1).alloc (Nat.le_refl _) _).drew
        have HAL : Hid _ := hal
        have hstA := HS1.out.below hal
        have HBA : Hid (Below w.heap.size w (w1.alloc (.cells #[.iface u1 z1, .iface u2 z2] 92)).drew) := Below.on HB1.out hal
        have HO := open_any w 0 (w1.alloc (.cells #[.iface u1 z1, .iface u2 z2] 92)).drew (w.heap.size + 1) (w.heap.size + 1 + 1) 0 p' n' c' st' y _ _ hstA HBA.out (by omega) (by omega) (by have := HS1.out.len; have := HN1.out; omega) HF.out.1 HF.out.2 HOY.out.1 HOY.out.2.1
        have HRB : Hid (∀ j, Value.ownBlock (.slice p' n' c') = some j → w.heap.size + 1 ≤ j) := fun j e => by
          obtain ⟨_, hr, _⟩ := HS1.out.row
          exact (hr.lt j e).1
        clear hnode h0 hstA e' hal
        go_wp2_with fail
        refine wp_region_held (S := fun _ => True) (by kernel_rfl) ?_
        refine hTake (i := 0) (v := .bool false) (some 25) (by kernel_rfl) (by kernel_rfl) (by kernel_rfl) (by kernel_rfl) (by kernel_rfl) (fun _ _ _ h => h) (fun o ho W hSw => ?y0) trivial ?_
        case y0 =>
          cases ho
          simp [execOp, go_sem, Act.eval]
        simp only [Act.put, List.setIfInBounds_toArray, List.set_cons_zero, List.set_cons_succ]
        refine hTake (i := 1) (v := .bool false) (some 26) (by kernel_rfl) (by kernel_rfl) (by kernel_rfl) (by kernel_rfl) (by kernel_rfl) (fun _ _ _ h => h) (fun o ho W hSw => ?y1) trivial ?_
        case y1 =>
          cases ho
          simp [execOp, go_sem, Act.eval]
        simp only [Act.put, List.setIfInBounds_toArray, List.set_cons_zero, List.set_cons_succ]
        refine hSkip (i := 2) (some 27) (by kernel_rfl) (by kernel_rfl) (by kernel_rfl) (by kernel_rfl) (by kernel_rfl) (fun _ _ _ h => h) trivial ?_
        simp only [Act.put, List.setIfInBounds_toArray, List.set_cons_zero, List.set_cons_succ]
        refine hSkip (i := 3) (some 28) (by kernel_rfl) (by kernel_rfl) (by kernel_rfl) (by kernel_rfl) (by kernel_rfl) (fun _ _ _ h => h) trivial ?_
        simp only [Act.put, List.setIfInBounds_toArray, List.set_cons_zero, List.set_cons_succ]
        refine hSkip (i := 4) (some 29) (by kernel_rfl) (by kernel_rfl) (by kernel_rfl) (by kernel_rfl) (by kernel_rfl) (fun _ _ _ h => h) trivial ?_
        simp only [Act.put, List.setIfInBounds_toArray, List.set_cons_zero, List.set_cons_succ]
        refine hSkip (i := 5) (some 30) (by kernel_rfl) (by kernel_rfl) (by kernel_rfl) (by kernel_rfl) (by kernel_rfl) (fun _ _ _ h => h) trivial ?_
        simp only [Act.put, List.setIfInBounds_toArray, List.set_cons_zero, List.set_cons_succ]
        refine hSkip (i := 6) (some 31) (by kernel_rfl) (by kernel_rfl) (by kernel_rfl) (by kernel_rfl) (by kernel_rfl) (fun _ _ _ h => h) trivial ?_
        simp only [Act.put, List.setIfInBounds_toArray, List.set_cons_zero, List.set_cons_succ]
        refine hSkip (i := 7) (some 32) (by kernel_rfl) (by kernel_rfl) (by kernel_rfl) (by kernel_rfl) (by kernel_rfl) (fun _ _ _ h => h) trivial ?_
        simp only [Act.put, List.setIfInBounds_toArray, List.set_cons_zero, List.set_cons_succ]
        refine hSkip (i := 8) (some 33) (by kernel_rfl) (by kernel_rfl) (by kernel_rfl) (by kernel_rfl) (by kernel_rfl) (fun _ _ _ h => h) trivial ?_
        simp only [Act.put, List.setIfInBounds_toArray, List.set_cons_zero, List.set_cons_succ]
        refine hSkip (i := 9) (some 34) (by kernel_rfl) (by kernel_rfl) (by kernel_rfl) (by kernel_rfl) (by kernel_rfl) (fun _ _ _ h => h) trivial ?_
        simp only [Act.put, List.setIfInBounds_toArray, List.set_cons_zero, List.set_cons_succ]
        refine hSkip (i := 10) (some 35) (by kernel_rfl) (by kernel_rfl) (by kernel_rfl) (by kernel_rfl) (by kernel_rfl) (fun _ _ _ h => h) trivial ?_
        simp only [Act.put, List.setIfInBounds_toArray, List.set_cons_zero, List.set_cons_succ]
        refine hTake (i := 11) (v := .bool false) (some 36) (by kernel_rfl) (by kernel_rfl) (by kernel_rfl) (by kernel_rfl) (by kernel_rfl) (fun _ _ _ h => h) (fun o ho W hSw => ?y11) trivial ?_
        case y11 =>
          cases ho
          simp [execOp, go_sem, Act.eval]
        simp only [Act.put, List.setIfInBounds_toArray, List.set_cons_zero, List.set_cons_succ]
        refine wpAnyH_done (by kernel_rfl) ?_ _
        change Exit.then _ _ _ _ (w1.alloc (.cells #[.iface u1 z1, .iface u2 z2] 92)).drew
        by_cases hy : y.1.1 = y.2.1
        · have hd : decide (y.1.1 = y.2.1) = true := by simpa using hy
          unfold OpenOut at HO
          rw [hd] at HO
          have HLD : Hid (load (st' ++ opened y) < gk ∧ (subL env (st' ++ opened y).reverse).isSome = R ∧ stOk (st' ++ opened y) ∧ N + load (st' ++ opened y) ≤ 20000) := by
            have hlk := HR.out.loadk
            have hrm := HR.out.room
            rw [load_append] at hlk
            have := load_opened y
            have h1 : load (st' ++ opened y) < gk := by rw [load_append, ← hlk]; simp [load]; omega
            refine ⟨h1, ?_, ?_, by omega⟩
            · rw [List.reverse_append, subL_open _ H0.out hy (ok_count HOY.out.1 HOY.out.2.1 hy)]; exact HRES.out
            · intro z hz
              rcases List.mem_append.1 hz with hz | hz
              · exact HR.out.sok z (by simp [hz])
              · exact opened_small HOY.out.1 HOY.out.2.1 HOY.out.2.2 z hz
          clear hd hy
          go_wp2_with fail
          refine HO.mono ?_
          rintro e w2 ⟨rfl, ⟨p2, n2, c2, hs2, _⟩, hk2⟩
          have HS2 : Hid _ := hs2
          have HB2 : Hid (Below w.heap.size w w2) := HBA.out.trans (hk2.below (by omega) (fun k e => by have := HRB.out k e; omega) HBA.out.size)
          have HM2 : Hid (VMap w2 w.heap.size N E) := (HM1.out.below HAL.out).kept2 hk2 (by omega) (fun e => by have := HRB.out _ e.symm; omega)
          clear hk2 HO hs2
          go_wp2_with fail
          go_roundg (load (st' ++ opened y))
          case measure => exact HLD.out.1
          case rel =>
            have h4 := HLD.out.2.2.2
            exact ⟨p2, n2, c2, st' ++ opened y, env, E, N, HS2.out.cell, by have := HS2.out.len; have := len_load (st' ++ opened y); omega, HS2.out, HM2.out, HR.out.envin, HR.out.eok, HLD.out.2.2.1, rfl, h4, HLD.out.2.1, HB2.out⟩
        · have hd : decide (y.1.1 = y.2.1) = false := by simpa using hy
          unfold OpenOut at HO
          rw [hd] at HO
          have HFR : Hid (R = false) := by show _ = _; rw [← HRES.out, subL_no _ H0.out hy]; rfl
          clear hd hy
          go_wp2_with fail
          refine HO.mono ?_
          rintro e w2 ⟨rfl, _, hk2⟩
          have HB2 : Hid (Below w.heap.size w w2) := HBA.out.trans (hk2.below (by omega) (fun k e => by have := HRB.out k e; omega) HBA.out.size)
          clear hk2 HO
          go_wp2_with fail
          go_ret
          exact ⟨ret_bool HFR.out.symm, HB2.out⟩
end Go.Proofs.YtaakpdakeolgeaaGreat

namespace Go.Proofs.YtaakpdakeolgeaaGreat
open Go Go.RowKit
set_option linter.unusedVariables false
def sgn (b : Bool) : Int := if b then -1 else 1
theorem sgn_ne (b : Bool) : sgn b ≠ 0 := by cases b <;> decide
def cellCmp (x y : Cel) : Int := if x.1 ≠ y.1 then sgn (decide (x.1 < y.1)) else if x.2.1 ≠ y.2.1 then sgn (decide (x.2.1 < y.2.1)) else if (strOfNums x.2.2).toList == (strOfNums y.2.2).toList then 0 else sgn (Op.bytesLess (strOfNums x.2.2).toList (strOfNums y.2.2).toList)
def cmpC : List Cel → List Cel → Int
  | x :: xs, y :: ys => if cellCmp x y ≠ 0 then cellCmp x y else cmpC xs ys
  | _, _ => 0
theorem cmpC_drop (xs ys : List Cel) (k : Nat) (h1 : k < xs.length) (h2 : k < ys.length) : cmpC (xs.drop k) (ys.drop k) = if cellCmp (xs.getD k Cel.none) (ys.getD k Cel.none) ≠ 0 then cellCmp (xs.getD k Cel.none) (ys.getD k Cel.none) else cmpC (xs.drop (k + 1)) (ys.drop (k + 1)) := by
  rw [List.drop_eq_getElem_cons h1, List.drop_eq_getElem_cons h2, cmpC, List.getD, List.getD, List.getElem?_eq_getElem h1, List.getElem?_eq_getElem h2]; rfl
theorem cmpC_nil (xs ys : List Cel) (k : Nat) (h : xs.length ≤ k ∨ ys.length ≤ k) : cmpC (xs.drop k) (ys.drop k) = 0 := by
  rcases h with h | h
  · rw [List.drop_eq_nil_of_le h, cmpC]; simp
  · rw [List.drop_eq_nil_of_le h]
    cases xs.drop k <;> simp [cmpC]
theorem l2sign_any (b : Bool) (w : World) : Calls Tryz.prog 70 #[.bool b] w fun e w' => e = .returned (.int .i64 (sgn b)) ∧ w' = w := by
  cases b
  · go_enter Tryz.func70, Tryz.ntmps70
    go_wp2_with fail
    go_ret
    exact ⟨rfl, rfl⟩
  · go_enter Tryz.func70, Tryz.ntmps70
    go_wp2_with fail
    go_ret
    exact ⟨rfl, rfl⟩
set_option maxRecDepth 100000 in
set_option maxHeartbeats 1000000 in
theorem l2compare_any (xs ys : List Cel) (p q : Option Addr) (n m c1 c2 : Nat) (w : World) (hn : n = xs.length) (hm : m = ys.length) (hnb : n ≤ 1000000000) (hmb : m ≤ 1000000000) (hx : CIn w p xs) (hy : CIn w q ys) :
    Calls Tryz.prog 43 #[.slice p n c1, .slice q m c2] w fun e w' => e = .returned (.int .i64 (cmpC xs ys)) ∧ Below w.heap.size w w' := by
  have HX : Hid (CIn w p xs) := hx
  have HY : Hid (CIn w q ys) := hy
  have HL : Hid (n = xs.length ∧ m = ys.length) := ⟨hn, hm⟩
  clear hx hy hn hm
  go_enter Tryz.func43, Tryz.ntmps43
  go_wp2_with fail
  go_loopw [5] (fun i wr => ∃ k : Nat, k ≤ n ∧ i = .int .i64 k ∧ Hid (cmpC xs ys = cmpC (xs.drop k) (ys.drop k)) ∧ Hid (Below w.heap.size w wr)) (fun i _ => n - (intOf i).toNat)
  case atStart => exact ⟨0, Nat.zero_le _, rfl, rfl, Below.refl _ _⟩
  case round =>
    obtain ⟨k, hk, rfl, HC, HB⟩ := hrel
    by_cases h1 : k < n
    · by_cases h2 : k < m
      · have hkx : k < xs.length := by rw [← HL.out.1]; exact h1
        have hky : k < ys.length := by rw [← HL.out.2]; exact h2
        have HD : Hid _ := cmpC_drop xs ys k hkx hky
        obtain ⟨b, o, rfl, hcx⟩ := (HX.out.below HB.out) (by omega)
        obtain ⟨b', o', rfl, hcy⟩ := (HY.out.below HB.out) (by omega)
        obtain ⟨px, qx, x0, x1, x2, x3⟩ := hcx k hkx
        obtain ⟨py, qy, y0, y1, y2, y3⟩ := hcy k hky
        obtain ⟨X, eX⟩ : ∃ X, X = xs.getD k Cel.none := ⟨_, rfl⟩
        obtain ⟨Y, eY⟩ : ∃ Y, Y = ys.getD k Cel.none := ⟨_, rfl⟩
        rw [← eX, ← eY] at HD
        rw [← eX] at x0 x1 x2 x3
        rw [← eY] at y0 y1 y2 y3
        obtain ⟨lx, elx⟩ : ∃ l, l = X.2.2.length := ⟨_, rfl⟩
        obtain ⟨ly, ely⟩ : ∃ l, l = Y.2.2.length := ⟨_, rfl⟩
        rw [← elx] at x2
        rw [← ely] at y2
        obtain ⟨sx, esx⟩ : ∃ s, s = strOfNums X.2.2 := ⟨_, rfl⟩
        obtain ⟨sy, esy⟩ : ∃ s, s = strOfNums Y.2.2 := ⟨_, rfl⟩
        have cvx : ∀ W, Below wr.heap.size wr W → (convert 22 9 (.slice px lx qx)).run Tryz.prog W = .ok (.string sx) W := fun W hW => by rw [esx]; exact conv_str (x3.below hW) lx qx elx 9 Tryz.underlying9
        have cvy : ∀ W, Below wr.heap.size wr W → (convert 22 9 (.slice py ly qy)).run Tryz.prog W = .ok (.string sy) W := fun W hW => by rw [esy]; exact conv_str (y3.below hW) ly qy ely 9 Tryz.underlying9
        obtain ⟨a1, ea1⟩ : ∃ a, a = X.1 := ⟨_, rfl⟩
        obtain ⟨a2, ea2⟩ : ∃ a, a = X.2.1 := ⟨_, rfl⟩
        obtain ⟨d1, ed1⟩ : ∃ a, a = Y.1 := ⟨_, rfl⟩
        obtain ⟨d2, ed2⟩ : ∃ a, a = Y.2.1 := ⟨_, rfl⟩
        have HCC : Hid (cellCmp X Y = if a1 ≠ d1 then sgn (decide (a1 < d1)) else if a2 ≠ d2 then sgn (decide (a2 < d2)) else if sx.toList == sy.toList then 0 else sgn (Op.bytesLess sx.toList sy.toList)) := by
          show _ = _
          rw [ea1, ea2, ed1, ed2, esx, esy]; rfl
        rw [← ea1] at x0
        rw [← ea2] at x1
        rw [← ed1] at y0
        rw [← ed2] at y1
        clear hcx hcy x3 y3 eX eY elx ely esx esy ea1 ea2 ed1 ed2
        have hW2 : Below wr.heap.size wr ((wr.alloc (Obj.cells #[.int .i64 a1, .int .i64 a2, .slice px lx qx] 35)).alloc (Obj.cells #[.int .i64 d1, .int .i64 d2, .slice py ly qy] 35)) := ((Below.refl _ wr).alloc (Nat.le_refl _) _).alloc (by simp) _
        have cx := cvx _ hW2
        have cy := cvy _ hW2
        have HB2 : Hid (Below w.heap.size w ((wr.alloc (Obj.cells #[.int .i64 a1, .int .i64 a2, .slice px lx qx] 35)).alloc (Obj.cells #[.int .i64 d1, .int .i64 d2, .slice py ly qy] 35))) := Below.on HB.out hW2
        clear cvx cvy hW2
        have hW1 : Below wr.heap.size wr (wr.alloc (Obj.cells #[.int .i64 a1, .int .i64 a2, .slice px lx qx] 35)) := (Below.refl _ wr).alloc (Nat.le_refl _) _
        have z0 := (hW1.cell (World.block_lt_of_cell? _ _ y0)).trans y0
        have z1 := (hW1.cell (World.block_lt_of_cell? _ _ y1)).trans y1
        have z2 := (hW1.cell (World.block_lt_of_cell? _ _ y2)).trans y2
        clear hW1 y0 y1 y2
        by_cases e1 : a1 = d1
        · subst e1
          by_cases e2 : a2 = d2
          · subst e2
            cases e3 : (sx.toList == sy.toList) with
            | true =>
              have HZ : Hid (cellCmp X Y = 0) := by show _ = _; rw [HCC.out, if_neg (by simp), if_neg (by simp), if_pos e3]
              go_wp2_with fail
              go_roundw
              case rel => exact ⟨k + 1, by omega, by go_num, by show _ = _; rw [HC.out, HD.out, if_neg (by rw [HZ.out]; simp)], HB2⟩
              case measure => simp [intOf]; omega
            | false =>
              have HZ : Hid (cellCmp X Y = sgn (Op.bytesLess sx.toList sy.toList)) := by show _ = _; rw [HCC.out, if_neg (by simp), if_neg (by simp), if_neg (by rw [e3]; simp)]
              go_wp2_with fail
              refine (l2sign_any _ _).mono ?_
              rintro e w9 ⟨rfl, rfl⟩
              go_wp2_with fail
              go_ret
              exact ⟨ret_int (by rw [HC.out, HD.out, if_pos (by rw [HZ.out]; exact sgn_ne _), HZ.out]), HB2.out⟩
          · have HZ : Hid (cellCmp X Y = sgn (decide (a2 < d2))) := by show _ = _; rw [HCC.out, if_neg (by simp), if_pos e2]
            go_wp2_with fail
            refine (l2sign_any _ _).mono ?_
            rintro e w9 ⟨rfl, rfl⟩
            go_wp2_with fail
            go_ret
            exact ⟨ret_int (by rw [HC.out, HD.out, if_pos (by rw [HZ.out]; exact sgn_ne _), HZ.out]), HB2.out⟩
        · have HZ : Hid (cellCmp X Y = sgn (decide (a1 < d1))) := by show _ = _; rw [HCC.out, if_pos e1]
          go_wp2_with fail
          refine (l2sign_any _ _).mono ?_
          rintro e w9 ⟨rfl, rfl⟩
          go_wp2_with fail
          go_ret
          exact ⟨ret_int (by rw [HC.out, HD.out, if_pos (by rw [HZ.out]; exact sgn_ne _), HZ.out]), HB2.out⟩
      · have HF : Hid (cmpC xs ys = 0) := by show _ = _; rw [HC.out]; exact cmpC_nil _ _ _ (.inr (by rw [← HL.out.2]; omega))
        go_wp2_with fail
        go_ret
        exact ⟨ret_int HF.out.symm, HB.out⟩
    · have HF : Hid (cmpC xs ys = 0) := by show _ = _; rw [HC.out]; exact cmpC_nil _ _ _ (.inl (by rw [← HL.out.1]; omega))
      go_wp2_with fail
      go_ret
      exact ⟨ret_int HF.out.symm, HB.out⟩
end Go.Proofs.YtaakpdakeolgeaaGreat

namespace Go.Proofs.YtaakpdakeolgeaaGreat
open Go Go.RowKit
set_option linter.unusedVariables false
theorem cellCmp_zero {x y : Cel} (hx : Byte x.2.2) (hy : Byte y.2.2) : cellCmp x y = 0 ↔ x = y := by
  obtain ⟨a, b, c⟩ := x
  obtain ⟨a', b', c'⟩ := y
  simp only at hx hy
  simp only [cellCmp]
  by_cases h1 : a = a'
  · by_cases h2 : b = b'
    · subst h1 h2
      have hs := str_inj hx hy
      rw [beq_toListBytes] at hs
      simp only [ne_eq, not_true_eq_false, if_false, hs]
      by_cases h3 : c = c'
      · simp [h3]
      · simp [h3, sgn_ne]
    · simp [h1, h2, sgn_ne]
  · simp [h1, sgn_ne]
theorem cmpC_zero : ∀ (xs ys : List Cel), xs.length = ys.length → (∀ x ∈ xs, Byte x.2.2) → (∀ y ∈ ys, Byte y.2.2) → (cmpC xs ys = 0 ↔ xs = ys)
  | [], [], _, _, _ => by simp [cmpC]
  | [], _ :: _, h, _, _ => by simp at h
  | _ :: _, [], h, _, _ => by simp at h
  | x :: xs, y :: ys, h, hx, hy => by
    have h0 := cellCmp_zero (hx x (by simp)) (hy y (by simp))
    have ih := cmpC_zero xs ys (by simpa using h) (fun z hz => hx z (by simp [hz])) (fun z hz => hy z (by simp [hz]))
    simp only [cmpC]
    by_cases hc : cellCmp x y = 0
    · rw [if_neg (by simp [hc]), ih, h0.1 hc]; simp
    · rw [if_pos hc]
      constructor
      · intro e; exact absurd e hc
      · intro e; injection e with e1 e2; exact absurd (h0.2 e1) hc
def variantB (xs ys : List Cel) : Bool := validB xs && validB ys && decide (renCells xs = renCells ys)
end Go.Proofs.YtaakpdakeolgeaaGreat

