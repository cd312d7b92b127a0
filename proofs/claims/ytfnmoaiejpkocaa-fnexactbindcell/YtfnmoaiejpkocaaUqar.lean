/- Texts of SoJ, DrI, L1c. Own work of the verifier. -/
import Derived.Test.YtfnmoaiejpkocaaUqaq
import Derived.Test.YtfnmoaiejpkocaaUqao
import Derived.Test.YtfnmoaiejpkocaaUqad
import Derived.Deep.Upon
namespace Go.Proofs.Ytfnmoaiejpkocaa
open Go Go.RowKit Go.Maps
set_option linter.unusedVariables false

/-- What store answers: its trail lies ahead of M, its cells behind. -/
def StoreOut (xs : List Cel) (tr : List Int) (w : World) (e : Ending) (w' : World) : Prop :=
  ∃ p q c1 c2 M, e = .returned (.agg #[.slice p xs.length c1, .slice q tr.length c2]) ∧ OwnIU w' w.heap.size M q tr.length c2 tr ∧ OwnCU w' M w'.heap.size p xs.length c1 xs ∧ w.heap.size ≤ M ∧ M ≤ w'.heap.size ∧ Below w.heap.size w w'
theorem take_cel (xs : List Cel) (k : Nat) (h : k < xs.length) : xs.take (k + 1) = xs.take k ++ [xs.getD k Cel.none] := by
  rw [List.take_succ_eq_append_getElem h, List.getD, List.getElem?_eq_getElem h]; rfl
theorem CIn_len0 (w : World) (p : Option Addr) : CIn w p [] := fun h => absurd h (Nat.lt_irrefl 0)
/-- The next cell is put. -/
theorem SFill.next {w0 wr w5 : World} {bs k : Nat} {xs : List Cel} {tr : List Int} {pt : Option Addr} {ct g n' cap : Nat} (H : SFill w0 wr bs (xs.take k) tr pt ct) (hk : k < xs.length) {wx : World} (hbx : Below wr.heap.size wr wx) (ho : OwnC w5 (bs + 1) (some ⟨g, 0, none⟩) n' cap (xs.take k ++ [xs.getD k Cel.none])) (hb : Below (bs + 1) wx w5) (hn : n' = k + 1) :
    SFill w0 (w5.setCell ⟨bs, 0, none⟩ (.slice (some ⟨g, 0, none⟩) n' cap)) bs (xs.take (k + 1)) tr pt ct := by
  obtain ⟨pc, cc, ⟨h0, h1⟩, hf, hc, hi, hB, hle⟩ := H
  have hlt := World.block_lt_of_cell? _ _ h0
  have hsz := hbx.size
  have e0 : w5.heap[bs]? = wr.heap[bs]? := (hb.block bs (Nat.lt_succ_self _)).trans (hbx.block bs hlt)
  have hB5 : Below w0.heap.size w0 w5 := (Below.on hB hbx).trans (hb.mono (by omega))
  have hlen : (xs.take (k + 1)).length = n' := by rw [hn, List.length_take]; omega
  have hg := (ho.2.choose_spec.2.1.lt g rfl).1
  have hK : Keep (bs + 1) w5.heap.size wr w5 := ⟨hb.os.trans hbx.os, hb.tape.trans hbx.tape, hb.output.trans hbx.output, Nat.le_trans hsz hb.size, fun j hj hp => by
    rcases hp with hp | hp
    · exact (hb.block j hp).trans (hbx.block j hj)
    · have := Nat.le_trans hsz hb.size; omega⟩
  refine ⟨some ⟨g, 0, none⟩, cap, ⟨?_, ?_⟩, fun j => ?_, ?_, ?_, hB5.setCell (p := ⟨bs, 0, none⟩) hle _, hle⟩
  · rw [hlen]
    exact World.cell?_setCell_same _ _ _ ((World.cell?_of_block (a := ⟨bs, 0, none⟩) e0).trans h0)
  · exact (World.cell?_setCell_other _ _ _ _ (by simp)).trans ((World.cell?_of_block (a := ⟨bs, 1, none⟩) e0).trans h1)
  · rw [World.frozen?_setCell]
    exact (World.frozen?_of_block (a := ⟨bs, j, none⟩) e0).trans (hf j)
  · rw [hlen, take_cel xs k hk]
    exact ho.set (a := ⟨bs, 0, none⟩) (by simp) _
  · have h5 := hi.keep hK (.inl (by omega))
    exact ⟨⟨h5.1.1, ownsRow_setCell_other h5.1.2 (fun e => by have := h5.2 _ e; simp at this) _⟩, h5.2⟩

set_option maxHeartbeats 4000000 in
set_option maxRecDepth 100000 in
theorem store_any (h : Nat) (xs : List Cel) (tr : List Int) (w : World) (hl : xs.length ≤ 20000) (ht : tr.length ≤ 20000) (hok : ∀ a, a < xs.length → okW (xs.getD a Cel.none).1 (xs.getD a Cel.none).2.1 (xs.getD a Cel.none).2.2.length = true) (hby : ∀ a, a < xs.length → Byte (xs.getD a Cel.none).2.2) (H : HeapAt w h xs tr) :
    Calls Try.prog 61 #[.pointer (some ⟨h, 0, none⟩)] w (StoreOut xs tr w) := by
  obtain ⟨W0, eW0⟩ : ∃ W0, W0 = w.alloc (.cells #[.slice none 0 0, .slice none 0 0] 36) := ⟨_, rfl⟩
  have hb0 : Below w.heap.size w W0 := by rw [eW0]; exact (Below.refl _ _).alloc (Nat.le_refl _) _
  have k0 : W0.heap[w.heap.size]? = some (.cells #[.slice none 0 0, .slice none 0 0] 36) := by rw [eW0]; exact heap_alloc_new _ _
  have hz0 : W0.heap.size = w.heap.size + 1 := by rw [eW0]; simp
  have HH : Hid (HeapAt W0 h xs tr) := H.below hb0
  have HOK : Hid _ := hok
  have HBY : Hid _ := hby
  obtain ⟨pw, cw, pt0, ct0, h0, h1, hw, hi⟩ := HH.out
  have HCL := cloneI_any pt0 ct0 tr W0 ht hi
  have HW : Hid (WIn W0 pw xs) := hw
  have HB0 : Hid _ := hb0
  have HZ0 : Hid _ := hz0
  have HK0 : Hid _ := k0
  have hlt0 := World.block_lt_of_cell? _ _ h0
  have HLT : Hid (h < W0.heap.size) := hlt0
  have h00 := h0
  have h01 := h1
  have HE0 : Hid _ := eW0
  have HC0 : Hid (W0.cell? ⟨h, 0, none⟩ = some (.slice pw xs.length cw)) := h0
  rw [eW0] at HCL h00 h01
  clear H hok hby hw hi hb0 hz0 k0 hlt0 h0 h1 eW0
  go_enter Try.func61, Try.ntmps61
  go_wp2_with fail
  refine HCL.mono ?_
  rintro e w1 ⟨q', c', rfl, hoi, hb1⟩
  rw [← HE0.out] at hoi hb1
  obtain ⟨oS, eoS⟩ : ∃ o : Obj, o = .cells #[.slice none 0 0, .slice q' tr.length c'] 36 := ⟨_, rfl⟩
  have HS0 : Hid (SFill W0 (w1.alloc oS) w1.heap.size (xs.take 0) tr q' c') := by
    have kk : (w1.alloc oS).heap[w1.heap.size]? = some (.cells #[.slice none 0 0, .slice q' tr.length c'] 36) := by rw [eoS]; exact heap_alloc_new _ _
    exact ⟨none, 0, ⟨(Box2.of_block kk).1, (Box2.of_block kk).2.1⟩, (Box2.of_block kk).2.2, ⟨rfl, [], rfl, World.ownsRow_nil _ _ _ _, fun i h => absurd h (Nat.not_lt_zero _), ⟨fun i h => absurd h (Nat.not_lt_zero _), fun i j h => absurd h (Nat.not_lt_zero _)⟩⟩, hoi.up.on (alloc_on _ _), Below.on hb1 (alloc_on _ _), hb1.size⟩
  have h0' := (hb1.cell (p := ⟨h, 0, none⟩) HLT.out).trans HC0.out
  have h0a : (w1.alloc oS).cell? ⟨h, 0, none⟩ = some (.slice pw xs.length cw) := ((alloc_on w1 oS).cell (World.block_lt_of_cell? _ _ h0')).trans h0'
  rw [eoS] at h0a
  have HOS : Hid _ := eoS
  clear hoi hb1 h0' HCL h00 h01 eoS
  go_wp2
  rw [← HOS.out]
  generalize w1.heap.size = bs at HS0 ⊢
  go_loopw [17] (fun i wr => ∃ k : Nat, k ≤ xs.length ∧ i = .int .i64 k ∧ Hid (SFill W0 wr bs (xs.take k) tr q' c')) (fun i _ => xs.length - (intOf i).toNat)
  case atStart => exact ⟨0, Nat.zero_le _, rfl, HS0⟩
  case round =>
    obtain ⟨k, hk, rfl, HS⟩ := hrel
    by_cases hlt : k < xs.length
    · obtain ⟨gw, rfl, hcs⟩ := HW.out (by omega)
      have hv0 := hcs k hlt
      have hv := (HS.out.choose_spec.choose_spec.2.2.2.2.1.cell (World.block_lt_of_cell? _ _ hv0)).trans hv0
      have HN : Hid (k < xs.length) := hlt
      have hok := HOK.out k hlt
      have hby := HBY.out k hlt
      have hkd := ok_knd hok
      obtain ⟨pc, cc, ⟨s0, s1⟩, hfz, hoc, _⟩ := HS.out
      have hfz0 := hfz 0
      have hbs := World.block_lt_of_cell? _ _ s0
      have HOC : Hid (OwnC wr (bs + 1) pc (xs.take k).length cc (xs.take k)) := hoc
      have hkl : (xs.take k).length = k := by rw [List.length_take]; omega
      rw [hkl] at s0 HOC
      have HNX : Hid (∀ wx w5 g n' cap, Below wr.heap.size wr wx → OwnC w5 (bs + 1) (some ⟨g, 0, none⟩) n' cap (xs.take k ++ [xs.getD k Cel.none]) → Below (bs + 1) wx w5 → n' = k + 1 → SFill W0 (w5.setCell ⟨bs, 0, none⟩ (.slice (some ⟨g, 0, none⟩) n' cap)) bs (xs.take (k + 1)) tr q' c') := fun wx w5 g n' cap a b c d => HS.out.next HN.out a b c d
      clear hv0 hcs hoc hfz hkl s1
      generalize xs.getD k Cel.none = x at hv hok hby hkd HNX
      obtain ⟨x0, x1, xt⟩ := x
      simp only at hok hby hkd
      rcases hkd with e | e | e | e | e <;> subst e
      · have e : wv (0, x1, xt) = .iface 100 (.int .i64 x1) := rfl
        rw [e] at hv
        obtain rfl : xt = [] := okW_text hok (by decide) (by decide)
        have HCE : Hid (∀ W, Calls Try.prog 135 #[.int .i64 x1] W (CellOut (0, x1, []) W)) := fun W => (refCell_any x1 _).mono fun e w' h => CellOut.of (c := (0, x1, [])) h rfl
        have hme : ∀ W, Sem.run Try.prog (method 301 100 (.int .i64 x1) "loop.example/s00095/impl.cell") W = .ok (135, .int .i64 x1) W := fun W => by kernel_rfl
        clear e hok hby
        go_wp2
        go_region_law (first
          | (go_simp; go_at_call 135; refine (HCE.out _).mono ?_; rintro e w3 ⟨p3, m3, c3, rfl, ho3, hb3⟩; have hb3' : Below wr.heap.size wr w3 := (below_drewN (Below.refl _ _) 1).trans hb3; have s0' := (hb3'.cell hbs).trans s0; have s0b : ∀ o, (w3.alloc o).cell? ⟨bs, 0, none⟩ = some (.slice pc k cc) := fun o => Lib.cell?_alloc_marked _ s0'; have HB3 : Hid (Below wr.heap.size wr w3) := hb3'; have HO3 : Hid (OwnT w3 wr.heap.size p3 m3 c3 []) := ho3; clear hb3 hb3' ho3)
          | (refine step_app_cell wr _ rfl _ _ rfl (bs + 1) pc k cc (xs.take k) rfl HOC.out (HB3.out.alloc HB3.out.size _) hbs ⟨w3.heap.size, 0, none⟩ 1 rfl 0 x1 p3 m3 c3 [] (HO3.out.below (alloc_on _ _)) (news_rc (Box3.of_block (t := 31) (heap_alloc_new _ _))) (by omega) ?_; intro g n' cap w5 hown5 hb5 hn5; have HF5 : Hid _ := HNX.out _ w5 g n' cap (HB3.out.alloc HB3.out.size _) hown5 hb5 hn5.out; have s5 : w5.cell? ⟨bs, 0, none⟩ = some (.slice pc k cc) := (hb5.cell (p := ⟨bs, 0, none⟩) (Nat.lt_succ_self _)).trans ((Lib.cell?_alloc_marked _ ((HB3.out.cell hbs).trans s0))); have f5 : w5.frozen? ⟨bs, 0, none⟩ = false := (hb5.frozen (p := ⟨bs, 0, none⟩) (Nat.lt_succ_self _)).trans (((HB3.out.alloc HB3.out.size _).frozen hbs).trans hfz0); clear hown5 hb5 hn5))
        all_goals
          clear s0b s5 f5
          go_wp2
          go_roundw
          case rel => exact ⟨k + 1, by omega, by go_num, HF5⟩
          case measure => simp [intOf]; omega
      · have e : wv (1, x1, xt) = .iface 121 (.int .i64 x1) := rfl
        rw [e] at hv
        obtain rfl : xt = [] := okW_text hok (by decide) (by decide)
        have HCE : Hid (∀ W, Calls Try.prog 138 #[.int .i64 x1] W (CellOut (1, x1, []) W)) := fun W => (numCell_any x1 _).mono fun e w' h => CellOut.of (c := (1, x1, [])) h rfl
        have hme : ∀ W, Sem.run Try.prog (method 301 121 (.int .i64 x1) "loop.example/s00095/impl.cell") W = .ok (138, .int .i64 x1) W := fun W => by kernel_rfl
        clear e hok hby
        go_wp2
        go_region_law (first
          | (go_simp; go_at_call 138; refine (HCE.out _).mono ?_; rintro e w3 ⟨p3, m3, c3, rfl, ho3, hb3⟩; have hb3' : Below wr.heap.size wr w3 := (below_drewN (Below.refl _ _) 1).trans hb3; have s0' := (hb3'.cell hbs).trans s0; have s0b : ∀ o, (w3.alloc o).cell? ⟨bs, 0, none⟩ = some (.slice pc k cc) := fun o => Lib.cell?_alloc_marked _ s0'; have HB3 : Hid (Below wr.heap.size wr w3) := hb3'; have HO3 : Hid (OwnT w3 wr.heap.size p3 m3 c3 []) := ho3; clear hb3 hb3' ho3)
          | (refine step_app_cell wr _ rfl _ _ rfl (bs + 1) pc k cc (xs.take k) rfl HOC.out (HB3.out.alloc HB3.out.size _) hbs ⟨w3.heap.size, 0, none⟩ 1 rfl 1 x1 p3 m3 c3 [] (HO3.out.below (alloc_on _ _)) (news_rc (Box3.of_block (t := 31) (heap_alloc_new _ _))) (by omega) ?_; intro g n' cap w5 hown5 hb5 hn5; have HF5 : Hid _ := HNX.out _ w5 g n' cap (HB3.out.alloc HB3.out.size _) hown5 hb5 hn5.out; have s5 : w5.cell? ⟨bs, 0, none⟩ = some (.slice pc k cc) := (hb5.cell (p := ⟨bs, 0, none⟩) (Nat.lt_succ_self _)).trans ((Lib.cell?_alloc_marked _ ((HB3.out.cell hbs).trans s0))); have f5 : w5.frozen? ⟨bs, 0, none⟩ = false := (hb5.frozen (p := ⟨bs, 0, none⟩) (Nat.lt_succ_self _)).trans (((HB3.out.alloc HB3.out.size _).frozen hbs).trans hfz0); clear hown5 hb5 hn5))
        all_goals
          clear s0b s5 f5
          go_wp2
          go_roundw
          case rel => exact ⟨k + 1, by omega, by go_num, HF5⟩
          case measure => simp [intOf]; omega
      · have e : wv (2, x1, xt) = .iface 122 (.string (strOfNums xt)) := rfl
        rw [e] at hv
        obtain rfl : x1 = 0 := by generalize xt.length = m at hok; simp only [okW, cellB] at hok; simp at hok; omega
        have HCE : Hid (∀ W, Calls Try.prog 140 #[.string (strOfNums xt)] W (CellOut (2, 0, xt) W)) := fun W => (atomCell_any xt _ hby).mono fun e w' ⟨p, c, h1, h2, h3⟩ => ⟨p, xt.length, c, h1, h2, h3⟩
        have hme : ∀ W, Sem.run Try.prog (method 301 122 (.string (strOfNums xt)) "loop.example/s00095/impl.cell") W = .ok (140, .string (strOfNums xt)) W := fun W => by kernel_rfl
        clear e hok hby
        go_wp2
        go_region_law (first
          | (go_simp; go_at_call 140; refine (HCE.out _).mono ?_; rintro e w3 ⟨p3, m3, c3, rfl, ho3, hb3⟩; have hb3' : Below wr.heap.size wr w3 := (below_drewN (Below.refl _ _) 1).trans hb3; have s0' := (hb3'.cell hbs).trans s0; have s0b : ∀ o, (w3.alloc o).cell? ⟨bs, 0, none⟩ = some (.slice pc k cc) := fun o => Lib.cell?_alloc_marked _ s0'; have HB3 : Hid (Below wr.heap.size wr w3) := hb3'; have HO3 : Hid (OwnT w3 wr.heap.size p3 m3 c3 xt) := ho3; clear hb3 hb3' ho3)
          | (refine step_app_cell wr _ rfl _ _ rfl (bs + 1) pc k cc (xs.take k) rfl HOC.out (HB3.out.alloc HB3.out.size _) hbs ⟨w3.heap.size, 0, none⟩ 1 rfl 2 0 p3 m3 c3 xt (HO3.out.below (alloc_on _ _)) (news_rc (Box3.of_block (t := 31) (heap_alloc_new _ _))) (by omega) ?_; intro g n' cap w5 hown5 hb5 hn5; have HF5 : Hid _ := HNX.out _ w5 g n' cap (HB3.out.alloc HB3.out.size _) hown5 hb5 hn5.out; have s5 : w5.cell? ⟨bs, 0, none⟩ = some (.slice pc k cc) := (hb5.cell (p := ⟨bs, 0, none⟩) (Nat.lt_succ_self _)).trans ((Lib.cell?_alloc_marked _ ((HB3.out.cell hbs).trans s0))); have f5 : w5.frozen? ⟨bs, 0, none⟩ = false := (hb5.frozen (p := ⟨bs, 0, none⟩) (Nat.lt_succ_self _)).trans (((HB3.out.alloc HB3.out.size _).frozen hbs).trans hfz0); clear hown5 hb5 hn5))
        all_goals
          clear s0b s5 f5
          go_wp2
          go_roundw
          case rel => exact ⟨k + 1, by omega, by go_num, HF5⟩
          case measure => simp [intOf]; omega
      · have e : wv (3, x1, xt) = .iface 131 (.agg #[.string (strOfNums xt), .int .i64 x1]) := rfl
        rw [e] at hv
        have HCE : Hid (∀ W, Calls Try.prog 143 #[.agg #[.string (strOfNums xt), .int .i64 x1]] W (CellOut (3, x1, xt) W)) := fun W => funCell_any x1 xt _ hby
        have hme : ∀ W, Sem.run Try.prog (method 301 131 (.agg #[.string (strOfNums xt), .int .i64 x1]) "loop.example/s00095/impl.cell") W = .ok (143, .agg #[.string (strOfNums xt), .int .i64 x1]) W := fun W => by kernel_rfl
        clear e hok hby
        go_wp2
        go_region_law (first
          | (go_simp; go_at_call 143; refine (HCE.out _).mono ?_; rintro e w3 ⟨p3, m3, c3, rfl, ho3, hb3⟩; have hb3' : Below wr.heap.size wr w3 := (below_drewN (Below.refl _ _) 1).trans hb3; have s0' := (hb3'.cell hbs).trans s0; have s0b : ∀ o, (w3.alloc o).cell? ⟨bs, 0, none⟩ = some (.slice pc k cc) := fun o => Lib.cell?_alloc_marked _ s0'; have HB3 : Hid (Below wr.heap.size wr w3) := hb3'; have HO3 : Hid (OwnT w3 wr.heap.size p3 m3 c3 xt) := ho3; clear hb3 hb3' ho3)
          | (refine step_app_cell wr _ rfl _ _ rfl (bs + 1) pc k cc (xs.take k) rfl HOC.out (HB3.out.alloc HB3.out.size _) hbs ⟨w3.heap.size, 0, none⟩ 1 rfl 3 x1 p3 m3 c3 xt (HO3.out.below (alloc_on _ _)) (news_rc (Box3.of_block (t := 31) (heap_alloc_new _ _))) (by omega) ?_; intro g n' cap w5 hown5 hb5 hn5; have HF5 : Hid _ := HNX.out _ w5 g n' cap (HB3.out.alloc HB3.out.size _) hown5 hb5 hn5.out; have s5 : w5.cell? ⟨bs, 0, none⟩ = some (.slice pc k cc) := (hb5.cell (p := ⟨bs, 0, none⟩) (Nat.lt_succ_self _)).trans ((Lib.cell?_alloc_marked _ ((HB3.out.cell hbs).trans s0))); have f5 : w5.frozen? ⟨bs, 0, none⟩ = false := (hb5.frozen (p := ⟨bs, 0, none⟩) (Nat.lt_succ_self _)).trans (((HB3.out.alloc HB3.out.size _).frozen hbs).trans hfz0); clear hown5 hb5 hn5))
        all_goals
          clear s0b s5 f5
          go_wp2
          go_roundw
          case rel => exact ⟨k + 1, by omega, by go_num, HF5⟩
          case measure => simp [intOf]; omega
      · have e : wv (4, x1, xt) = .iface 123 (.int .i64 x1) := rfl
        rw [e] at hv
        obtain rfl : xt = [] := okW_text hok (by decide) (by decide)
        have HCE : Hid (∀ W, Calls Try.prog 141 #[.int .i64 x1] W (CellOut (4, x1, []) W)) := fun W => (strCell_any x1 _).mono fun e w' h => CellOut.of (c := (4, x1, [])) h rfl
        have hme : ∀ W, Sem.run Try.prog (method 301 123 (.int .i64 x1) "loop.example/s00095/impl.cell") W = .ok (141, .int .i64 x1) W := fun W => by kernel_rfl
        clear e hok hby
        go_wp2
        go_region_law (first
          | (go_simp; go_at_call 141; refine (HCE.out _).mono ?_; rintro e w3 ⟨p3, m3, c3, rfl, ho3, hb3⟩; have hb3' : Below wr.heap.size wr w3 := (below_drewN (Below.refl _ _) 1).trans hb3; have s0' := (hb3'.cell hbs).trans s0; have s0b : ∀ o, (w3.alloc o).cell? ⟨bs, 0, none⟩ = some (.slice pc k cc) := fun o => Lib.cell?_alloc_marked _ s0'; have HB3 : Hid (Below wr.heap.size wr w3) := hb3'; have HO3 : Hid (OwnT w3 wr.heap.size p3 m3 c3 []) := ho3; clear hb3 hb3' ho3)
          | (refine step_app_cell wr _ rfl _ _ rfl (bs + 1) pc k cc (xs.take k) rfl HOC.out (HB3.out.alloc HB3.out.size _) hbs ⟨w3.heap.size, 0, none⟩ 1 rfl 4 x1 p3 m3 c3 [] (HO3.out.below (alloc_on _ _)) (news_rc (Box3.of_block (t := 31) (heap_alloc_new _ _))) (by omega) ?_; intro g n' cap w5 hown5 hb5 hn5; have HF5 : Hid _ := HNX.out _ w5 g n' cap (HB3.out.alloc HB3.out.size _) hown5 hb5 hn5.out; have s5 : w5.cell? ⟨bs, 0, none⟩ = some (.slice pc k cc) := (hb5.cell (p := ⟨bs, 0, none⟩) (Nat.lt_succ_self _)).trans ((Lib.cell?_alloc_marked _ ((HB3.out.cell hbs).trans s0))); have f5 : w5.frozen? ⟨bs, 0, none⟩ = false := (hb5.frozen (p := ⟨bs, 0, none⟩) (Nat.lt_succ_self _)).trans (((HB3.out.alloc HB3.out.size _).frozen hbs).trans hfz0); clear hown5 hb5 hn5))
        all_goals
          clear s0b s5 f5
          go_wp2
          go_roundw
          case rel => exact ⟨k + 1, by omega, by go_num, HF5⟩
          case measure => simp [intOf]; omega
    · obtain rfl : k = xs.length := by omega
      have hfill := HS.out
      rw [List.take_length] at hfill
      have HF : Hid (SFill W0 wr bs xs tr q' c') := hfill
      clear hfill
      obtain ⟨pc, cc, ⟨s0, s1⟩, hfz, hoc, hoi, hB, hle⟩ := HF.out
      have r := Box2.of_block ((hB.block w.heap.size (by have := HZ0.out; omega)).trans HK0.out)
      obtain ⟨r0, r1, r2⟩ := r
      have HR : Hid (Box2 ((wr.setCell ⟨w.heap.size, 0, none⟩ (.slice pc xs.length cc)).setCell ⟨w.heap.size, 1, none⟩ (.slice q' tr.length c')) w.heap.size (.slice pc xs.length cc) (.slice q' tr.length c')) := Box2.put ⟨r0, r1, r2⟩ _ _
      have HFI : Hid (OwnIU ((wr.setCell ⟨w.heap.size, 0, none⟩ (.slice pc xs.length cc)).setCell ⟨w.heap.size, 1, none⟩ (.slice q' tr.length c')) w.heap.size bs q' tr.length c' tr ∧ OwnCU ((wr.setCell ⟨w.heap.size, 0, none⟩ (.slice pc xs.length cc)).setCell ⟨w.heap.size, 1, none⟩ (.slice q' tr.length c')) bs wr.heap.size pc xs.length cc xs ∧ w.heap.size ≤ bs ∧ bs ≤ wr.heap.size ∧ Below w.heap.size w ((wr.setCell ⟨w.heap.size, 0, none⟩ (.slice pc xs.length cc)).setCell ⟨w.heap.size, 1, none⟩ (.slice q' tr.length c'))) := by
        have hz := HZ0.out
        have hbl := World.block_lt_of_cell? _ _ s0
        refine ⟨⟨((hoi.1.set (by simp; omega) _).set (by simp; omega) _).mono (by omega), hoi.2⟩, ((hoc.up.set (by simp; omega) _).set (by simp; omega) _).mono (by omega), by omega, by simp at hbl; omega, ((Below.on HB0.out hB).setCell (p := ⟨_, _, none⟩) (Nat.le_refl _) _).setCell (p := ⟨_, _, none⟩) (Nat.le_refl _) _⟩
      clear hoc hoi hB hle HF
      go_wp2
      obtain ⟨d0, d1, _⟩ := HR.out
      refine bodyPost_ret (v := .agg #[.slice pc xs.length cc, .slice q' tr.length c']) (by simp [results, Try.results61, go_sem, d0, d1]) rfl ⟨pc, q', cc, c', bs, rfl, HFI.out.1, ?_, HFI.out.2.2.1, ?_, HFI.out.2.2.2.2⟩
      · have := HFI.out.2.1
        simpa using this
      · have := HFI.out.2.2.2.1
        simpa using this

end Go.Proofs.Ytfnmoaiejpkocaa

namespace Go.Proofs.Ytfnmoaiejpkocaa
open Go Go.RowKit Go.Maps
set_option linter.unusedVariables false

/-- What Deref answers: the word, or what is not a word, and the code. -/
noncomputable def derA (xs : List Cel) (tr : List Int) (c : Cel) : Cel × Int := if vsB xs tr c.1 c.2.1 c.2.2.length = true then (drf xs c, 0) else ((0, 0, []), 1)
theorem vsB_parts {xs : List Cel} {tr : List Int} {c : Cel} (h : vsB xs tr c.1 c.2.1 c.2.2.length = true) : Good xs ∧ WdC xs c ∧ (∀ a, a < xs.length → okW (xs.getD a Cel.none).1 (xs.getD a Cel.none).2.1 (xs.getD a Cel.none).2.2.length = true) ∧ okW c.1 c.2.1 c.2.2.length = true ∧ tr.length ≤ 20000 := by
  unfold vsB at h
  rw [Bool.and_eq_true] at h
  obtain ⟨hs, hw⟩ := h
  obtain ⟨_, p2, p3, _, p5⟩ := storeB_parts hs
  have hw' := hw
  unfold wordB at hw'
  rw [Bool.and_eq_true] at hw'
  exact ⟨⟨p3, p5⟩, WdC.of_word hw, storeB_ok hs, hw'.1, p2⟩
/-- What a word that was followed is. -/
theorem drf_facts {xs : List Cel} {c : Cel} (g : Good xs) (hc : WdC xs c) (ho : ∀ a, a < xs.length → okW (xs.getD a Cel.none).1 (xs.getD a Cel.none).2.1 (xs.getD a Cel.none).2.2.length = true) (hoc : okW c.1 c.2.1 c.2.2.length = true) (hb : ∀ a, a < xs.length → Byte (xs.getD a Cel.none).2.2) (hbc : Byte c.2.2) :
    (drf xs c).1 = 0 ∧ (drf xs c).2.2 = [] ∨ (drf xs c).1 = 1 ∧ (drf xs c).2.2 = [] ∨ (drf xs c).1 = 2 ∧ (drf xs c).2.1 = 0 ∧ Byte (drf xs c).2.2 ∨ (drf xs c).1 = 4 ∧ (drf xs c).2.2 = [] := by
  obtain ⟨⟨h1, h2⟩, hw, _⟩ := drf_ind g (P := fun c => okW c.1 c.2.1 c.2.2.length = true ∧ Byte c.2.2) (fun a ha _ => ⟨ho a ha, hb a ha⟩) _ c (Nat.le_refl _) hc ⟨hoc, hbc⟩
  rcases hw.1 with k | k | k | k
  · exact .inl ⟨k, okW_text h1 (by omega) (by omega)⟩
  · exact .inr (.inl ⟨k, okW_text h1 (by omega) (by omega)⟩)
  · refine .inr (.inr (.inl ⟨k, ?_, h2⟩))
    rw [k] at h1
    generalize (drf xs c).2.2.length = m at h1
    simp only [okW, cellB] at h1
    simp at h1
    omega
  · exact .inr (.inr (.inr ⟨k, okW_text h1 (by omega) (by omega)⟩))

set_option maxHeartbeats 1000000 in
set_option maxRecDepth 100000 in
theorem implDeref_any (p q pt : Option Addr) (c1 c2 cap : Nat) (c : Cel) (xs : List Cel) (tr : List Int) (w : World) (hx : xs.length ≤ 1000000000) (hy : tr.length ≤ 1000000000) (hbx : ∀ a, a < xs.length → Byte (xs.getD a Cel.none).2.2) (hbc : Byte c.2.2) (hc : CIn w p xs) (hi : IIn w q tr) (hin : BIn w pt c.2.2) :
    Calls Try.prog 14 #[.agg #[.slice p xs.length c1, .slice q tr.length c2], .agg #[.int .i64 c.1, .int .i64 c.2.1, .slice pt c.2.2.length cap]] w fun e w' => ∃ pp cc, e = .returned (.tuple #[.agg #[.int .i64 (derA xs tr c).1.1, .int .i64 (derA xs tr c).1.2.1, .slice pp (derA xs tr c).1.2.2.length cc], .int .i64 (derA xs tr c).2]) ∧ OwnT w' w.heap.size pp (derA xs tr c).1.2.2.length cc (derA xs tr c).1.2.2 ∧ Below w.heap.size w w' := by
  obtain ⟨k, n, t⟩ := c
  obtain ⟨W0, eW0⟩ : ∃ W0, W0 = ((w.alloc (.cells #[.slice p xs.length c1, .slice q tr.length c2] 36)).alloc (.cells #[.int .i64 k, .int .i64 n, .slice pt t.length cap] 31)).alloc (.cells #[.int .i64 0, .int .i64 0, .slice none 0 0] 31) := ⟨_, rfl⟩
  have HB0 : Hid (Below w.heap.size w W0) := by
    show Below _ _ _
    rw [eW0]; exact (((Below.refl _ _).alloc (Nat.le_refl _) _).alloc (by simp) _).alloc (by simp; omega) _
  have k2 : W0.heap[w.heap.size + 1 + 1]? = some (.cells #[.int .i64 0, .int .i64 0, .slice none 0 0] 31) := by
    rw [eW0]
    exact (heap_three w _ _ _).2
  have hz0 : W0.heap.size = w.heap.size + 1 + 1 + 1 := by rw [eW0]; simp
  -- the box of the answer, filled
  have HBX2 : Hid (∀ W v0 v1 v2, Below W0.heap.size W0 W → (Box3 W (w.heap.size + 1 + 1) (.int .i64 0) (.int .i64 0) (.slice none 0 0)) ∧ ((((W.setCell ⟨w.heap.size + 1 + 1, 0, none⟩ v0).setCell ⟨w.heap.size + 1 + 1, 1, none⟩ v1).setCell ⟨w.heap.size + 1 + 1, 2, none⟩ v2).cell? ⟨w.heap.size + 1 + 1, 0, none⟩ = some v0 ∧ (((W.setCell ⟨w.heap.size + 1 + 1, 0, none⟩ v0).setCell ⟨w.heap.size + 1 + 1, 1, none⟩ v1).setCell ⟨w.heap.size + 1 + 1, 2, none⟩ v2).cell? ⟨w.heap.size + 1 + 1, 1, none⟩ = some v1 ∧ (((W.setCell ⟨w.heap.size + 1 + 1, 0, none⟩ v0).setCell ⟨w.heap.size + 1 + 1, 1, none⟩ v1).setCell ⟨w.heap.size + 1 + 1, 2, none⟩ v2).cell? ⟨w.heap.size + 1 + 1, 2, none⟩ = some v2) ∧ Below w.heap.size w (((W.setCell ⟨w.heap.size + 1 + 1, 0, none⟩ v0).setCell ⟨w.heap.size + 1 + 1, 1, none⟩ v1).setCell ⟨w.heap.size + 1 + 1, 2, none⟩ v2)) := fun W v0 v1 v2 hW => by
    have b := Box3.of_block (t := 31) ((hW.block (w.heap.size + 1 + 1) (by omega)).trans k2)
    exact ⟨b, box3_set b.1 b.2.1 b.2.2.1 v0 v1 v2, (((Below.on HB0.out hW).setCell (p := ⟨_, _, none⟩) (by simp; omega) _).setCell (p := ⟨_, _, none⟩) (by simp; omega) _).setCell (p := ⟨_, _, none⟩) (by simp; omega) _⟩
  have HO := heapWith_any p q pt c1 c2 cap k n t xs tr W0 hx hy (hc.below HB0.out) (hi.below HB0.out) (hin.below HB0.out)
  have HBX : Hid _ := hbx
  have HBC : Hid (Byte t) := hbc
  have HE0 : Hid _ := eW0
  have HZ0 : Hid _ := hz0
  clear hc hi hin hbx hbc k2 hz0
  cases hv : vsB xs tr k n t.length
  · have HE : Hid (derA xs tr (k, n, t) = ((0, 0, []), 1)) := by show _ = _; unfold derA; rw [if_neg (by simp [hv])]
    rw [HE.out]
    unfold WithOut at HO
    rw [hv, eW0] at HO
    clear hv HE HBX HBC eW0
    go_enter Try.func14, Try.ntmps14
    go_wp2_with fail
    refine HO.mono ?_
    rintro e w1 ⟨v, u, rfl, hb, _⟩
    rw [← HE0.out] at hb
    have HX : Hid _ := HBX2.out w1 (.int .i64 0) (.int .i64 0) (.slice none 0 0) hb
    obtain ⟨b0, b1, b2, b3⟩ := HX.out.1
    clear hb HO HBX2
    go_wp2
    obtain ⟨_, ⟨d0, d1, d2⟩, hbb⟩ := HX.out
    exact bodyPost_ret (v := .tuple #[.agg #[.int .i64 0, .int .i64 0, .slice none 0 0], .int .i64 1]) (by simp [results, Try.results14, go_sem, d0, d1, d2]) rfl ⟨none, 0, rfl, ⟨rfl, fun h => absurd h (Nat.lt_irrefl 0)⟩, hbb⟩
  · have HE : Hid (derA xs tr (k, n, t) = (drf xs (k, n, t), 0)) := by show _ = _; unfold derA; rw [if_pos hv]
    rw [HE.out]
    unfold WithOut at HO
    rw [hv, eW0] at HO
    obtain ⟨g, hw, ho, hoc, _⟩ := vsB_parts (c := (k, n, t)) hv
    have HF := drf_facts g hw ho hoc HBX.out HBC.out
    have HD : Hid (∀ h W, HeapAt W h xs tr → Calls Try.prog 45 #[.pointer (some ⟨h, 0, none⟩), wv (k, n, t)] W fun e w' => e = .returned (wv (drf xs (k, n, t))) ∧ Below W.heap.size W w') := fun h W H => deref_any h _ xs tr W g hw H
    clear hv HE HBX HBC ho hoc g hw eW0
    generalize drf xs (k, n, t) = d at HF HD ⊢
    obtain ⟨dk, dn, dt⟩ := d
    simp only at HF ⊢
    go_enter Try.func14, Try.ntmps14
    go_wp2_with fail
    refine HO.mono ?_
    rintro e w1 ⟨v, u, rfl, hb, hh⟩
    obtain ⟨h, rfl, rfl, hat⟩ := hh (by trivial)
    rw [← HE0.out] at hb
    have HB1 : Hid (Below W0.heap.size W0 w1) := hb
    have HDD : Hid _ := HD.out h w1 hat
    clear hb HO hat hh HD
    rcases HF with ⟨rfl, rfl⟩ | ⟨rfl, rfl⟩ | ⟨rfl, rfl, hbt⟩ | ⟨rfl, rfl⟩
    · have e : wv (0, dn, []) = .iface 100 (.int .i64 dn) := rfl
      rw [e] at HDD
      go_wp2_with fail
      refine Calls.mono HDD.out ?_
      rintro e w2 ⟨rfl, hb2⟩
      have HB2 : Hid (Below W0.heap.size W0 w2) := Below.on HB1.out hb2
      have HR := refCell_any dn w2
      clear hb2 HDD
      go_wp2_with (go_at_call 135; refine HR.mono ?_; rintro e w3 ⟨rfl, hb3⟩; have HX : Hid _ := HBX2.out w3 (.int .i64 0) (.int .i64 dn) (.slice none 0 0) (Below.on HB2.out hb3); obtain ⟨b0, b1, b2, b3⟩ := HX.out.1; clear hb3)
      obtain ⟨_, ⟨d0, d1, d2⟩, hbb⟩ := HX.out
      exact bodyPost_ret (v := .tuple #[.agg #[.int .i64 0, .int .i64 dn, .slice none 0 0], .int .i64 0]) (by simp [results, Try.results14, go_sem, d0, d1, d2]) rfl ⟨none, 0, rfl, ⟨rfl, fun h => absurd h (Nat.lt_irrefl 0)⟩, hbb⟩
    · have e : wv (1, dn, []) = .iface 121 (.int .i64 dn) := rfl
      rw [e] at HDD
      go_wp2_with fail
      refine Calls.mono HDD.out ?_
      rintro e w2 ⟨rfl, hb2⟩
      have HB2 : Hid (Below W0.heap.size W0 w2) := Below.on HB1.out hb2
      have HR := numCell_any dn w2
      clear hb2 HDD
      go_wp2_with (go_at_call 138; refine HR.mono ?_; rintro e w3 ⟨rfl, hb3⟩; have HX : Hid _ := HBX2.out w3 (.int .i64 1) (.int .i64 dn) (.slice none 0 0) (Below.on HB2.out hb3); obtain ⟨b0, b1, b2, b3⟩ := HX.out.1; clear hb3)
      obtain ⟨_, ⟨d0, d1, d2⟩, hbb⟩ := HX.out
      exact bodyPost_ret (v := .tuple #[.agg #[.int .i64 1, .int .i64 dn, .slice none 0 0], .int .i64 0]) (by simp [results, Try.results14, go_sem, d0, d1, d2]) rfl ⟨none, 0, rfl, ⟨rfl, fun h => absurd h (Nat.lt_irrefl 0)⟩, hbb⟩
    · have e : wv (2, 0, dt) = .iface 122 (.string (strOfNums dt)) := rfl
      rw [e] at HDD
      go_wp2_with fail
      refine Calls.mono HDD.out ?_
      rintro e w2 ⟨rfl, hb2⟩
      have HB2 : Hid (Below W0.heap.size W0 w2) := Below.on HB1.out hb2
      have HR := atomCell_any dt w2 hbt
      clear hb2 HDD hbt
      go_wp2_with (go_at_call 140; refine HR.mono ?_; rintro e w3 ⟨pp, cc, rfl, ho3, hb3⟩; have HX : Hid _ := HBX2.out w3 (.int .i64 2) (.int .i64 0) (.slice pp dt.length cc) (Below.on HB2.out hb3); obtain ⟨b0, b1, b2, b3⟩ := HX.out.1; have HO3 : Hid (OwnT w3 w.heap.size pp dt.length cc dt) := ho3.mono (Nat.le_trans HB0.out.size HB2.out.size); have HNE : Hid (0 < dt.length → pp ≠ some ⟨w.heap.size + 1 + 1, 0, none⟩) := fun hp => by { obtain ⟨g, rfl, hg, _⟩ := ho3.2 hp; intro e; have := congrArg Addr.block (Option.some.inj e); have hz := HZ0.out; have hs := HB2.out.size; simp at this; omega }; clear hb3 ho3)
      obtain ⟨_, ⟨d0, d1, d2⟩, hbb⟩ := HX.out
      exact bodyPost_ret (v := .tuple #[.agg #[.int .i64 2, .int .i64 0, .slice pp dt.length cc], .int .i64 0]) (by simp [results, Try.results14, go_sem, d0, d1, d2]) rfl ⟨pp, cc, rfl, ((HO3.out.setCell (a := ⟨_, 0, none⟩) (fun hp => HNE.out hp) _).setCell (a := ⟨_, 1, none⟩) (fun hp => HNE.out hp) _).setCell (a := ⟨_, 2, none⟩) (fun hp => HNE.out hp) _, hbb⟩
    · have e : wv (4, dn, []) = .iface 123 (.int .i64 dn) := rfl
      rw [e] at HDD
      go_wp2_with fail
      refine Calls.mono HDD.out ?_
      rintro e w2 ⟨rfl, hb2⟩
      have HB2 : Hid (Below W0.heap.size W0 w2) := Below.on HB1.out hb2
      have HR := strCell_any dn w2
      clear hb2 HDD
      go_wp2_with (go_at_call 141; refine HR.mono ?_; rintro e w3 ⟨rfl, hb3⟩; have HX : Hid _ := HBX2.out w3 (.int .i64 4) (.int .i64 dn) (.slice none 0 0) (Below.on HB2.out hb3); obtain ⟨b0, b1, b2, b3⟩ := HX.out.1; clear hb3)
      obtain ⟨_, ⟨d0, d1, d2⟩, hbb⟩ := HX.out
      exact bodyPost_ret (v := .tuple #[.agg #[.int .i64 4, .int .i64 dn, .slice none 0 0], .int .i64 0]) (by simp [results, Try.results14, go_sem, d0, d1, d2]) rfl ⟨none, 0, rfl, ⟨rfl, fun h => absurd h (Nat.lt_irrefl 0)⟩, hbb⟩

end Go.Proofs.Ytfnmoaiejpkocaa

namespace Go.Proofs.Ytfnmoaiejpkocaa
open Go Go.RowKit
set_option linter.unusedVariables false

theorem news_of {w : World} {b o : Nat} {xs : List Int} (hc : ∀ i, i < xs.length → w.cell? ⟨b, o + i, none⟩ = some (.int .u8 (xs.getD i 0))) : ∀ j u, (xs.map (Value.int .u8))[j]? = some u → w.cell? ((⟨b, o, none⟩ : Addr).add j) = some u := fun j u hu => by
  have hj : j < xs.length := by
    rcases Nat.lt_or_ge j xs.length with h | h
    · exact h
    · simp [List.getElem?_eq_none h] at hu
  have e : (⟨b, o, none⟩ : Addr).add j = ⟨b, o + j, none⟩ := by unfold Addr.add; split <;> simp_all
  rw [e, hc j hj, ← hu]
  simp [List.getD, hj]

/-- append of nothing. -/
theorem app_nothing (w : World) {ops : Array Oper} {rest : List Oper} {o : Oper} {a : Act} {Q : Exit → Act → World → Prop} (hgd : o.guard = none) (s x : Operand)
    (ho : o.op = .call { callee := .builtin .append, args := #[s, x], argTypes := #[26, 26] }) (p : Option Addr) (n c : Nat) (hnc : n ≤ c) (hs : a.eval s = .slice p n c) (q : Option Addr) (c' : Nat) (hx : a.eval x = .slice q 0 c')
    (h : wpList Try.prog ops Q rest (a.put o.dst (.slice p n c)) w) : wpList Try.prog ops Q (o :: rest) a w := by
  obtain ⟨i0, hi, hz0, hz1, hz2⟩ := info_parts infoByte
  refine wpList_plain hgd fun K hK => ?_
  have hsrc : Src Try.prog i0.size 26 (.slice q 0 c') 0 [] w := by
    cases q with
    | none => exact Src.ofNil w Try.underlying26 c'
    | some ad => exact Src.ofSlice w Try.underlying26 ad 0 c' [] (by simp) (fun j u h => by simp at h) (fun u h => by cases h)
  have hr := fun ty => run_append_nothing (P := Try.prog) w 26 26 ty 5 i0 Try.underlying26 hi p n c hnc _ hsrc
  unfold Oper.wp
  simp [execOp, ho, resolve, invoke, builtin, hs, hx, hr, Result.andThen]
  exact hK _ _ h

theorem l1copy_all (p : Option Addr) (n c : Nat) (xs : List Int) (w : World) (hn : n = xs.length) (hm : n ≤ 10000000) (hc : BIn w p xs) :
    Calls Try.prog 41 #[.slice p n c] w fun e w' => ∃ p' n' c', e = .returned (.slice p' n' c') ∧ OwnS w' w.heap.size p' n' c' xs ∧ Below w.heap.size w w' := by
  by_cases h0 : 0 < n
  · obtain ⟨b, o, rfl, hcc⟩ := hc (by omega)
    have HC : Hid (∀ i, i < xs.length → w.cell? ⟨b, o + i, none⟩ = some (.int .u8 (xs.getD i 0))) := hcc
    have HN : Hid (n = xs.length) := hn
    clear hc hn hcc
    go_enter Try.func41, Try.ntmps41
    go_wp2_with (at_builtin; refine app_bytes _ rfl _ _ rfl w.heap.size none 0 0 [] xs n HN.out rfl (OwnS.nil _ _) _ c rfl (news_of HC.out) h0 (by omega) (Nat.le_refl _) ?_; intro g n' cap w1 hown1 hb1 hn1)
    go_ret
    exact ⟨_, _, _, rfl, hown1, hb1⟩
  · obtain rfl : n = 0 := by omega
    obtain rfl : xs = [] := List.length_eq_zero_iff.1 hn.symm
    clear hc hn
    go_enter Try.func41, Try.ntmps41
    go_wp2_with (at_builtin; refine app_nothing _ rfl _ _ rfl none 0 0 (Nat.le_refl _) rfl p c rfl ?_)
    go_ret
    exact ⟨_, _, _, rfl, OwnS.nil _ _, Below.refl _ _⟩

end Go.Proofs.Ytfnmoaiejpkocaa

