/- Texts of UnR, Mark, MarkT. Own work of the verifier. -/
import Derived.Test.YtglebnelmnnboaaUqap
import Derived.Test.YtglebnelmnnboaaUqab
import Derived.LoopN
import Derived.Test.YtglebnelmnnboaaUqad
namespace Go.Proofs.Ytglebnelmnnboaa
open Go Go.RowKit
set_option linter.unusedVariables false

theorem trs_small : ∀ (F : Fo) (t : Tr), t ∈ trs F → (tcs t).length ≤ F.cells.length
  | .nil, t, h => by cases h
  | .node c k r, t, h => by
    simp only [trs, List.mem_cons] at h
    simp only [Fo.cells, List.length_cons, List.length_append]
    rcases h with rfl | h
    · simp [tcs]
    · have := trs_small r t h
      omega
/-- What a step leaves is no greater. -/
theorem step_small {M M' : BM} {X Y : Tr} {qs : List TT} (hM : ∀ x u, M x = some u → (tcs u).length ≤ 2000) (sX : (tcs X).length ≤ 2000) (sY : (tcs Y).length ≤ 2000) (oX : X.fo.ok) (h : stepE 4 5 M X Y = .ok (M', qs)) :
    (∀ x u, M' x = some u → (tcs u).length ≤ 2000) ∧ (∀ p ∈ qs, (tcs p.1).length ≤ 2000 ∧ (tcs p.2).length ≤ 2000) ∧ qs.length ≤ 20 := by
  have hset : ∀ z T, (tcs T).length ≤ 2000 → ∀ x u, M.set z T x = some u → (tcs u).length ≤ 2000 := fun z T hT x u hx => by
    simp only [BM.set] at hx
    by_cases e : x = z
    · rw [if_pos e] at hx; cases hx; exact hT
    · rw [if_neg e] at hx; exact hM x u hx
  have no : ∀ p ∈ ([] : List TT), (tcs p.1).length ≤ 2000 ∧ (tcs p.2).length ≤ 2000 := fun p hp => by cases hp
  unfold stepE at h
  split at h
  · split at h
    · cases h; exact ⟨hset _ _ sY, no, Nat.zero_le _⟩
    · split at h
      · cases h; exact ⟨hset _ _ sX, no, Nat.zero_le _⟩
      · cases h; exact ⟨hM, no, Nat.zero_le _⟩
  · split at h
    · split at h
      · cases h
      · cases h; exact ⟨hset _ _ sY, no, Nat.zero_le _⟩
    · split at h
      · split at h
        · cases h
        · cases h; exact ⟨hset _ _ sX, no, Nat.zero_le _⟩
      · split at h
        · cases h
          refine ⟨hM, fun p hp => ?_, ?_⟩
          · have h1 := trs_small _ _ (List.of_mem_zip (show (p.1, p.2) ∈ _ from hp)).1
            have h2 := trs_small _ _ (List.of_mem_zip (show (p.1, p.2) ∈ _ from hp)).2
            simp only [tcs, List.length_cons] at sX sY
            omega
          · rw [List.length_zip, trs_len]
            by_cases h3 : X.1.1 = 3
            · have h4 := oX.2.2.1 h3
              have h5 := oX.1
              rw [h3] at h5
              simp [cellB] at h5
              have : (X.2.count : Int) ≤ 20 := by rw [← h4]; exact h5.2.2
              omega
            · rw [oX.2.2.2.1 h3]; simp [Fo.count]
        · cases h
theorem step_codes {M : BM} {X Y : Tr} {c : Int} (h : stepE 4 5 M X Y = .error c) : c = 4 ∨ c = 5 := by
  unfold stepE at h
  split at h
  · split at h
    · cases h
    · split at h <;> cases h
  · split at h
    · split at h
      · cases h; exact .inr rfl
      · cases h
    · split at h
      · split at h
        · cases h; exact .inr rfl
        · cases h
      · split at h
        · cases h
        · cases h; exact .inl rfl
theorem USt.taken {W0 : World} {Bt : Nat} {P : BM} {E : List (Int × Value)} {b ub : Nat} {st st' : List TT} {W W' : World} (h : USt W0 Bt P E b ub st W) (hs' : ∃ p n c, Stk W0 Bt W' W0.heap.size ub 2 p n c st') (hk : Kept2 W W' ub 2 none) : USt W0 Bt P E b ub st' W' := by
  refine ⟨h.low.trans ((hk.below h.hu (fun k e => by cases e) h.low.size)), ?_, h.bnd.of_block (hk.block b h.bnd.lt (cell_map_ne h.ubc h.bnd).symm (by simp)), h.bmi, hs', h.hb, h.hu, h.slv.kept2 hk (fun k e => by cases e)⟩
  rw [hk.cells 0 (by decide)]; exact h.ubc
/-- What holds ahead of each pair. -/
structure RI (W0 : World) (Bt b ub : Nat) (R : Except Int (BM × Nat)) (k : Nat) (M P : BM) (E : List (Int × Value)) (st : List TT) (W : World) : Prop where
  cut : Cut P M
  wf : WfU M
  small : ∀ x u, M x = some u → (tcs u).length ≤ 2000
  ust : USt W0 Bt P E b ub st W
  elen : E.length ≤ k
  slen : st.length ≤ 1 + 20 * k
  pairs : ∀ p ∈ st, (p.1.fo.ok ∧ p.2.fo.ok) ∧ (tcs p.1).length ≤ 2000 ∧ (tcs p.2).length ≤ 2000
  run : runU 4 5 3 (20000 - k) M st.reverse = R
def RunOut (W0 : World) (Bt b ub : Nat) (R : Except Int (BM × Nat)) (e : Ending) (w' : World) : Prop := match R with
  | .error c => (c = 3 ∨ c = 4 ∨ c = 5) ∧ e = .returned (.int .i64 c) ∧ Below W0.heap.size W0 w'
  | .ok (M, _) => e = .returned (.int .i64 0) ∧ WfU M ∧ (∀ x u, M x = some u → (tcs u).length ≤ 2000) ∧ ∃ P E, Cut P M ∧ USt W0 Bt P E b ub [] w' ∧ E.length ≤ 20000
/-- A pair more. -/
theorem RI.next {W0 : World} {Bt b ub : Nat} {R : Except Int (BM × Nat)} {k : Nat} {M P : BM} {E : List (Int × Value)} {st' : List TT} {y : TT} {W : World} (h : RI W0 Bt b ub R k M P E (st' ++ [y]) W) (hk : k < 20000) :
    match stepE 4 5 M (endB M y.1) (endB M y.2) with
    | .error c => R = .error c
    | .ok (M', qs) => ∀ P' E' W', Cut P' M' → USt W0 Bt P' E' b ub (st' ++ qs.reverse) W' → E'.length ≤ E.length + 1 → RI W0 Bt b ub R (k + 1) M' P' E' (st' ++ qs.reverse) W' := by
  have hy := h.pairs y (by simp)
  have oX := h.wf.end_ok hy.1.1 (h.wf.endB y.1)
  have oY := h.wf.end_ok hy.1.2 (h.wf.endB y.2)
  have sX := (h.wf.endB y.1).small h.small hy.2.1
  have sY := (h.wf.endB y.2).small h.small hy.2.2
  have hrun := h.run
  rw [List.reverse_append, List.reverse_singleton, List.singleton_append, show 20000 - k = (19999 - k) + 1 by omega, runU] at hrun
  cases hs : stepE 4 5 M (endB M y.1) (endB M y.2) with
  | error c => rw [hs] at hrun; exact hrun.symm
  | ok r =>
    obtain ⟨M', qs⟩ := r
    rw [hs] at hrun
    simp only at hrun
    obtain ⟨w1, w2⟩ := h.wf.step (h.wf.endB y.1).last (h.wf.endB y.2).last oX oY hs
    obtain ⟨s1, s2, s3⟩ := step_small h.small sX sY oX hs
    intro P' E' W' hc hu hl
    refine ⟨hc, w1, s1, hu, by have := h.elen; omega, ?_, fun p hp => ?_, ?_⟩
    · have := h.slen
      simp only [List.length_append, List.length_singleton, List.length_reverse] at this ⊢
      omega
    · rcases List.mem_append.1 hp with hp | hp
      · exact h.pairs p (by simp [hp])
      · have hp' := List.mem_reverse.1 hp
        exact ⟨w2 p hp', s2 p hp'⟩
    · rw [List.reverse_append, List.reverse_reverse, show 20000 - (k + 1) = 19999 - k by omega]
      exact hrun

set_option maxRecDepth 100000 in
set_option maxHeartbeats 2000000 in
theorem run_any (W0 : World) (Bt b ub : Nat) (R : Except Int (BM × Nat)) (M P : BM) (E : List (Int × Value)) (st : List TT) (w : World) (h : RI W0 Bt b ub R 0 M P E st w) :
    Calls Try.prog 55 #[.pointer (some ⟨ub, 0, none⟩)] w (RunOut W0 Bt b ub R) := by
  obtain ⟨p0, n0, c0, hs0⟩ := h.ust.stk
  have c2 := hs0.cell
  have HL0 : Hid (n0 ≤ 400001) := by have := hs0.len; have := h.slen; show n0 ≤ _; omega
  have HI : Hid (RI W0 Bt b ub R 0 M P E st w ∧ Stk W0 Bt w W0.heap.size ub 2 p0 n0 c0 st) := ⟨h, hs0⟩
  clear h hs0
  go_enter Try.func55, Try.ntmps55
  go_wp2_with fail
  go_loopw [3] (fun i wr => ∃ (k : Nat) (M P : BM) (E : List (Int × Value)) (st : List TT) (p : Option Addr) (n c : Nat), k ≤ 20000 ∧ n ≤ 400001 ∧ i = .int .i64 k ∧ wr.cell? ⟨ub, 2, none⟩ = some (.slice p n c) ∧ Hid (RI W0 Bt b ub R k M P E st wr ∧ Stk W0 Bt wr W0.heap.size ub 2 p n c st)) (fun i _ => 20001 - (intOf i).toNat)
  case atStart => exact ⟨0, M, P, E, st, p0, n0, c0, by omega, HL0.out, rfl, c2, HI⟩
  case round =>
    obtain ⟨k, M, P, E, st, p, n, c, hk, hn, rfl, hcell, HR⟩ := hrel
    rcases List.eq_nil_or_concat st with rfl | ⟨st', y, rfl⟩
    · have hn0 : n = 0 := HR.out.2.len
      subst hn0
      have HF : Hid (RunOut W0 Bt b ub R (.returned (.int .i64 0)) wr) := by
        have h := HR.out.1
        have hr := h.run
        rw [List.reverse_nil, runU_nil] at hr
        rw [← hr]
        exact ⟨rfl, h.wf, h.small, P, E, h.cut, h.ust, by have := h.elen; omega⟩
      go_wp2_with fail
      go_ret
      exact HF.out
    · rw [List.concat_eq_append] at HR
      have hst := HR.out.2
      have hlen := hst.len
      have hpos : (0 : Int) < (n : Int) := by rw [hlen]; simp
      by_cases hk2 : k = 20000
      · subst hk2
        have HF : Hid (RunOut W0 Bt b ub R (.returned (.int .i64 3)) wr) := by
          have h := HR.out.1
          have hr := h.run
          rw [List.reverse_append, List.reverse_singleton, List.singleton_append, Nat.sub_self, runU] at hr
          rw [← hr]
          exact ⟨.inl rfl, rfl, h.ust.low⟩
        clear hst hlen HR
        go_wp2_with fail
        go_ret
        exact HF.out
      · have hk3 : k < 20000 := by omega
        have hk4 : ((k : Int) == 20000) = false := by simp; omega
        have HT := take_any W0 Bt wr W0.heap.size ub 2 p n c st' y (by omega) hst
        have HNX : Hid _ := HR.out.1.next hk3
        have HY : Hid _ := HR.out.1.pairs y (by simp)
        clear hst hlen hk2
        go_wp2_with fail
        refine HT.mono ?_
        rintro e w1 ⟨v1, v2, rfl, f1, f2, ⟨p', n', c', hs', hrow'⟩, hk'⟩
        have hu1 : USt W0 Bt P E b ub st' w1 := HR.out.1.ust.taken ⟨p', n', c', hs'⟩ hk'
        have HS := step_any W0 Bt M HR.out.1.wf HR.out.1.small b ub P E st' y.1 y.2 v1 v2 w1 HR.out.1.cut HY.out.1.1 HY.out.1.2 HY.out.2.1 HY.out.2.2 f1 f2 hu1 (by have := HR.out.1.elen; omega) (by have := HR.out.1.slen; simp at this; omega)
        unfold StepOut at HS
        have hnx := HNX.out
        clear hs' hrow' hk' f1 f2 hu1 HT HNX HY
        cases hse : stepE 4 5 M (endB M y.1) (endB M y.2) with
        | error cc =>
          rw [hse] at HS hnx
          simp only at HS hnx
          have hcc := step_codes hse
          have hcn : (cc == 0) = false := by rcases hcc with rfl | rfl <;> rfl
          have HF : Hid (∀ w', Below W0.heap.size W0 w' → RunOut W0 Bt b ub R (.returned (.int .i64 cc)) w') := fun w' hb => by rw [hnx]; exact ⟨.inr hcc, rfl, hb⟩
          clear hse hnx hcc HR
          go_wp2_with fail
          refine HS.mono ?_
          rintro e w2 ⟨rfl, hb2⟩
          have HF2 : Hid (RunOut W0 Bt b ub R (.returned (.int .i64 cc)) w2) := HF.out w2 hb2
          clear hb2 HS HF
          go_wp2_with fail
          go_ret
          exact HF2.out
        | ok r =>
          obtain ⟨M', qs⟩ := r
          rw [hse] at HS hnx
          simp only at HS hnx
          have HNX : Hid _ := hnx
          clear hse hnx HR
          go_wp2_with fail
          refine HS.mono ?_
          rintro e w2 ⟨rfl, P', E', hc', hu', hl'⟩
          have hri := HNX.out P' E' w2 hc' hu' hl'
          obtain ⟨p2, n2, c3, hs2⟩ := hu'.stk
          have hc2 := hs2.cell
          have hn2 : n2 ≤ 400001 := by have := hs2.len; have := hri.slen; omega
          have HN : Hid (RI W0 Bt b ub R (k + 1) M' P' E' (st' ++ qs.reverse) w2 ∧ Stk W0 Bt w2 W0.heap.size ub 2 p2 n2 c3 (st' ++ qs.reverse)) := ⟨hri, hs2⟩
          clear hri hs2 hc' hu' hl' HS HNX
          go_wp2_with fail
          go_roundw
          case rel => exact ⟨k + 1, M', P', E', st' ++ qs.reverse, p2, n2, c3, by omega, hn2, by go_num, hc2, HN⟩
          case measure => simp [intOf]; omega

end Go.Proofs.Ytglebnelmnnboaa

namespace Go.Proofs.Ytglebnelmnnboaa
open Go Go.RowKit
set_option linter.unusedVariables false

/-- What markByteS writes from k on. -/
def marks (k : Int) : Nat → List Int
  | 0 => []
  | n + 1 => (k % 256) :: marks (k + 1) n
theorem marks_len : ∀ (n : Nat) (k : Int), (marks k n).length = n
  | 0, _ => rfl
  | n + 1, k => by simp [marks, marks_len n (k + 1)]
theorem marks_at : ∀ (n : Nat) (k : Int) (i : Nat), i < n → (marks k n).getD i 0 = (k + i) % 256
  | 0, _, _, h => absurd h (Nat.not_lt_zero _)
  | n + 1, k, 0, _ => by simp [marks]
  | n + 1, k, i + 1, h => by
    have := marks_at n (k + 1) i (by omega)
    simp only [marks, List.getD_cons_succ, this]
    congr 1; omega

/-- The row when the first i bytes are written over. -/
def partly (k : Int) (xs : List Int) (i : Nat) : List Int := marks k i ++ xs.drop i
theorem partly_len (k : Int) (xs : List Int) (i : Nat) (h : i ≤ xs.length) : (partly k xs i).length = xs.length := by
  simp [partly, marks_len]; omega
theorem marks_snoc : ∀ (i : Nat) (k : Int), marks k (i + 1) = marks k i ++ [(k + i) % 256]
  | 0, k => by simp [marks]
  | i + 1, k => by
    rw [marks, marks_snoc i (k + 1), marks]
    simp only [List.cons_append, List.cons.injEq, true_and]
    congr 3; omega
theorem partly_set (k : Int) (xs : List Int) (i : Nat) (h : i < xs.length) : ((partly k xs i).map (Value.int .u8)).set i (.int .u8 ((k + i) % 256)) = (partly k xs (i + 1)).map (Value.int .u8) := by
  unfold partly
  have e : i - ((marks k i).map (Value.int IntKind.u8)).length = 0 := by simp [marks_len]
  rw [marks_snoc, List.map_append, List.set_append_right _ _ (by simp [marks_len]), e, List.drop_eq_getElem_cons h, List.map_cons, List.set_cons_zero, List.map_append, List.map_append, List.append_assoc]
  rfl

theorem wrap_byte (k : Int) (h : 0 ≤ k) : IntKind.u8.wrap k = k % 256 := by
  simp [IntKind.wrap, IntKind.signed, IntKind.bits]

theorem mark_any (B g n c : Nat) (k : Int) (xs : List Int) (w : World) (h0 : 0 ≤ k) (h1 : k ≤ 1000000000000) (hn : n ≤ 1000000000) (hown : OwnS w B (some ⟨g, 0, none⟩) n c xs) :
    Calls Try.prog 50 #[.slice (some ⟨g, 0, none⟩) n c, .int .i64 k] w fun e w' => e = .returned (.int .i64 (k + n)) ∧ OwnS w' B (some ⟨g, 0, none⟩) n c (marks k n) ∧ w.grownBy w' (some g) := by
  have HN : Hid (n = xs.length) := hown.1
  have HO : Hid (OwnS w B (some ⟨g, 0, none⟩) n c xs) := hown
  clear hown
  go_enter Try.func50, Try.ntmps50
  go_wp2
  go_loopw [1, 5] (fun q i wr => ∃ j : Nat, j ≤ n ∧ i = .int .i64 j ∧ q = .int .i64 (k + j) ∧ Hid (OwnS wr B (some ⟨g, 0, none⟩) n c (partly k xs j)) ∧ Hid (w.grownBy wr (some g))) (fun _ i _ => n - (intOf i).toNat)
  case atStart => exact ⟨0, Nat.zero_le _, rfl, by simp, by simpa [partly, marks] using HO, ⟨rfl, rfl, rfl, Nat.le_refl _, fun _ _ _ => rfl⟩⟩
  case round =>
    obtain ⟨j, hj, rfl, rfl, HR, HG⟩ := hrel
    by_cases hlt : j < n
    · have hd : ∃ z, wr.cell? ⟨g, j, none⟩ = some (.int .u8 z) := ⟨_, HR.out.row.2 j (by rw [← HR.out.1]; exact hlt)⟩
      obtain ⟨z, hd⟩ := hd
      have hf := HR.out.2.frozenAt j
      have hwr := wrap_byte (k + j) (by omega)
      have HS : Hid (OwnS (wr.setCell ⟨g, j, none⟩ (.int .u8 ((k + j) % 256))) B (some ⟨g, 0, none⟩) n c (partly k xs (j + 1)) ∧ wr.grownBy (wr.setCell ⟨g, j, none⟩ (.int .u8 ((k + j) % 256))) (some g)) := by
        have hs := HR.out.2.stored j (.int .u8 ((k + j) % 256))
        rw [partly_set k xs j (by rw [← HN.out]; exact hlt)] at hs
        exact ⟨⟨by rw [partly_len _ _ _ (by rw [← HN.out]; omega)]; exact HN.out, hs.1⟩, hs.2⟩
      go_wp2
      go_roundw
      case rel => exact ⟨j + 1, by omega, by go_num, by simp; omega, HS.out.1, HG.out.trans HS.out.2⟩
      case measure => simp [intOf]; omega
    · obtain rfl : j = n := by omega
      go_wp2
      go_ret
      refine ⟨rfl, ?_, HG.out⟩
      have := HR.out
      unfold partly at this
      rw [List.drop_eq_nil_of_le (by rw [← HN.out]; exact Nat.le_refl _), List.append_nil] at this
      exact this

/-- The same of whatever slice of the call's own, nil too. -/
theorem mark_own (B : Nat) (p : Option Addr) (n c : Nat) (k : Int) (xs : List Int) (w : World) (h0 : 0 ≤ k) (h1 : k ≤ 1000000000000) (hn : n ≤ 1000000000) (hown : OwnS w B p n c xs) :
    Calls Try.prog 50 #[.slice p n c, .int .i64 k] w fun e w' => e = .returned (.int .i64 (k + n)) ∧ OwnS w' B p n c (marks k n) ∧ w.grownBy w' (Value.ownBlock (.slice p n c)) := by
  rcases hown.form with ⟨rfl, rfl, rfl⟩ | ⟨g, rfl, _, _⟩
  · clear hown
    go_enter Try.func50, Try.ntmps50
    go_wp2
    refine wp_loop_rounds 1 ?_
    rw [rounds_succ]
    go_wp2
    go_ret
    exact ⟨by simp, OwnS.nil _ _, ⟨rfl, rfl, rfl, Nat.le_refl _, fun _ _ _ => rfl⟩⟩
  · exact mark_any B g n c k xs w h0 h1 hn hown

theorem OwnS.kept {w w' : World} {B : Nat} {p : Option Addr} {n c : Nat} {ys : List Int} {row : Option Nat} (h : OwnS w B p n c ys) (hg : w.grownBy w' row) (hne : ∀ g, p = some ⟨g, 0, none⟩ → row ≠ some g) : OwnS w' B p n c ys := by
  obtain ⟨rfl, hr⟩ := h
  refine ⟨rfl, hr.1, ?_⟩
  rcases hr.2 with h' | ⟨g, cap, cur, hv, hB, hg', r⟩
  · exact .inl h'
  · have hp : p = some ⟨g, 0, none⟩ := by simp only [Value.slice.injEq] at hv; exact hv.1
    exact .inr ⟨g, cap, cur, hv, hB, (hg.block g (Array.getElem?_eq_some_iff.1 hg').1 (fun e => hne g hp e.symm)).trans hg', r⟩
theorem OwnS.drewN {w : World} {B : Nat} {p : Option Addr} {n c : Nat} {ys : List Int} (h : OwnS w B p n c ys) (m : Nat) : OwnS (w.drewN m) B p n c ys := ⟨h.1, h.2⟩

theorem held_any (p : Option Addr) (n c : Nat) (k : Int) (w : World) (h0 : 0 ≤ k) (h1 : k ≤ 1000000000000) (hn : n ≤ 1000000000) (hin : BIn w p (marks k n)) :
    Calls Try.prog 51 #[.slice p n c, .int .i64 k] w fun e w' => e = .returned (.int .i64 (k + n)) ∧ w' = w := by
  have HI : Hid (BIn w p (marks k n)) := hin
  clear hin
  go_enter Try.func51, Try.ntmps51
  go_wp2
  go_loop [1, 5] (fun q i => ∃ j : Nat, j ≤ n ∧ i = .int .i64 j ∧ q = .int .i64 (k + j)) (fun _ i => n - (intOf i).toNat)
  case atStart => exact ⟨0, Nat.zero_le _, rfl, by simp⟩
  case round =>
    obtain ⟨j, hj, rfl, rfl⟩ := hrel
    by_cases hlt : j < n
    · obtain ⟨b, o, rfl, hc⟩ := HI.out (by rw [marks_len]; omega)
      have hx := hc j (by rw [marks_len]; exact hlt)
      rw [marks_at n k j hlt] at hx
      have hwr := wrap_byte (k + j) (by omega)
      clear hc
      go_wp2
      go_round
      case rel => exact ⟨j + 1, by omega, by go_num, by simp; omega⟩
      case measure => simp [intOf]; omega
    · obtain rfl : j = n := by omega
      go_wp2
      go_ret
      exact ⟨rfl, rfl⟩

end Go.Proofs.Ytglebnelmnnboaa

namespace Go.Proofs.Ytglebnelmnnboaa
open Go Go.RowKit
set_option linter.unusedVariables false

/-- The block that a text lies in. -/
def tb (p : Option Addr) (n : Nat) : Option Nat := if n = 0 then none else p.map Addr.block

theorem partly_at (k : Int) (xs : List Int) (j i : Nat) (hj : j ≤ xs.length) (hi : i < xs.length) : (partly k xs j).getD i 0 = if i < j then (k + i) % 256 else xs.getD i 0 := by
  unfold partly
  by_cases h : i < j
  · rw [if_pos h, ← marks_at j k i h]
    simp only [List.getD]
    rw [List.getElem?_append_left (by rw [marks_len]; exact h)]
  · rw [if_neg h]
    simp only [List.getD]
    rw [List.getElem?_append_right (by rw [marks_len]; omega), marks_len, List.getElem?_drop, show j + (i - j) = i by omega]

theorem markT_any (B : Nat) (p : Option Addr) (n c : Nat) (k : Int) (xs : List Int) (w : World) (h0 : 0 ≤ k) (h1 : k ≤ 1000000000000) (hn : n ≤ 1000000000) (hown : OwnT w B p n c xs) :
    Calls Try.prog 50 #[.slice p n c, .int .i64 k] w fun e w' => e = .returned (.int .i64 (k + n)) ∧ OwnT w' B p n c (marks k n) ∧ w.grownBy w' (tb p n) := by
  by_cases hz : n = 0
  · subst hz
    clear hown
    go_enter Try.func50, Try.ntmps50
    go_wp2
    refine wp_loop_rounds 1 ?_
    rw [rounds_succ]
    go_wp2
    go_ret
    exact ⟨by simp, ⟨rfl, fun h => absurd h (Nat.lt_irrefl 0)⟩, ⟨rfl, rfl, rfl, Nat.le_refl _, fun _ _ _ => rfl⟩⟩
  · obtain ⟨hl, hr⟩ := hown
    obtain ⟨g, rfl, hB, hlt0, hc⟩ := hr (by omega)
    have HN : Hid (n = xs.length) := hl
    have HO : Hid (∀ i, i < n → w.cell? ⟨g, i, none⟩ = some (.int .u8 (xs.getD i 0)) ∧ w.frozen? ⟨g, i, none⟩ = false) := hc
    have ht : tb (some (⟨g, 0, none⟩ : Addr)) n = some g := by simp [tb, hz]
    rw [ht]
    clear hl hr hc ht
    go_enter Try.func50, Try.ntmps50
    go_wp2
    go_loopw [1, 5] (fun q i wr => ∃ j : Nat, j ≤ n ∧ i = .int .i64 j ∧ q = .int .i64 (k + j) ∧ Hid (∀ i, i < n → wr.cell? ⟨g, i, none⟩ = some (.int .u8 ((partly k xs j).getD i 0)) ∧ wr.frozen? ⟨g, i, none⟩ = false) ∧ Hid (w.grownBy wr (some g))) (fun _ i _ => n - (intOf i).toNat)
    case atStart => exact ⟨0, Nat.zero_le _, rfl, by simp, by simpa [partly, marks] using HO, ⟨rfl, rfl, rfl, Nat.le_refl _, fun _ _ _ => rfl⟩⟩
    case round =>
      obtain ⟨j, hj, rfl, rfl, HR, HG⟩ := hrel
      by_cases hlt : j < n
      · obtain ⟨hd, hf⟩ := HR.out j hlt
        obtain ⟨z, ez⟩ : ∃ z, z = (partly k xs j).getD j 0 := ⟨_, rfl⟩
        rw [← ez] at hd
        clear ez
        have hwr := wrap_byte (k + j) (by omega)
        have HS : Hid ((∀ i, i < n → (wr.setCell ⟨g, j, none⟩ (.int .u8 ((k + j) % 256))).cell? ⟨g, i, none⟩ = some (.int .u8 ((partly k xs (j + 1)).getD i 0)) ∧ (wr.setCell ⟨g, j, none⟩ (.int .u8 ((k + j) % 256))).frozen? ⟨g, i, none⟩ = false) ∧ w.grownBy (wr.setCell ⟨g, j, none⟩ (.int .u8 ((k + j) % 256))) (some g)) := by
          refine ⟨fun i hi => ⟨?_, by rw [World.frozen?_setCell]; exact (HR.out i hi).2⟩, HG.out.trans ⟨rfl, rfl, rfl, by simp, fun b _ hb => Below.heap_setCell _ _ _ _ (fun e => hb (by rw [e]))⟩⟩
          have hxl := HN.out
          rw [partly_at k xs (j + 1) i (by omega) (by omega)]
          by_cases e : i = j
          · subst e
            rw [if_pos (by omega)]
            exact World.cell?_setCell_same _ _ _ hd
          · rw [World.cell?_setCell_other _ _ _ _ (fun e' => e (congrArg Addr.off e').symm), (HR.out i hi).1, partly_at k xs j i (by omega) (by omega)]
            by_cases e2 : i < j
            · rw [if_pos e2, if_pos (by omega)]
            · rw [if_neg e2, if_neg (by omega)]
        go_wp2
        go_roundw
        case rel => exact ⟨j + 1, by omega, by go_num, by simp; omega, HS.out.1, HS.out.2⟩
        case measure => simp [intOf]; omega
      · obtain rfl : j = n := by omega
        go_wp2
        go_ret
        refine ⟨rfl, ⟨(marks_len _ _).symm, fun _ => ⟨g, rfl, hB, Nat.lt_of_lt_of_le hlt0 HG.out.size, fun i hi => ⟨?_, (HR.out i hi).2⟩⟩⟩, HG.out⟩
        have hxl := HN.out
        rw [(HR.out i hi).1, partly_at k xs j i (by omega) (by omega), if_pos hi, marks_at j k i hi]

end Go.Proofs.Ytglebnelmnnboaa

