/- subsumes of the program. Own work of the verifier. -/
import Derived.Test.YtjbckdmlogjggaaStk5
import Derived.Test.YtjbckdmlogjggaaVMap
import Derived.Test.YtjbckdmlogjggaaRegK
namespace Go.Proofs.Ytjbckdmlogjggaa
open Go Go.RowKit
set_option linter.unusedVariables false

/-- The values of what variables stand for. -/
def EnvIn (W0 : World) (Bt : Nat) : Env → List (Int × Value) → Prop
  | [], E => E = []
  | y :: r, E => ∃ v s, E = (y.1, v) :: s ∧ FoIn W0 Bt y.2.fo [v] ∧ EnvIn W0 Bt r s
theorem EnvIn.look {W0 : World} {Bt : Nat} : ∀ (env : Env) (E : List (Int × Value)), EnvIn W0 Bt env E → ∀ x : Int, (∀ t, Go.Proofs.Ytjbckdmlogjggaa.look env x = some t → ∃ v, Go.Proofs.Ytjbckdmlogjggaa.look E x = some v ∧ FoIn W0 Bt t.fo [v]) ∧ (Go.Proofs.Ytjbckdmlogjggaa.look env x = none → Go.Proofs.Ytjbckdmlogjggaa.look E x = none)
  | [], E, h, x => by rw [show E = [] from h]; exact ⟨fun t e => (by cases e), fun _ => rfl⟩
  | y :: r, E, ⟨v, s, e, hf, hr⟩, x => by
    subst e
    have ih := EnvIn.look r s hr x
    simp only [Go.Proofs.Ytjbckdmlogjggaa.look]
    by_cases h : y.1 = x
    · simp only [if_pos h]
      exact ⟨fun t e => ⟨v, rfl, by cases e; exact hf⟩, fun e => by cases e⟩
    · simp only [if_neg h]
      exact ih
theorem EnvIn.snoc {W0 : World} {Bt : Nat} {x : Int} {t : Tr} {v : Value} (hf : FoIn W0 Bt t.fo [v]) : ∀ (env : Env) (E : List (Int × Value)), EnvIn W0 Bt env E → EnvIn W0 Bt (env ++ [(x, t)]) (E ++ [(x, v)])
  | [], E, h => by rw [show E = [] from h]; exact ⟨v, [], rfl, hf, rfl⟩
  | y :: r, E, ⟨u, s, e, h1, h2⟩ => by subst e; exact ⟨u, s ++ [(x, v)], rfl, h1, EnvIn.snoc hf r s h2⟩
def envOk (env : Env) : Prop := ∀ y ∈ env, y.2.ok ∧ y.2.2.cells.length ≤ 10000
def stOk (st : List TT) : Prop := ∀ y ∈ st, y.1.ok ∧ y.2.ok ∧ y.2.2.cells.length ≤ 10000
theorem opened_small {x : TT} (h1 : x.1.ok) (h2 : x.2.ok) (h3 : x.2.2.cells.length ≤ 10000) : stOk (opened x) := fun y hy => by
  have h := opened_ok h1 h2 y hy
  refine ⟨h.1, h.2, ?_⟩
  unfold opened argPairs at hy
  split at hy
  · have hz := (List.of_mem_zip (List.mem_reverse.1 hy)).2
    have : ∀ (F : Fo) (t : Tr), t ∈ trs F → t.2.cells.length ≤ F.cells.length := fun F => by
      induction F with
      | nil => intro t ht; simp [trs] at ht
      | node c k r _ ih =>
        intro t ht
        rcases List.mem_cons.1 (show t ∈ (c, k) :: trs r from ht) with rfl | ht
        · simp [Fo.cells]; omega
        · have := ih t ht
          simp [Fo.cells]; omega
    exact Nat.le_trans (this _ _ hz) h3
  · cases hy
/-- The state of the loop. -/
structure SubSt (w : World) (wr : World) (R : Bool) (k : Nat) (p : Option Addr) (n c : Nat) (st : List TT) (env : Env) (E : List (Int × Value)) (N : Nat) : Prop where
  stk : Stk w 0 wr (w.heap.size + 1) (w.heap.size + 1 + 1) 0 p n c st
  map : VMap wr w.heap.size N E
  envin : EnvIn w 0 env E
  eok : envOk env
  sok : stOk st
  loadk : Go.Proofs.Ytjbckdmlogjggaa.load st = k
  room : N + k ≤ 20000
  res : (subL env st.reverse).isSome = R
  low : Below w.heap.size w wr
theorem SubSt.rowAt {w wr : World} {R : Bool} {k : Nat} {p : Option Addr} {n c : Nat} {st : List TT} {env : Env} {E : List (Int × Value)} {N : Nat} (h : SubSt w wr R k p n c st env E N) : ∀ j, Value.ownBlock (.slice p n c) = some j → w.heap.size + 1 ≤ j := fun j e => by
  obtain ⟨_, hr, _⟩ := h.stk.row
  exact (hr.lt j e).1
theorem VMap.kept2 {w w' : World} {b N sb so : Nat} {E : List (Int × Value)} {g : Option Nat} (h : VMap w b N E) (hk : Kept2 w w' sb so g) (h1 : b ≠ sb) (h2 : some b ≠ g) : VMap w' b N E := h.of_block (hk.block b h.lt h1 h2)
theorem Stk.grown {W0 : World} {Bt : Nat} {w w' : World} {B sb so mb : Nat} {p : Option Addr} {n c : Nat} {st : List TT} (h : Stk W0 Bt w B sb so p n c st) (hg : w.grownBy w' (some mb)) (h1 : mb < B) (h2 : mb ≠ sb) : Stk W0 Bt w' B sb so p n c st := by
  have hs : sb < w.heap.size := World.block_lt_of_cell? _ _ h.cell
  have hb : w'.heap[sb]? = w.heap[sb]? := hg.block sb hs (fun e => h2 (Option.some.inj e).symm)
  obtain ⟨vs, hr, hp⟩ := h.row
  refine ⟨(World.cell?_of_block (a := ⟨sb, so, none⟩) hb).trans h.cell, (World.frozen?_of_block (a := ⟨sb, so, none⟩) hb).trans h.free, h.len, ⟨vs, hr.kept hg ?_, hp⟩, h.away⟩
  right
  intro e
  have := (hr.lt mb e).1
  omega

set_option maxRecDepth 100000 in
set_option maxHeartbeats 2000000 in
theorem subsumes_any (w : World) (x : TT) (v1 v2 : Value) (hx1 : FoIn w 0 x.1.fo [v1]) (hx2 : FoIn w 0 x.2.fo [v2]) (ho1 : x.1.ok) (ho2 : x.2.ok) (hl : x.1.2.cells.length ≤ 10000) (hl2 : x.2.2.cells.length ≤ 10000) :
    Calls Try.prog 32 #[v1, v2] w fun e w' => e = .returned (.bool (subF [] x.1.fo x.2.fo).isSome) ∧ Below w.heap.size w w' := by
  obtain ⟨t1, y1, rfl⟩ := FoIn.iface (show FoIn w 0 (.node x.1.1 x.1.2 .nil) [v1] from hx1)
  obtain ⟨t2, y2, rfl⟩ := FoIn.iface (show FoIn w 0 (.node x.2.1 x.2.2 .nil) [v2] from hx2)
  have hms := Stk.made (w.alloc (.map #[] 0)) x (.iface t1 y1) (.iface t2 y2) 93 hx1 hx2
  simp only [World.size_alloc] at hms
  have HB : Hid (∀ a b d, Below w.heap.size w (((w.alloc a).alloc b).alloc d)) := fun a b d => (((Below.refl _ _).alloc (Nat.le_refl _) _).alloc (by simp) _).alloc (by simp; omega) _
  obtain ⟨R, eR⟩ : ∃ R, R = (subF [] x.1.fo x.2.fo).isSome := ⟨_, rfl⟩
  have HST : Hid (SubSt w (((w.alloc (.map #[] 0)).alloc (.cells #[.iface t1 y1, .iface t2 y2] 91)).alloc (.cells #[.slice (some ⟨w.heap.size + 1, 0, none⟩) 1 1] 93)) R (load [x]) (some ⟨w.heap.size + 1, 0, none⟩) 1 1 [x] [] [] 0) := ⟨hms, ((VMap.made w).below (((Below.refl _ _).alloc (Nat.le_refl _) _).alloc (by simp) _)).mono (Nat.zero_le _), rfl, fun y h => (by cases h), fun y hy => by rw [List.mem_singleton.1 hy]; exact ⟨ho1, ho2, hl2⟩, rfl, by simp [load]; omega, by rw [eR]; simp only [List.reverse_singleton, subL]; cases subF [] x.1.fo x.2.fo <;> rfl, HB.out _ _ _⟩
  rw [← eR]
  clear hx1 hx2 ho1 ho2 eR hms
  have hmm := @run_makeMap Try.prog
  go_enter Try.func32, Try.ntmps32
  go_wp2
  go_loopg [] (load [x]) (fun k wr => ∃ (p : Option Addr) (n c : Nat) (st : List TT) (env : Env) (E : List (Int × Value)) (N : Nat), wr.cell? ⟨w.heap.size + 1 + 1, 0, none⟩ = some (.slice p n c) ∧ n ≤ 100000 ∧ Hid (SubSt w wr R k p n c st env E N))
  case atStart => exact ⟨_, _, _, [x], [], [], 0, HST.out.stk.cell, by decide, HST.out⟩
  case round =>
    obtain ⟨p, n, c, st, env, E, N, hcell, hn, HR⟩ := hrel
    rcases List.eq_nil_or_concat st with rfl | ⟨st', y, rfl⟩
    · have hn0 : n = 0 := HR.out.stk.len
      subst hn0
      have HF : Hid (R = true) := HR.out.res.symm
      go_wp2
      go_ret
      exact ⟨ret_bool HF.out.symm, HR.out.low⟩
    · rw [List.concat_eq_append] at HR
      have hst := HR.out.stk
      have hn1 : n = st'.length + 1 := by rw [hst.len]; simp
      have hpos : (0 : Int) < (n : Int) := by omega
      have HT := take_any w 0 wr (w.heap.size + 1) (w.heap.size + 1 + 1) 0 p n c st' y (by omega) hst
      have HOY : Hid (y.1.ok ∧ y.2.ok ∧ y.2.2.cells.length ≤ 10000) := HR.out.sok y (by simp)
      have HN1 : Hid (n = st'.length + 1) := hn1
      have HBwr : Hid (w.heap.size + 1 + 1 < wr.heap.size) := World.block_lt_of_cell? _ _ hcell
      have HRV : Hid (subL env (y :: st'.reverse)).isSome = Hid (subL env (y :: st'.reverse)).isSome := rfl
      have HRES : Hid ((subL env (y :: st'.reverse)).isSome = R) := by have := HR.out.res; simpa [Hid] using this
      clear hst hn1 HRV
      go_wp2_with fail
      refine HT.mono ?_
      rintro e w1 ⟨v1, v2, rfl, f1, f2, ⟨p', n', c', hs', hrow'⟩, hk⟩
      obtain ⟨u1, z1, rfl⟩ := FoIn.iface (show FoIn w 0 (.node y.1.1 y.1.2 .nil) [v1] from f1)
      obtain ⟨u2, z2, rfl⟩ := FoIn.iface (show FoIn w 0 (.node y.2.1 y.2.2 .nil) [v2] from f2)
      have HS1 : Hid (Stk w 0 w1 (w.heap.size + 1) (w.heap.size + 1 + 1) 0 p' n' c' st') := hs'
      have HM1 : Hid (VMap w1 w.heap.size N E) := HR.out.map.kept2 hk (by omega) (fun e => by cases e)
      have HB1 : Hid (Below w.heap.size w w1) := HR.out.low.trans (hk.below (by omega) (fun k e => by cases e) (by have := HBwr.out; omega))
      have HF : Hid (FoIn w 0 y.1.fo [.iface u1 z1] ∧ FoIn w 0 y.2.fo [.iface u2 z2]) := ⟨f1, f2⟩
      have HSZ1 : Hid (wr.heap.size ≤ w1.heap.size) := hk.size
      have hsz1 : w.heap.size + 1 + 1 < w1.heap.size := Nat.lt_of_lt_of_le HBwr.out hk.size
      clear hs' hrow' hk HT f2 hcell
      obtain ⟨v', vr, e', hnode, _⟩ := f1
      obtain ⟨rfl, rfl⟩ := List.cons.inj e'
      by_cases h0 : y.1.1.1 = 0
      · have hu : u1 = 67 ∧ z1 = .int .i64 y.1.1.2.1 := by
          rcases hnode with ⟨_, e⟩ | ⟨e, _⟩ | ⟨e, _⟩ | ⟨e, _⟩
          · cases e; exact ⟨rfl, rfl⟩
          · omega
          · omega
          · omega
        obtain ⟨rfl, rfl⟩ := hu
        have hv := HOY.out.1.1
        rw [h0] at hv
        have hvr : 0 ≤ y.1.1.2.1 ∧ y.1.1.2.1 ≤ 1000000 := by simp [cellB] at hv; exact ⟨hv.1, hv.2.1⟩
        have a1 := isVar
        have hal : Below w1.heap.size w1 (w1.alloc (.cells #[.iface 67 (.int .i64 y.1.1.2.1), .iface u2 z2] 91)).drew := ((Below.refl w1.heap.size w1).alloc (Nat.le_refl _) _).drew
        have HSA : Hid _ := HS1.out.below hal
        have HBA : Hid _ := Below.on HB1.out hal
        have HMA : Hid _ := HM1.out.below hal
        have hld : load st' + 1 ≤ gk := by have := HR.out.loadk; rw [load_append] at this; simp [load] at this; omega
        have hrm := HR.out.room
        have HLK := (HR.out.envin).look _ _ y.1.1.2.1
        have H0 : Hid (y.1.1.1 = 0) := h0
        have hce : ∃ (f : TypeId × Value) (t : Tr) (env' : Env) (E' : List (Int × Value)), KeepOut = KeepOut ∧ (∀ W, VMap W w.heap.size N E → Calls Try.prog 63 #[.map (some w.heap.size), .int .i64 y.1.1.2.1, .iface u2 z2] W fun e w' => e = .returned (.iface f.1 f.2) ∧ VMap w' w.heap.size (N + 1) E' ∧ W.grownBy w' (some w.heap.size)) ∧ FoIn w 0 t.fo [.iface f.1 f.2] ∧ t.ok ∧ t.2.cells.length ≤ 10000 ∧ EnvIn w 0 env' E' ∧ envOk env' ∧ (subL env (y :: st'.reverse)).isSome = (eqT (t, y.2) && (subL env' st'.reverse).isSome) := by
          cases hl : look env y.1.1.2.1 with
          | some t =>
            obtain ⟨v, hv1, hv2⟩ := HLK.1 t hl
            obtain ⟨tt, yy, rfl⟩ := FoIn.iface (show FoIn w 0 (.node t.1 t.2 .nil) [v] from hv2)
            have hte := HR.out.eok _ (look_mem hl)
            refine ⟨(tt, yy), t, env, E, rfl, fun W hW => ?_, hv2, hte.1, hte.2, HR.out.envin, HR.out.eok, ?_⟩
            · have := keep_any w.heap.size N E y.1.1.2.1 u2 z2 W hvr.1 hvr.2 (by omega) (fun u hu => by rw [hv1] at hu; cases hu; exact ⟨_, _, rfl⟩) hW
              unfold KeepOut at this
              rw [hv1] at this
              exact this
            · rw [subL_old _ H0.out hl]
              cases eqT (t, y.2) <;> simp
          | none =>
            have hv1 := HLK.2 hl
            refine ⟨(u2, z2), y.2, env ++ [(y.1.1.2.1, y.2)], E ++ [(y.1.1.2.1, .iface u2 z2)], rfl, fun W hW => ?_, HF.out.2, HOY.out.2.1, HOY.out.2.2, EnvIn.snoc HF.out.2 _ _ HR.out.envin, ?_, ?_⟩
            · have := keep_any w.heap.size N E y.1.1.2.1 u2 z2 W hvr.1 hvr.2 (by omega) (fun u hu => by rw [hv1] at hu; cases hu) hW
              unfold KeepOut at this
              rw [hv1] at this
              exact this
            · intro z hz
              rcases List.mem_append.1 hz with hz | hz
              · exact HR.out.eok z hz
              · rw [List.mem_singleton.1 hz]; exact ⟨HOY.out.2.1, HOY.out.2.2⟩
            · rw [subL_new _ H0.out hl, (eqT_iff (y.2, y.2)).2 rfl]; simp
        obtain ⟨f, t, env', E', _, hkeep, hft, htok, htl, henv, heok, hres⟩ := hce
        have HKP : Hid (∀ W, VMap W w.heap.size N E → Calls Try.prog 63 #[.map (some w.heap.size), .int .i64 y.1.1.2.1, .iface u2 z2] W fun e w' => e = .returned (.iface f.1 f.2) ∧ VMap w' w.heap.size (N + 1) E' ∧ W.grownBy w' (some w.heap.size)) := hkeep
        have HSM : Hid (∀ W, Below w.heap.size w W → Calls Try.prog 36 #[.iface f.1 f.2, .iface u2 z2] W fun e w' => e = .returned (.bool (eqT (t, y.2))) ∧ Below W.heap.size W w') := fun W hW => isSame_any w 0 W (t, y.2) _ _ hW hft HF.out.2 htok HOY.out.2.1 htl
        have HEN : Hid (EnvIn w 0 env' E' ∧ envOk env') := ⟨henv, heok⟩
        have HRE : Hid (R = (eqT (t, y.2) && (subL env' st'.reverse).isSome)) := by show _ = _; rw [← hres]; exact HRES.out.symm
        obtain ⟨f1, f2⟩ := f
        simp only at HKP HSM
        obtain ⟨vv, evv⟩ : ∃ vv, vv = y.1.1.2.1 := ⟨_, rfl⟩
        rw [← evv] at HKP HSA HBA HMA ⊢
        have HAFT : Hid (∀ w3, (w1.alloc (.cells #[.iface 67 (.int .i64 vv), .iface u2 z2] 91)).drew.grownBy w3 (some w.heap.size) → w3.cell? ⟨w1.heap.size, 1, none⟩ = some (.iface u2 z2) ∧ Below w.heap.size w w3 ∧ Stk w 0 w3 (w.heap.size + 1) (w.heap.size + 1 + 1) 0 p' n' c' st') := fun w3 hg => by
          refine ⟨?_, HBA.out.grown hg HBA.out.size (fun k e => by cases e; exact Nat.le_refl _), HSA.out.grown hg (by omega) (by omega)⟩
          rw [World.cell?_of_block (a := ⟨w1.heap.size, 1, none⟩) (hg.block w1.heap.size (by show _ < (w1.alloc _).heap.size; simp) (fun e => by have := Option.some.inj e; omega))]
          exact cell_of_row _ _ 1 _ _ _ (heap_alloc_new w1 _)
        obtain ⟨R2, eR2⟩ : ∃ R2, R2 = eqT (t, y.2) := ⟨_, rfl⟩
        rw [← eR2] at HSM HRE
        clear hnode h0 hal e' hkeep hft htok htl henv heok hres eR2 evv HLK hvr hv
        go_wp2_with fail
        go_region_held3 (fun W => W.cell? ⟨w1.heap.size, 1, none⟩ = some (.iface u2 z2)) (first | exact kc | go_keep)
          (first
            | (go_at_call 63; refine (HKP.out _ HMA.out).mono ?_; rintro e w3 ⟨rfl, hm3, hg3⟩; obtain ⟨kc, hb3, hs3⟩ := HAFT.out w3 hg3)
            | (go_at_call 36; refine (HSM.out _ hb3).mono ?_; rintro e w4 ⟨rfl, hb4⟩; have kc := (hb4.cell (p := ⟨w1.heap.size, 1, none⟩) (World.block_lt_of_cell? _ _ kc)).trans kc))
        have HM4 : Hid _ := hm3.below hb4
        have HS4 : Hid _ := hs3.below hb4
        have HB4 : Hid _ := Below.on hb3 hb4
        clear hm3 hg3 hs3 hb3 hb4 kc
        cases R2 with
        | false =>
          have HFR : Hid (R = false) := by show _ = _; rw [HRE.out]; rfl
          go_wp2_with fail
          go_ret
          exact ⟨ret_bool HFR.out.symm, HB4.out⟩
        | true =>
          go_wp2_with fail
          go_roundg (load st')
          case measure => omega
          case rel =>
            exact ⟨p', n', c', st', env', E', N + 1, HS4.out.cell, by have := HS4.out.len; have := HN1.out; omega, HS4.out, HM4.out, HEN.out.1, HEN.out.2, fun z hz => HR.out.sok z (by simp [hz]), rfl, by omega, by have := HRE.out; simpa using this.symm, HB4.out⟩
      · have hty : ∀ W, (Instr.typeAssert (.iface u1 z1) 53 67 true).run Try.prog W = .ok (.tuple #[.int .i64 0, .bool false]) W := fun W => by
          rcases hnode with ⟨e, _⟩ | ⟨_, e⟩ | ⟨_, e⟩ | ⟨_, b, g, vs, e, _⟩
          · exact absurd e h0
          · cases e; exact noVar_num W _
          · cases e; exact noVar_atom W _
          · cases e; exact noVar_comp W _
        have H0 : Hid (y.1.1.1 ≠ 0) := h0
        have hal : Below w1.heap.size w1 (w1.alloc (.cells #[.iface u1 z1, .iface u2 z2] 91)).drew := ((Below.refl w1.heap.size w1).alloc (Nat.le_refl _) _).drew
        have HAL : Hid _ := hal
        have hstA := HS1.out.below hal
        have HBA : Hid (Below w.heap.size w (w1.alloc (.cells #[.iface u1 z1, .iface u2 z2] 91)).drew) := Below.on HB1.out hal
        have HO := open_any w 0 (w1.alloc (.cells #[.iface u1 z1, .iface u2 z2] 91)).drew (w.heap.size + 1) (w.heap.size + 1 + 1) 0 p' n' c' st' y _ _ hstA HBA.out (by omega) (by omega) (by have := HS1.out.len; have := HN1.out; omega) HF.out.1 HF.out.2 HOY.out.1 HOY.out.2.1
        have HRB : Hid (∀ j, Value.ownBlock (.slice p' n' c') = some j → w.heap.size + 1 ≤ j) := fun j e => by
          obtain ⟨_, hr, _⟩ := HS1.out.row
          exact (hr.lt j e).1
        clear hnode h0 hstA e' hal
        go_wp2_with fail
        refine wp_region_held (S := fun _ => True) (by kernel_rfl) ?_
        refine hTake (i := 0) (v := .bool false) (some 25) (by kernel_rfl) (by kernel_rfl) (by kernel_rfl) (by kernel_rfl) (by kernel_rfl) (fun _ _ _ h => h) (fun o ho W hSw => ?y0) trivial ?_
        case y0 =>
          cases ho
          simp [execOp, go_sem, Act.eval]
        simp only [Act.put, List.setIfInBounds_toArray, List.set_cons_zero, List.set_cons_succ]
        refine hTake (i := 1) (v := .bool false) (some 26) (by kernel_rfl) (by kernel_rfl) (by kernel_rfl) (by kernel_rfl) (by kernel_rfl) (fun _ _ _ h => h) (fun o ho W hSw => ?y1) trivial ?_
        case y1 =>
          cases ho
          simp [execOp, go_sem, Act.eval]
        simp only [Act.put, List.setIfInBounds_toArray, List.set_cons_zero, List.set_cons_succ]
        refine hSkip (i := 2) (some 27) (by kernel_rfl) (by kernel_rfl) (by kernel_rfl) (by kernel_rfl) (by kernel_rfl) (fun _ _ _ h => h) trivial ?_
        simp only [Act.put, List.setIfInBounds_toArray, List.set_cons_zero, List.set_cons_succ]
        refine hSkip (i := 3) (some 28) (by kernel_rfl) (by kernel_rfl) (by kernel_rfl) (by kernel_rfl) (by kernel_rfl) (fun _ _ _ h => h) trivial ?_
        simp only [Act.put, List.setIfInBounds_toArray, List.set_cons_zero, List.set_cons_succ]
        refine hSkip (i := 4) (some 29) (by kernel_rfl) (by kernel_rfl) (by kernel_rfl) (by kernel_rfl) (by kernel_rfl) (fun _ _ _ h => h) trivial ?_
        simp only [Act.put, List.setIfInBounds_toArray, List.set_cons_zero, List.set_cons_succ]
        refine hSkip (i := 5) (some 30) (by kernel_rfl) (by kernel_rfl) (by kernel_rfl) (by kernel_rfl) (by kernel_rfl) (fun _ _ _ h => h) trivial ?_
        simp only [Act.put, List.setIfInBounds_toArray, List.set_cons_zero, List.set_cons_succ]
        refine hSkip (i := 6) (some 31) (by kernel_rfl) (by kernel_rfl) (by kernel_rfl) (by kernel_rfl) (by kernel_rfl) (fun _ _ _ h => h) trivial ?_
        simp only [Act.put, List.setIfInBounds_toArray, List.set_cons_zero, List.set_cons_succ]
        refine hSkip (i := 7) (some 32) (by kernel_rfl) (by kernel_rfl) (by kernel_rfl) (by kernel_rfl) (by kernel_rfl) (fun _ _ _ h => h) trivial ?_
        simp only [Act.put, List.setIfInBounds_toArray, List.set_cons_zero, List.set_cons_succ]
        refine hSkip (i := 8) (some 33) (by kernel_rfl) (by kernel_rfl) (by kernel_rfl) (by kernel_rfl) (by kernel_rfl) (fun _ _ _ h => h) trivial ?_
        simp only [Act.put, List.setIfInBounds_toArray, List.set_cons_zero, List.set_cons_succ]
        refine hSkip (i := 9) (some 34) (by kernel_rfl) (by kernel_rfl) (by kernel_rfl) (by kernel_rfl) (by kernel_rfl) (fun _ _ _ h => h) trivial ?_
        simp only [Act.put, List.setIfInBounds_toArray, List.set_cons_zero, List.set_cons_succ]
        refine hSkip (i := 10) (some 35) (by kernel_rfl) (by kernel_rfl) (by kernel_rfl) (by kernel_rfl) (by kernel_rfl) (fun _ _ _ h => h) trivial ?_
        simp only [Act.put, List.setIfInBounds_toArray, List.set_cons_zero, List.set_cons_succ]
        refine hTake (i := 11) (v := .bool false) (some 36) (by kernel_rfl) (by kernel_rfl) (by kernel_rfl) (by kernel_rfl) (by kernel_rfl) (fun _ _ _ h => h) (fun o ho W hSw => ?y11) trivial ?_
        case y11 =>
          cases ho
          simp [execOp, go_sem, Act.eval]
        simp only [Act.put, List.setIfInBounds_toArray, List.set_cons_zero, List.set_cons_succ]
        refine wpAnyH_done (by kernel_rfl) ?_ _
        change Exit.then _ _ _ _ (w1.alloc (.cells #[.iface u1 z1, .iface u2 z2] 91)).drew
        by_cases hy : y.1.1 = y.2.1
        · have hd : decide (y.1.1 = y.2.1) = true := by simpa using hy
          unfold OpenOut at HO
          rw [hd] at HO
          have HLD : Hid (load (st' ++ opened y) < gk ∧ (subL env (st' ++ opened y).reverse).isSome = R ∧ stOk (st' ++ opened y) ∧ N + load (st' ++ opened y) ≤ 20000) := by
            have hlk := HR.out.loadk
            have hrm := HR.out.room
            rw [load_append] at hlk
            have := load_opened y
            have h1 : load (st' ++ opened y) < gk := by rw [load_append, ← hlk]; simp [load]; omega
            refine ⟨h1, ?_, ?_, by omega⟩
            · rw [List.reverse_append, subL_open _ H0.out hy (ok_count HOY.out.1 HOY.out.2.1 hy)]; exact HRES.out
            · intro z hz
              rcases List.mem_append.1 hz with hz | hz
              · exact HR.out.sok z (by simp [hz])
              · exact opened_small HOY.out.1 HOY.out.2.1 HOY.out.2.2 z hz
          clear hd hy
          go_wp2_with fail
          refine HO.mono ?_
          rintro e w2 ⟨rfl, ⟨p2, n2, c2, hs2, _⟩, hk2⟩
          have HS2 : Hid _ := hs2
          have HB2 : Hid (Below w.heap.size w w2) := HBA.out.trans (hk2.below (by omega) (fun k e => by have := HRB.out k e; omega) HBA.out.size)
          have HM2 : Hid (VMap w2 w.heap.size N E) := (HM1.out.below HAL.out).kept2 hk2 (by omega) (fun e => by have := HRB.out _ e.symm; omega)
          clear hk2 HO hs2
          go_wp2_with fail
          go_roundg (load (st' ++ opened y))
          case measure => exact HLD.out.1
          case rel =>
            have h4 := HLD.out.2.2.2
            exact ⟨p2, n2, c2, st' ++ opened y, env, E, N, HS2.out.cell, by have := HS2.out.len; have := len_load (st' ++ opened y); omega, HS2.out, HM2.out, HR.out.envin, HR.out.eok, HLD.out.2.2.1, rfl, h4, HLD.out.2.1, HB2.out⟩
        · have hd : decide (y.1.1 = y.2.1) = false := by simpa using hy
          unfold OpenOut at HO
          rw [hd] at HO
          have HFR : Hid (R = false) := by show _ = _; rw [← HRES.out, subL_no _ H0.out hy]; rfl
          clear hd hy
          go_wp2_with fail
          refine HO.mono ?_
          rintro e w2 ⟨rfl, _, hk2⟩
          have HB2 : Hid (Below w.heap.size w w2) := HBA.out.trans (hk2.below (by omega) (fun k e => by have := HRB.out k e; omega) HBA.out.size)
          clear hk2 HO
          go_wp2_with fail
          go_ret
          exact ⟨ret_bool HFR.out.symm, HB2.out⟩

end Go.Proofs.Ytjbckdmlogjggaa
