/- Texts of Draw1, Spo1, Spo2, Spo3, Spo5, Spo6, Spo7, Spo8, Draw2, LawOps. Own work of the verifier. -/
import Derived.Test.YtbfhpnacoigfkaaDoorFoB
import Derived.Test.YtbfhpnacoigfkaaDoorFoC
import Derived.Test.YtbfhpnacoigfkaaDoorDefI
import Derived.Test.YtbfhpnacoigfkaaDoorFoA
namespace Go.Proofs.YtbfhpnacoigfkaaDoor
open Go Go.RowKit
set_option linter.unusedVariables false

def nm2V : List Value := nm2U.map strV
def pri2V : List Value := pri2.map (fun x => .int .i64 x)
/-- The two literal rows of l4ops lie at A and A + 1. -/
structure Lit2 (w : World) (A : Nat) : Prop where
  name : ∀ i, i < 14 → w.cell? ⟨A, i, none⟩ = some (.string (bOf (nm2U.getD i [])))
  pri : ∀ i, i < 10 → w.cell? ⟨A + 1, i, none⟩ = some (.int .i64 (pri2.getD i 0))
theorem lit2_made (w : World) (t1 t2 : TypeId) : Lit2 ((w.alloc (.cells nm2V.toArray t1)).alloc (.cells pri2V.toArray t2)) w.heap.size := by
  have b2 : Below (w.heap.size + 1) (w.alloc (.cells nm2V.toArray t1)) ((w.alloc (.cells nm2V.toArray t1)).alloc (.cells pri2V.toArray t2)) := (Below.refl _ _).alloc (by simp) _
  refine ⟨fun i hi => ?_, fun i hi => ?_⟩
  · rw [b2.cell (p := ⟨w.heap.size, i, none⟩) (by simp), cell_lit w nm2V t1 i hi]
    simp only [nm2V, List.getElem_map, List.getD, List.getElem?_eq_getElem (show i < nm2U.length from hi)]; rfl
  · have h := cell_lit (w.alloc (.cells nm2V.toArray t1)) pri2V t2 i hi
    rw [World.size_alloc] at h
    rw [h]
    simp only [pri2V, List.getElem_map, List.getD, List.getElem?_eq_getElem (show i < pri2.length from hi)]; rfl
theorem Lit2.keep {w w' : World} {A R : Nat} (h : Lit2 w A) (k : Keep R (R + 1) w w') (hA : R < A) : Lit2 w' A :=
  ⟨fun i hi => k.cell (h.name i hi) (.inr hA), fun i hi => k.cell (h.pri i hi) (.inr (Nat.lt_succ_of_lt hA))⟩
theorem Lit2.below {w w' : World} {A : Nat} (h : Lit2 w A) (hb : Below w.heap.size w w') : Lit2 w' A :=
  ⟨fun i hi => (hb.cell (World.block_lt_of_cell? _ _ (h.name i hi))).trans (h.name i hi), fun i hi => (hb.cell (World.block_lt_of_cell? _ _ (h.pri i hi))).trans (h.pri i hi)⟩
theorem tab_small {cs : List Cel} (h : tabB cs = true) : cs.length ≤ 200 := (tab_chain h).1
theorem tl_small : ∀ (cs : List Cel), (∀ c ∈ cs, c.2.2.length ≤ 100) → tl cs ≤ 100 * cs.length
  | [], _ => by simp [tl]
  | c :: r, h => by
    have h1 := tl_small r (fun x hx => h x (List.mem_cons_of_mem _ hx))
    have h2 := h c (List.mem_cons_self ..)
    have h3 : tl (c :: r) = c.2.2.length + tl r := by simp [tl]
    rw [h3, List.length_cons]; omega
theorem tab_tl {cs : List Cel} (h : tabB cs = true) : cs.length + tl cs ≤ 10000000 := by
  obtain ⟨h1, h2, _⟩ := tab_chain h
  have := tl_small cs (fun c hc => okC_len (chain_ok cs none h2 c hc))
  omega
theorem comma_name (W : World) : OwnT (W.alloc (.cells #[.int .u8 44] 5 (1, 2))) W.heap.size (some ⟨W.heap.size, 0, none⟩) 1 1 [44] ∧ RoomT (W.alloc (.cells #[.int .u8 44] 5 (1, 2))) (some ⟨W.heap.size, 0, none⟩) 1 1 := by
  have hb := heap_alloc_new W (.cells #[.int .u8 44] 5 (1, 2))
  refine ⟨⟨rfl, fun _ => ⟨W.heap.size, rfl, Nat.le_refl _, by simp, fun i hi => ?_⟩⟩, fun _ => ⟨_, _, rfl, ⟨_, hb, .inr (by decide)⟩, rfl, Nat.le_refl _⟩⟩
  obtain rfl : i = 0 := by omega
  exact ⟨by unfold World.cell?; rw [hb]; rfl, by unfold World.frozen?; rw [hb]; rfl⟩

def TabOut (w : World) (R : Nat) (p : Option Addr) (c : Nat) (xs : List Int) (i : Nat) (e : Ending) (w' : World) : Prop :=
  ∃ q n cap, e = .returned (.slice q n cap) ∧ Keep R (R + 1) w w' ∧ RdIn w' R p c xs (opsF xs i).2 ∧ OwnP w' w.heap.size q n cap (opsF xs i).1

set_option maxRecDepth 100000 in
set_option maxHeartbeats 4000000 in
theorem l4ops_any (R c i : Nat) (p : Option Addr) (xs : List Int) (w : World) (h : RdIn w R p c xs i) :
    Calls Tryd.prog 25 #[.pointer (some ⟨R, 0, none⟩)] w (TabOut w R p c xs i) := by
  have HH : Hid (RdIn w R p c xs i) := h
  have HLT : Hid (R < w.heap.size) := h.lt
  clear h
  go_enter Tryd.func25, Tryd.ntmps25
  go_wp2_with fail
  refine (specDefP_any w).mono ?_
  rintro e w1 ⟨p1, n1, c1, rfl, hown1, hb1⟩
  have HO1 : Hid (OwnP w1 w.heap.size p1 n1 c1 dTab) := hown1
  have HB1 : Hid (Below w.heap.size w w1) := hb1
  have hn1 : n1 ≤ 200 := by rw [hown1.1]; exact tab_small tab_dTab
  have hnx := next_any R c i p xs w1 (HH.out.below hb1 HLT.out)
  have hr := rdI_rng HH.out.bytes i
  obtain ⟨x, ex⟩ : ∃ x : Nat, rdI xs i = x := ⟨(rdI xs i).toNat, by omega⟩
  rw [ex] at hnx hr
  have HX : Hid ((rdI xs i).toNat = x) := by show _ = _; rw [ex]; rfl
  clear hown1 hb1 ex
  go_wp2_with fail
  refine hnx.mono ?_
  rintro e w2 ⟨rfl, hk2, hs2, hR2⟩
  have HR2 : Hid (RdIn w2 R p c xs (rdN xs i)) := hR2
  have HK2 : Hid (Keep R (R + 1) w w2) := (Keep.of_below HB1.out).trans hk2
  have HO2 : Hid (OwnP w2 w.heap.size p1 n1 c1 dTab) := HO1.out.keep hk2 HLT.out
  have HXB : Hid ((x : Int) < 256) := hr.2
  clear hnx hk2 hs2 hR2 HO1 HB1 hr
  have hx6 : (x : Int).tmod 6 = ((x % 6 : Nat) : Int) := by rw [Int.tmod_eq_emod_of_nonneg (by omega)]; rfl
  obtain ⟨y, ey⟩ : ∃ y, y = x % 6 := ⟨_, rfl⟩
  rw [← ey] at hx6
  have HY : Hid (y = x % 6) := ey
  have hy : y < 6 := by omega
  clear ey
  by_cases h0 : y = 0
  · subst h0
    have kc := Lib.run_convert_bytes_const (P := Tryd.prog) w2 27 5 #[.int .u8 44] 1 1 Tryd.underlying27 Tryd.underlying5
    have hbm : Below w2.heap.size w2 (w2.alloc (.cells #[.int .u8 44] 5 (1, 2))) := (Below.refl _ _).alloc (Nat.le_refl _) _
    obtain ⟨hcm, hcr⟩ := comma_name w2
    have HLP := l3put_ownP none 0 0 w.heap.size [] 1000 1 (some ⟨w2.heap.size, 0, none⟩) 1 1 [44] w2 (w2.alloc (.cells #[.int .u8 44] 5 (1, 2))) (by omega) (OwnP.nil _ _) hbm hcm hcr HK2.out.size
    have HBM : Hid (Below w2.heap.size w2 (w2.alloc (.cells #[.int .u8 44] 5 (1, 2)))) := hbm
    clear hbm hcm hcr HO2 hn1
    go_wp2_with fail
    refine HLP.mono ?_
    rintro e w3 ⟨p3, n3, c3, rfl, ho3, hb3⟩
    have HB3 : Hid (Below w2.heap.size w2 w3) := Below.on HBM.out hb3
    have hn3 : n3 ≤ 200 := by rw [ho3.1]; exact tab_small tab_comma
    have HO3 : Hid (OwnP w3 w.heap.size p3 n3 c3 (putO [] (1000, 1, [44]))) := ho3
    have hR3 := HR2.out.below HB3.out HR2.out.lt
    have hnx3 := next_any R c (rdN xs i) p xs w3 hR3
    have hrz := rdI_rng hR3.bytes (rdN xs i)
    obtain ⟨z0, ez⟩ : ∃ z : Nat, rdI xs (rdN xs i) = z := ⟨(rdI xs (rdN xs i)).toNat, by omega⟩
    rw [ez] at hnx3
    have HZ : Hid ((rdI xs (rdN xs i)).toNat = z0) := by show _ = _; rw [ez]; rfl
    clear ho3 hb3 hR3 ez HLP kc
    go_wp2_with fail
    refine hnx3.mono ?_
    rintro e wz ⟨rfl, hk4, hs4, hR4⟩
    have HR4 : Hid (RdIn wz R p c xs (rdN xs (rdN xs i))) := hR4
    have HK4 : Hid (Keep R (R + 1) w wz) := (HK2.out.trans (Keep.of_below HB3.out)).trans hk4
    have HO4 : Hid (OwnP wz w.heap.size p3 n3 c3 (putO [] (1000, 1, [44]))) := HO3.out.keep hk4 HLT.out
    obtain ⟨z, ezz⟩ : ∃ z, z = z0 % 4 := ⟨_, rfl⟩
    have hz4 : (z0 : Int).tmod 4 = (z : Int) := by rw [ezz, Int.tmod_eq_emod_of_nonneg (by omega)]; rfl
    have hz : z < 4 := by omega
    have HF : Hid (opsF xs i = iterO xs z (putO [] (1000, 1, [44]), rdN xs (rdN xs i))) := by show _ = _; rw [opsF, HX.out, ← HY.out, if_pos rfl, HZ.out, ← ezz]
    clear hnx3 hk4 hs4 hR4 hrz ezz HO3 HR2 HK2 HX HY HZ HXB
    obtain ⟨wA, eA⟩ : ∃ wA, wA = (wz.alloc (.cells nm2V.toArray 9)).alloc (.cells pri2V.toArray 3) := ⟨_, rfl⟩
    have HD : Hid (Lit2 wA wz.heap.size) := by rw [eA]; exact lit2_made wz _ _
    have hbA : Below wz.heap.size wz wA := by rw [eA]; exact ((Below.refl _ _).alloc (Nat.le_refl _) _).alloc (by simp) _
    have HRA : Hid (RdIn wA R p c xs (rdN xs (rdN xs i))) := HR4.out.below hbA HR4.out.lt
    have HKA : Hid (Keep R (R + 1) w wA) := HK4.out.trans (Keep.of_below hbA)
    have HOA : Hid (OwnP wA w.heap.size p3 n3 c3 (putO [] (1000, 1, [44]))) := HO4.out.below hbA
    have HLA : Hid (R < wz.heap.size) := HR4.out.lt
    have HWB : Hid (w.heap.size ≤ wz.heap.size) := HK4.out.size
    clear hbA
    go_wp2_with fail
    have eA' : wA = (wz.alloc (Obj.cells #[.string ⟨#[64, 64]⟩, .string ⟨#[114]⟩, .string ⟨#[113]⟩, .string ⟨#[45]⟩, .string ⟨#[112]⟩, .string ⟨#[61]⟩, .string ⟨#[97]⟩, .string ⟨#[88, 32, 121]⟩, .string ⟨#[43]⟩, .string ⟨#[33]⟩, .string ⟨#[59]⟩, .string ⟨#[92, 43]⟩, .string ⟨#[102, 111, 111]⟩, .string ⟨#[46]⟩] 9)).alloc (Obj.cells #[.int .i64 700, .int .i64 200, .int .i64 900, .int .i64 500, .int .i64 1200, .int .i64 1, .int .i64 999, .int .i64 1000, .int .i64 0, .int .i64 700] 3) := by rw [eA]; rfl
    rw [← eA']
    clear eA eA'
    go_loopw [3, 7] (fun s j wr => ∃ (k n5 c5 pl : Nat) (p5 : Option Addr) (cs : List Cel), k ≤ z ∧ n5 ≤ 200 ∧ s = .slice p5 n5 c5 ∧ j = .int .i64 k ∧ Hid (iterO xs (z - k) (cs, pl) = opsF xs i) ∧ Hid (tabB cs = true) ∧ Hid (OwnP wr w.heap.size p5 n5 c5 cs) ∧ Hid (RdIn wr R p c xs pl) ∧ Hid (Keep R (R + 1) w wr) ∧ Hid (Lit2 wr wz.heap.size)) (fun _ j _ => z - (intOf j).toNat)
    case atStart => exact ⟨0, n3, c3, rdN xs (rdN xs i), p3, putO [] (1000, 1, [44]), Nat.zero_le _, hn3, rfl, rfl, HF.out.symm, tab_comma, HOA, HRA, HKA, HD⟩
    case round =>
      obtain ⟨k, n5, c5, pl, p5, cs, hk, hn5, rfl, rfl, HQ, HTB, HO, HR, HK, HL⟩ := hrel
      by_cases hlt : k < z
      · have hnx := next_any R c pl p xs wr HR.out
        have hra := rdI_rng HR.out.bytes pl
        obtain ⟨a, ea⟩ : ∃ a : Nat, rdI xs pl = a := ⟨(rdI xs pl).toNat, by omega⟩
        rw [ea] at hnx
        have HEA : Hid ((rdI xs pl).toNat = a) := by show _ = _; rw [ea]; rfl
        have ha : a < 256 := by omega
        have hlt' : (k : Int) < (z : Int) := by omega
        clear hra ea
        go_wp2_with fail
        refine hnx.mono ?_
        rintro e w3 ⟨rfl, hk3, hs3, hR3⟩
        obtain ⟨ja, eja⟩ : ∃ j, j = a % 14 := ⟨_, rfl⟩
        have hja : ja < 14 := by omega
        have hma : (a : Int).tmod 14 = (ja : Int) := by rw [eja, Int.tmod_eq_emod_of_nonneg (by omega)]; rfl
        have hL3 := HL.out.keep hk3 HLA.out
        have hcell := hL3.name ja hja
        obtain ⟨w4, cap, hcv, hb4, hot⟩ := conv_bytes w3 (numsU (nm2U.getD ja [])) (byte_numsU _) 9 Tryd.underlying9
        rw [strOf_numsU] at hcv
        have HO4 : Hid (OwnP w4 w.heap.size p5 n5 c5 cs) := (HO.out.keep hk3 HLT.out).below hb4
        have HK4 : Hid (Keep R (R + 1) w w4) := (HK.out.trans hk3).trans (Keep.of_below hb4)
        have HL4 : Hid (Lit2 w4 wz.heap.size) := hL3.below hb4
        have hR4 := hR3.below hb4 hR3.lt
        have hnx2 := next_any R c (rdN xs pl) p xs w4 hR4
        have hrv := rdI_rng hR4.bytes (rdN xs pl)
        obtain ⟨v, ev⟩ : ∃ v : Nat, rdI xs (rdN xs pl) = v := ⟨(rdI xs (rdN xs pl)).toNat, by omega⟩
        rw [ev] at hnx2
        have HEV : Hid ((rdI xs (rdN xs pl)).toNat = v) := by show _ = _; rw [ev]; rfl
        have hv : v < 256 := by omega
        have hlen : (numsU (nm2U.getD ja [])).length ≤ 100 := by
          have : ∀ j, j < 14 → (numsU (nm2U.getD j [])).length ≤ 100 := by decide
          exact this ja hja
        obtain ⟨ys, eys⟩ : ∃ ys, ys = numsU (nm2U.getD ja []) := ⟨_, rfl⟩
        obtain ⟨s, es⟩ : ∃ s, s = bOf (nm2U.getD ja []) := ⟨_, rfl⟩
        rw [← es] at hcv hcell
        rw [← eys] at hcv hlen hot
        have HYS : Hid (ys = numsU (nm2U.getD (a % 14) [])) := by show _ = _; rw [eys, eja]
        obtain ⟨g4, eg4⟩ : ∃ g, g = w3.heap.size := ⟨_, rfl⟩
        rw [← eg4] at hcv
        have HBI : Hid (BIn w4 (some ⟨g4, 0, none⟩) ys ∧ R < g4) := ⟨by rw [eg4]; exact hot.bin, by rw [eg4]; exact hR3.lt⟩
        obtain ⟨ly, ely⟩ : ∃ l, l = ys.length := ⟨_, rfl⟩
        rw [← ely] at hcv hlen
        have HLY : Hid (ly = ys.length) := ely
        clear hnx eja es eys eg4 ely hot hb4 hR4 hR3 hs3 hk3 hL3 hrv ev HL HK HR HO
        go_wp2_with fail
        refine hnx2.mono ?_
        rintro e w5 ⟨rfl, hk5, hs5, hR5⟩
        obtain ⟨jv, ejv⟩ : ∃ j, j = v % 10 := ⟨_, rfl⟩
        have hjv : jv < 10 := by omega
        have hmv : (v : Int).tmod 10 = (jv : Int) := by rw [ejv, Int.tmod_eq_emod_of_nonneg (by omega)]; rfl
        obtain ⟨jd, ejd⟩ : ∃ j, j = v / 10 := ⟨_, rfl⟩
        have hjd : jd < 26 := by omega
        have hmd : (v : Int).tdiv 10 = (jd : Int) := by rw [ejd, Int.tdiv_eq_ediv_of_nonneg (by omega)]; rfl
        obtain ⟨jt, ejt⟩ : ∃ j, j = jd % 7 := ⟨_, rfl⟩
        have hjt : jt < 7 := by omega
        have hmt : (jd : Int).tmod 7 = (jt : Int) := by rw [ejt, Int.tmod_eq_emod_of_nonneg (by omega)]; rfl
        have HL5 : Hid (Lit2 w5 wz.heap.size) := HL4.out.keep hk5 HLA.out
        have hpc := HL5.out.pri jv hjv
        have HO5 : Hid (OwnP w5 w.heap.size p5 n5 c5 cs) := HO4.out.keep hk5 HLT.out
        have HBI5 : BIn w5 (some ⟨g4, 0, none⟩) ys := fun hn0 => by
          obtain ⟨b, o, e, hc⟩ := HBI.out.1 hn0
          simp only [Option.some.injEq, Addr.mk.injEq, and_true] at e
          obtain ⟨rfl, rfl⟩ := e
          exact ⟨g4, 0, rfl, fun i hi => hk5.cell (hc i hi) (.inr HBI.out.2)⟩
        have HAD := specAddP_any p5 c5 cs (pri2.getD jv 0) (jt : Int) (some ⟨g4, 0, none⟩) cap ys w5 (tab_tl HTB.out) HO5.out.toO.oin (by have := HLY.out; omega) HBI5
        rw [← HO5.out.1, ← HLY.out] at HAD
        obtain ⟨pv, epv⟩ : ∃ x, x = pri2.getD jv 0 := ⟨_, rfl⟩
        rw [← epv] at hpc HAD
        have HST : Hid (stepO xs (cs, pl) = (if (addR cs pv jt ys).2 = 0 then (addR cs pv jt ys).1 else cs, rdN xs (rdN xs pl))) := by
          show _ = _
          unfold stepO
          simp only
          rw [HEA.out, HEV.out, ← HYS.out, ← ejv, ← ejd, ← ejt, ← epv]
        have HK5 : Hid (Keep R (R + 1) w w5) := HK4.out.trans hk5
        have HR5 : Hid (RdIn w5 R p c xs (rdN xs (rdN xs pl))) := hR5
        have HQ5 : Hid (iterO xs (z - (k + 1)) (stepO xs (cs, pl)) = opsF xs i) := by
          show _ = _
          rw [← HQ.out, show z - k = (z - (k + 1)) + 1 by omega]; rfl
        have HTS : Hid (tabB (stepO xs (cs, pl)).1 = true) := stepO_tab (s := (cs, pl)) HTB.out
        clear hnx2 ejv ejd ejt epv HBI5 hk5 hs5 hR5 HQ HEA HEV hcv hcell HL4 HK4 HO4
        go_wp2_with fail
        refine HAD.mono ?_
        rintro e w6 ⟨p6, n6, c6, rfl, hown6, hb6⟩
        have HO6 : Hid (OwnP w6 w.heap.size p6 n6 c6 (addR cs pv jt ys).1) := hown6.mono HK5.out.size
        have HOO : Hid (OwnP w6 w.heap.size p5 n5 c5 cs) := HO5.out.below hb6
        have HK6 : Hid (Keep R (R + 1) w w6) := HK5.out.trans (Keep.of_below hb6)
        have HR6 : Hid (RdIn w6 R p c xs (rdN xs (rdN xs pl))) := HR5.out.below hb6 HR5.out.lt
        have HL6 : Hid (Lit2 w6 wz.heap.size) := HL5.out.below hb6
        obtain ⟨cd, ecd⟩ : ∃ cd, cd = (addR cs pv jt ys).2 := ⟨_, rfl⟩
        rw [← ecd]
        by_cases hc0 : cd = 0
        · have hst : stepO xs (cs, pl) = ((addR cs pv jt ys).1, rdN xs (rdN xs pl)) := by rw [HST.out, if_pos (by rw [← ecd]; exact hc0)]
          rw [hst] at HQ5 HTS
          have hn6 : n6 ≤ 200 := by rw [hown6.1]; exact tab_small HTS.out
          subst hc0
          clear hst HST hown6 hb6 HAD ecd hpc
          go_wp2_with fail
          go_roundw
          case rel => exact ⟨k + 1, n6, c6, _, p6, _, by omega, hn6, rfl, by go_num, HQ5, HTS, HO6, HR6, HK6, HL6⟩
          case measure => simp [intOf]; omega
        · have hst : stepO xs (cs, pl) = (cs, rdN xs (rdN xs pl)) := by rw [HST.out, if_neg (by rw [← ecd]; exact hc0)]
          rw [hst] at HQ5 HTS
          have hc0' : (cd == 0) = false := by simpa using hc0
          clear hst HST hown6 hb6 HAD ecd hpc
          go_wp2_with fail
          go_roundw
          case rel => exact ⟨k + 1, n5, c5, _, p5, _, by omega, hn5, rfl, by go_num, HQ5, HTS, HOO, HR6, HK6, HL6⟩
          case measure => simp [intOf]; omega
      · obtain rfl : k = z := by omega
        have hq := HQ.out
        rw [Nat.sub_self] at hq
        have HFI : Hid (TabOut w R p c xs i (.returned (.slice p5 n5 c5)) wr) := ⟨p5, n5, c5, rfl, HK.out, by rw [← hq]; exact HR.out, by rw [← hq]; exact HO.out⟩
        clear hq
        go_wp2_with fail
        go_ret
        exact HFI.out
  · have HF : Hid (opsF xs i = iterO xs y (dTab, rdN xs i)) := by show _ = _; rw [opsF, HX.out, ← HY.out, if_neg h0]
    have h0' : ((y : Int) == 0) = false := by simpa using h0
    obtain ⟨wA, eA⟩ : ∃ wA, wA = (w2.alloc (.cells nm2V.toArray 9)).alloc (.cells pri2V.toArray 3) := ⟨_, rfl⟩
    have HD : Hid (Lit2 wA w2.heap.size) := by rw [eA]; exact lit2_made w2 _ _
    have hbA : Below w2.heap.size w2 wA := by rw [eA]; exact ((Below.refl _ _).alloc (Nat.le_refl _) _).alloc (by simp) _
    have HRA : Hid (RdIn wA R p c xs (rdN xs i)) := HR2.out.below hbA HR2.out.lt
    have HKA : Hid (Keep R (R + 1) w wA) := HK2.out.trans (Keep.of_below hbA)
    have HOA : Hid (OwnP wA w.heap.size p1 n1 c1 (dTab)) := HO2.out.below hbA
    have HLA : Hid (R < w2.heap.size) := HR2.out.lt
    have HWB : Hid (w.heap.size ≤ w2.heap.size) := HK2.out.size
    clear hbA
    go_wp2_with fail
    have eA' : wA = (w2.alloc (Obj.cells #[.string ⟨#[64, 64]⟩, .string ⟨#[114]⟩, .string ⟨#[113]⟩, .string ⟨#[45]⟩, .string ⟨#[112]⟩, .string ⟨#[61]⟩, .string ⟨#[97]⟩, .string ⟨#[88, 32, 121]⟩, .string ⟨#[43]⟩, .string ⟨#[33]⟩, .string ⟨#[59]⟩, .string ⟨#[92, 43]⟩, .string ⟨#[102, 111, 111]⟩, .string ⟨#[46]⟩] 9)).alloc (Obj.cells #[.int .i64 700, .int .i64 200, .int .i64 900, .int .i64 500, .int .i64 1200, .int .i64 1, .int .i64 999, .int .i64 1000, .int .i64 0, .int .i64 700] 3) := by rw [eA]; rfl
    rw [← eA']
    clear eA eA'
    go_loopw [3, 7] (fun s j wr => ∃ (k n5 c5 pl : Nat) (p5 : Option Addr) (cs : List Cel), k ≤ y ∧ n5 ≤ 200 ∧ s = .slice p5 n5 c5 ∧ j = .int .i64 k ∧ Hid (iterO xs (y - k) (cs, pl) = opsF xs i) ∧ Hid (tabB cs = true) ∧ Hid (OwnP wr w.heap.size p5 n5 c5 cs) ∧ Hid (RdIn wr R p c xs pl) ∧ Hid (Keep R (R + 1) w wr) ∧ Hid (Lit2 wr w2.heap.size)) (fun _ j _ => y - (intOf j).toNat)
    case atStart => exact ⟨0, n1, c1, rdN xs i, p1, dTab, Nat.zero_le _, hn1, rfl, rfl, HF.out.symm, tab_dTab, HOA, HRA, HKA, HD⟩
    case round =>
      obtain ⟨k, n5, c5, pl, p5, cs, hk, hn5, rfl, rfl, HQ, HTB, HO, HR, HK, HL⟩ := hrel
      by_cases hlt : k < y
      · have hnx := next_any R c pl p xs wr HR.out
        have hra := rdI_rng HR.out.bytes pl
        obtain ⟨a, ea⟩ : ∃ a : Nat, rdI xs pl = a := ⟨(rdI xs pl).toNat, by omega⟩
        rw [ea] at hnx
        have HEA : Hid ((rdI xs pl).toNat = a) := by show _ = _; rw [ea]; rfl
        have ha : a < 256 := by omega
        have hlt' : (k : Int) < (y : Int) := by omega
        clear hra ea
        go_wp2_with fail
        refine hnx.mono ?_
        rintro e w3 ⟨rfl, hk3, hs3, hR3⟩
        obtain ⟨ja, eja⟩ : ∃ j, j = a % 14 := ⟨_, rfl⟩
        have hja : ja < 14 := by omega
        have hma : (a : Int).tmod 14 = (ja : Int) := by rw [eja, Int.tmod_eq_emod_of_nonneg (by omega)]; rfl
        have hL3 := HL.out.keep hk3 HLA.out
        have hcell := hL3.name ja hja
        obtain ⟨w4, cap, hcv, hb4, hot⟩ := conv_bytes w3 (numsU (nm2U.getD ja [])) (byte_numsU _) 9 Tryd.underlying9
        rw [strOf_numsU] at hcv
        have HO4 : Hid (OwnP w4 w.heap.size p5 n5 c5 cs) := (HO.out.keep hk3 HLT.out).below hb4
        have HK4 : Hid (Keep R (R + 1) w w4) := (HK.out.trans hk3).trans (Keep.of_below hb4)
        have HL4 : Hid (Lit2 w4 w2.heap.size) := hL3.below hb4
        have hR4 := hR3.below hb4 hR3.lt
        have hnx2 := next_any R c (rdN xs pl) p xs w4 hR4
        have hrv := rdI_rng hR4.bytes (rdN xs pl)
        obtain ⟨v, ev⟩ : ∃ v : Nat, rdI xs (rdN xs pl) = v := ⟨(rdI xs (rdN xs pl)).toNat, by omega⟩
        rw [ev] at hnx2
        have HEV : Hid ((rdI xs (rdN xs pl)).toNat = v) := by show _ = _; rw [ev]; rfl
        have hv : v < 256 := by omega
        have hlen : (numsU (nm2U.getD ja [])).length ≤ 100 := by
          have : ∀ j, j < 14 → (numsU (nm2U.getD j [])).length ≤ 100 := by decide
          exact this ja hja
        obtain ⟨ys, eys⟩ : ∃ ys, ys = numsU (nm2U.getD ja []) := ⟨_, rfl⟩
        obtain ⟨s, es⟩ : ∃ s, s = bOf (nm2U.getD ja []) := ⟨_, rfl⟩
        rw [← es] at hcv hcell
        rw [← eys] at hcv hlen hot
        have HYS : Hid (ys = numsU (nm2U.getD (a % 14) [])) := by show _ = _; rw [eys, eja]
        obtain ⟨g4, eg4⟩ : ∃ g, g = w3.heap.size := ⟨_, rfl⟩
        rw [← eg4] at hcv
        have HBI : Hid (BIn w4 (some ⟨g4, 0, none⟩) ys ∧ R < g4) := ⟨by rw [eg4]; exact hot.bin, by rw [eg4]; exact hR3.lt⟩
        obtain ⟨ly, ely⟩ : ∃ l, l = ys.length := ⟨_, rfl⟩
        rw [← ely] at hcv hlen
        have HLY : Hid (ly = ys.length) := ely
        clear hnx eja es eys eg4 ely hot hb4 hR4 hR3 hs3 hk3 hL3 hrv ev HL HK HR HO
        go_wp2_with fail
        refine hnx2.mono ?_
        rintro e w5 ⟨rfl, hk5, hs5, hR5⟩
        obtain ⟨jv, ejv⟩ : ∃ j, j = v % 10 := ⟨_, rfl⟩
        have hjv : jv < 10 := by omega
        have hmv : (v : Int).tmod 10 = (jv : Int) := by rw [ejv, Int.tmod_eq_emod_of_nonneg (by omega)]; rfl
        obtain ⟨jd, ejd⟩ : ∃ j, j = v / 10 := ⟨_, rfl⟩
        have hjd : jd < 26 := by omega
        have hmd : (v : Int).tdiv 10 = (jd : Int) := by rw [ejd, Int.tdiv_eq_ediv_of_nonneg (by omega)]; rfl
        obtain ⟨jt, ejt⟩ : ∃ j, j = jd % 7 := ⟨_, rfl⟩
        have hjt : jt < 7 := by omega
        have hmt : (jd : Int).tmod 7 = (jt : Int) := by rw [ejt, Int.tmod_eq_emod_of_nonneg (by omega)]; rfl
        have HL5 : Hid (Lit2 w5 w2.heap.size) := HL4.out.keep hk5 HLA.out
        have hpc := HL5.out.pri jv hjv
        have HO5 : Hid (OwnP w5 w.heap.size p5 n5 c5 cs) := HO4.out.keep hk5 HLT.out
        have HBI5 : BIn w5 (some ⟨g4, 0, none⟩) ys := fun hn0 => by
          obtain ⟨b, o, e, hc⟩ := HBI.out.1 hn0
          simp only [Option.some.injEq, Addr.mk.injEq, and_true] at e
          obtain ⟨rfl, rfl⟩ := e
          exact ⟨g4, 0, rfl, fun i hi => hk5.cell (hc i hi) (.inr HBI.out.2)⟩
        have HAD := specAddP_any p5 c5 cs (pri2.getD jv 0) (jt : Int) (some ⟨g4, 0, none⟩) cap ys w5 (tab_tl HTB.out) HO5.out.toO.oin (by have := HLY.out; omega) HBI5
        rw [← HO5.out.1, ← HLY.out] at HAD
        obtain ⟨pv, epv⟩ : ∃ x, x = pri2.getD jv 0 := ⟨_, rfl⟩
        rw [← epv] at hpc HAD
        have HST : Hid (stepO xs (cs, pl) = (if (addR cs pv jt ys).2 = 0 then (addR cs pv jt ys).1 else cs, rdN xs (rdN xs pl))) := by
          show _ = _
          unfold stepO
          simp only
          rw [HEA.out, HEV.out, ← HYS.out, ← ejv, ← ejd, ← ejt, ← epv]
        have HK5 : Hid (Keep R (R + 1) w w5) := HK4.out.trans hk5
        have HR5 : Hid (RdIn w5 R p c xs (rdN xs (rdN xs pl))) := hR5
        have HQ5 : Hid (iterO xs (y - (k + 1)) (stepO xs (cs, pl)) = opsF xs i) := by
          show _ = _
          rw [← HQ.out, show y - k = (y - (k + 1)) + 1 by omega]; rfl
        have HTS : Hid (tabB (stepO xs (cs, pl)).1 = true) := stepO_tab (s := (cs, pl)) HTB.out
        clear hnx2 ejv ejd ejt epv HBI5 hk5 hs5 hR5 HQ HEA HEV hcv hcell HL4 HK4 HO4
        go_wp2_with fail
        refine HAD.mono ?_
        rintro e w6 ⟨p6, n6, c6, rfl, hown6, hb6⟩
        have HO6 : Hid (OwnP w6 w.heap.size p6 n6 c6 (addR cs pv jt ys).1) := hown6.mono HK5.out.size
        have HOO : Hid (OwnP w6 w.heap.size p5 n5 c5 cs) := HO5.out.below hb6
        have HK6 : Hid (Keep R (R + 1) w w6) := HK5.out.trans (Keep.of_below hb6)
        have HR6 : Hid (RdIn w6 R p c xs (rdN xs (rdN xs pl))) := HR5.out.below hb6 HR5.out.lt
        have HL6 : Hid (Lit2 w6 w2.heap.size) := HL5.out.below hb6
        obtain ⟨cd, ecd⟩ : ∃ cd, cd = (addR cs pv jt ys).2 := ⟨_, rfl⟩
        rw [← ecd]
        by_cases hc0 : cd = 0
        · have hst : stepO xs (cs, pl) = ((addR cs pv jt ys).1, rdN xs (rdN xs pl)) := by rw [HST.out, if_pos (by rw [← ecd]; exact hc0)]
          rw [hst] at HQ5 HTS
          have hn6 : n6 ≤ 200 := by rw [hown6.1]; exact tab_small HTS.out
          subst hc0
          clear hst HST hown6 hb6 HAD ecd hpc
          go_wp2_with fail
          go_roundw
          case rel => exact ⟨k + 1, n6, c6, _, p6, _, by omega, hn6, rfl, by go_num, HQ5, HTS, HO6, HR6, HK6, HL6⟩
          case measure => simp [intOf]; omega
        · have hst : stepO xs (cs, pl) = (cs, rdN xs (rdN xs pl)) := by rw [HST.out, if_neg (by rw [← ecd]; exact hc0)]
          rw [hst] at HQ5 HTS
          have hc0' : (cd == 0) = false := by simpa using hc0
          clear hst HST hown6 hb6 HAD ecd hpc
          go_wp2_with fail
          go_roundw
          case rel => exact ⟨k + 1, n5, c5, _, p5, _, by omega, hn5, rfl, by go_num, HQ5, HTS, HOO, HR6, HK6, HL6⟩
          case measure => simp [intOf]; omega
      · obtain rfl : k = y := by omega
        have hq := HQ.out
        rw [Nat.sub_self] at hq
        have HFI : Hid (TabOut w R p c xs i (.returned (.slice p5 n5 c5)) wr) := ⟨p5, n5, c5, rfl, HK.out, by rw [← hq]; exact HR.out, by rw [← hq]; exact HO.out⟩
        clear hq
        go_wp2_with fail
        go_ret
        exact HFI.out

end Go.Proofs.YtbfhpnacoigfkaaDoor

namespace Go.Proofs.YtbfhpnacoigfkaaDoor
open Go Go.RowKit
set_option linter.unusedVariables false

def newOp (n : Nat) : Cel := (700, 0, [122, 122, 65 + (n / 26 : Nat), 65 + (n % 26 : Nat)])
def growF (xs : List Int) : Nat → List Cel → Nat → List Cel × Nat
  | 0, cs, j => (cs, j)
  | f + 1, cs, j => if cs.length < 200 + (rdI xs j).toNat % 2 then growF xs f (cs ++ [newOp cs.length]) (rdN xs j) else (cs, rdN xs j)
/-- The table that l4spoilOps makes, and the reader's place behind it. -/
def spoilF (xs : List Int) (cs : List Cel) (i : Nat) : List Cel × Nat :=
  let k := (rdI xs i).toNat % 8
  let m := (rdI xs (rdN xs i)).toNat % cs.length
  let j := rdN xs (rdN xs i)
  let c := cs.getD m Cel.none
  if k = 0 then (cs.set m (rdI xs j * 8, c.2.1, c.2.2), rdN xs j)
  else if k = 1 then (cs.set m (c.1, ((rdI xs j).toNat % 9 : Nat) - 1, c.2.2), rdN xs j)
  else if k = 2 then (cs.set m (c.1, c.2.1, [124]), j)
  else if k = 3 then (cs.set m (c.1, c.2.1, []), j)
  else if k = 4 then (cs ++ [c], j)
  else if k = 5 then (cs.take m ++ cs.drop (m + 1), j)
  else if k = 6 then (cs.set m (c.1, c.2.1, c.2.2 ++ [122]), j)
  else growF xs (202 - cs.length) cs j

/-- A text that lies neither in block R nor in block g. -/
def BFar (R g : Nat) (w : World) (q : Option Addr) (ys : List Int) : Prop :=
  0 < ys.length → ∃ b o, q = some ⟨b, o, none⟩ ∧ b ≠ R ∧ b ≠ g ∧ ∀ i, i < ys.length → w.cell? ⟨b, o + i, none⟩ = some (.int .u8 (ys.getD i 0))
def OOne (R g : Nat) (w : World) (i : Nat) (c : Cel) : Prop :=
  ∃ q cap, w.cell? ⟨g, i * 3 + 1, none⟩ = some (.int .i64 c.1) ∧ w.cell? ⟨g, i * 3 + 2, none⟩ = some (.int .i64 c.2.1) ∧ w.cell? ⟨g, i * 3, none⟩ = some (.slice q c.2.2.length cap) ∧ BFar R g w q c.2.2
/-- Operators from the head of block g on, their names elsewhere, none in block R. -/
def OFar (R g : Nat) (w : World) (cs : List Cel) : Prop := ∀ i, i < cs.length → OOne R g w i (cs.getD i Cel.none)
def OStay (R : Nat) (w : World) (p : Option Addr) (cs : List Cel) : Prop := ∀ w', Keep R (R + 1) w w' → OIn w' p cs
theorem BFar.bin {R g : Nat} {w : World} {q : Option Addr} {ys : List Int} (h : BFar R g w q ys) : BIn w q ys := fun hn => by
  obtain ⟨b, o, e, _, _, hc⟩ := h hn
  exact ⟨b, o, e, hc⟩
theorem keep_cell {R : Nat} {w w' : World} (k : Keep R (R + 1) w w') {a : Addr} {v : Value} (h : w.cell? a = some v) (ha : a.block ≠ R) : w'.cell? a = some v := k.cell h (by omega)
theorem BFar.keep {R g : Nat} {w w' : World} {q : Option Addr} {ys : List Int} (h : BFar R g w q ys) (k : Keep R (R + 1) w w') : BFar R g w' q ys := fun hn => by
  obtain ⟨b, o, e, h1, h2, hc⟩ := h hn
  exact ⟨b, o, e, h1, h2, fun i hi => keep_cell k (hc i hi) h1⟩
theorem OFar.keep {R g : Nat} {w w' : World} {cs : List Cel} (h : OFar R g w cs) (k : Keep R (R + 1) w w') (hg : g ≠ R) : OFar R g w' cs := fun i hi => by
  obtain ⟨q, cap, h0, h1, h2, h3⟩ := h i hi
  exact ⟨q, cap, keep_cell k h0 hg, keep_cell k h1 hg, keep_cell k h2 hg, h3.keep k⟩
theorem OFar.oin {R g : Nat} {w : World} {cs : List Cel} (h : OFar R g w cs) : OIn w (some ⟨g, 0, none⟩) cs := fun _ => ⟨g, 0, rfl, fun i hi => by
  obtain ⟨q, cap, h0, h1, h2, h3⟩ := h i hi
  rw [Nat.zero_add]
  exact ⟨q, cap, h0, h1, h2, h3.bin⟩⟩
theorem OFar.stay {R g : Nat} {w : World} {cs : List Cel} (h : OFar R g w cs) (hg : g ≠ R) : OStay R w (some ⟨g, 0, none⟩) cs := fun w' k => (h.keep k hg).oin
theorem OwnP.stay {R B : Nat} {w : World} {p : Option Addr} {n c : Nat} {cs : List Cel} (h : OwnP w B p n c cs) (hR : R < B) : OStay R w p cs := fun w' k => (h.keep k hR).toO.oin
theorem OStay.keep {R : Nat} {w w' : World} {p : Option Addr} {cs : List Cel} (h : OStay R w p cs) (k : Keep R (R + 1) w w') : OStay R w' p cs := fun w2 k2 => h w2 (k.trans k2)
theorem OStay.below {R : Nat} {w w' : World} {p : Option Addr} {cs : List Cel} (h : OStay R w p cs) (k : Below w.heap.size w w') : OStay R w' p cs := h.keep (Keep.of_below k)
/-- Cells of a block that is not written. -/
theorem BFar.set {R g : Nat} {w : World} {q : Option Addr} {ys : List Int} (h : BFar R g w q ys) (j : Nat) (u : Value) : BFar R g (w.setCell ⟨g, j, none⟩ u) q ys := fun hn => by
  obtain ⟨b, o, e, h1, h2, hc⟩ := h hn
  exact ⟨b, o, e, h1, h2, fun i hi => (World.cell?_of_block (w := w) (a := ⟨b, o + i, none⟩) (Below.heap_setCell _ _ _ _ (fun e' => h2 e'))).trans (hc i hi)⟩
theorem set_other {w : World} {g j k : Nat} {u : Value} (h : j ≠ k) : (w.setCell ⟨g, j, none⟩ u).cell? ⟨g, k, none⟩ = w.cell? ⟨g, k, none⟩ := by
  refine World.cell?_setCell_other _ _ _ _ (fun e => h ?_)
  exact congrArg Addr.off e
theorem set_same {w : World} {g j : Nat} {u v : Value} (h : w.cell? ⟨g, j, none⟩ = some v) : (w.setCell ⟨g, j, none⟩ u).cell? ⟨g, j, none⟩ = some u := World.cell?_setCell_same _ _ _ h
/-- One cell of the row is written. -/
theorem OFar.put {R g m f : Nat} {w : World} {cs : List Cel} {c : Cel} {u : Value} (h : OFar R g w cs) (hm : m < cs.length) (hf : f < 3) (hc : OOne R g (w.setCell ⟨g, m * 3 + f, none⟩ u) m c) : OFar R g (w.setCell ⟨g, m * 3 + f, none⟩ u) (cs.set m c) := fun i hi => by
  rw [List.length_set] at hi
  rw [cs_set_at _ _ _ _ hm]
  by_cases e : i = m
  · subst e; rw [if_pos rfl]; exact hc
  · rw [if_neg e]
    obtain ⟨q, cap, h0, h1, h2, h3⟩ := h i hi
    exact ⟨q, cap, (set_other (by omega)).trans h0, (set_other (by omega)).trans h1, (set_other (by omega)).trans h2, h3.set _ _⟩
theorem OFar.put1 {R g m : Nat} {w : World} {cs : List Cel} (h : OFar R g w cs) (hm : m < cs.length) (v : Int) : OFar R g (w.setCell ⟨g, m * 3 + 1, none⟩ (.int .i64 v)) (cs.set m (v, (cs.getD m Cel.none).2.1, (cs.getD m Cel.none).2.2)) := by
  refine h.put hm (by omega) ?_
  obtain ⟨q, cap, h0, h1, h2, h3⟩ := h m hm
  exact ⟨q, cap, set_same h0, (set_other (by omega)).trans h1, (set_other (by omega)).trans h2, h3.set _ _⟩
theorem OFar.put2 {R g m : Nat} {w : World} {cs : List Cel} (h : OFar R g w cs) (hm : m < cs.length) (v : Int) : OFar R g (w.setCell ⟨g, m * 3 + 2, none⟩ (.int .i64 v)) (cs.set m ((cs.getD m Cel.none).1, v, (cs.getD m Cel.none).2.2)) := by
  refine h.put hm (by omega) ?_
  obtain ⟨q, cap, h0, h1, h2, h3⟩ := h m hm
  exact ⟨q, cap, (set_other (by omega)).trans h0, set_same h1, (set_other (by omega)).trans h2, h3.set _ _⟩
theorem OFar.put0 {R g m : Nat} {w : World} {cs : List Cel} (h : OFar R g w cs) (hm : m < cs.length) (q : Option Addr) (l cap : Nat) (ys : List Int) (hl : l = ys.length) (hy : BFar R g w q ys) : OFar R g (w.setCell ⟨g, m * 3, none⟩ (.slice q l cap)) (cs.set m ((cs.getD m Cel.none).1, (cs.getD m Cel.none).2.1, ys)) := by
  refine h.put (f := 0) hm (by omega) ?_
  obtain ⟨q', cap', h0, h1, h2, h3⟩ := h m hm
  subst hl
  exact ⟨q, cap, (set_other (by omega)).trans h0, (set_other (by omega)).trans h1, set_same h2, hy.set _ _⟩
/-- What a call owns lies so. -/
theorem OwnP.far {R B g : Nat} {w : World} {n c : Nat} {cs : List Cel} (h : OwnP w B (some ⟨g, 0, none⟩) n c cs) (hR : R < B) : OFar R g w cs := fun i hi => by
  obtain ⟨rfl, rs, hl, hr, hf, ha, _⟩ := h
  obtain ⟨f0, f1, f2⟩ := hf i hi
  obtain ⟨a0, a1, a2⟩ := flatO_at rs i (by omega)
  refine ⟨(rs.getD i RC.zero).2.2.1, (rs.getD i RC.zero).2.2.2.2, ?_, ?_, ?_, fun hn => ?_⟩
  · rw [hr.cellAt _ (by omega), a0, f0]
  · rw [hr.cellAt _ (by omega), a1, f1]
  · rw [hr.cellAt _ (by omega), a2, f2.len]
  · have hn' : 0 < (rs.getD i RC.zero).2.2.2.1 := by rw [f2.len]; exact hn
    obtain ⟨b, e, h1, h2, h3⟩ := f2.2 hn'
    refine ⟨b, 0, e, by omega, fun e' => ha.1 i (by omega) hn' (by rw [e, e']), fun j hj => ?_⟩
    rw [Nat.zero_add]
    exact (h3 j (by rw [f2.len]; exact hj)).1
theorem OwnP.head {B : Nat} {w : World} {p : Option Addr} {n c : Nat} {cs : List Cel} (h : OwnP w B p n c cs) (hn : 0 < cs.length) : ∃ g, p = some ⟨g, 0, none⟩ ∧ B ≤ g ∧ g < w.heap.size := by
  obtain ⟨rfl, rs, hl, hr, _⟩ := h
  obtain ⟨g, cap, hv, hb, hg⟩ := hr.form hn
  simp only [Value.slice.injEq, true_and] at hv
  exact ⟨g, hv.1, hb, hg⟩
theorem OwnP.soft {B g : Nat} {w : World} {n c : Nat} {cs : List Cel} (h : OwnP w B (some ⟨g, 0, none⟩) n c cs) (j : Nat) : w.frozen? ⟨g, j, none⟩ = false := by
  obtain ⟨_, rs, _, hr, _⟩ := h
  exact hr.frozenAt j

end Go.Proofs.YtbfhpnacoigfkaaDoor

namespace Go.Proofs.YtbfhpnacoigfkaaDoor
open Go Go.RowKit
set_option linter.unusedVariables false

def SpoilOut (w : World) (R : Nat) (p : Option Addr) (c : Nat) (xs : List Int) (r : List Cel × Nat) (e : Ending) (w' : World) : Prop :=
  ∃ q n cap, e = .returned (.slice q n cap) ∧ n = r.1.length ∧ OStay R w' q r.1 ∧ RdIn w' R p c xs r.2 ∧ Below R w w'
theorem below_set (w : World) (g j : Nat) (u : Value) : Below g w (w.setCell ⟨g, j, none⟩ u) := ⟨rfl, rfl, rfl, by simp, fun k hk => Below.heap_setCell _ _ _ _ (by show k ≠ g; omega)⟩
theorem tmod_nat (a b : Nat) : (a : Int).tmod (b : Int) = ((a % b : Nat) : Int) := by rw [Int.tmod_eq_emod_of_nonneg (by omega)]; rfl
/-- What the reader gives, as a number. -/
theorem next_nat (R c i : Nat) (p : Option Addr) (xs : List Int) (w : World) (h : RdIn w R p c xs i) :
    ∃ x : Nat, (rdI xs i).toNat = x ∧ rdI xs i = (x : Int) ∧ x < 256 ∧ Calls Tryd.prog 24 #[.pointer (some ⟨R, 0, none⟩)] w fun e w' => e = .returned (.int .i64 (x : Int)) ∧ Keep R (R + 1) w w' ∧ w'.heap.size = w.heap.size ∧ RdIn w' R p c xs (rdN xs i) := by
  have hr := rdI_rng h.bytes i
  refine ⟨(rdI xs i).toNat, rfl, by omega, by omega, ?_⟩
  have := next_any R c i p xs w h
  rwa [show rdI xs i = ((rdI xs i).toNat : Int) by omega] at this

set_option maxRecDepth 100000 in
set_option maxHeartbeats 4000000 in
theorem spoil0_any (R c i B : Nat) (p : Option Addr) (xs : List Int) (q : Option Addr) (n cap : Nat) (cs : List Cel) (w : World) (h : RdIn w R p c xs i) (hown : OwnP w B q n cap cs) (hR : R < B) (h0 : 0 < cs.length) (h2 : cs.length ≤ 200) (hk : (rdI xs i).toNat % 8 = 0) :
    Calls Tryd.prog 26 #[.slice q n cap, .pointer (some ⟨R, 0, none⟩)] w (SpoilOut w R p c xs (spoilF xs cs i)) := by
  obtain ⟨g, rfl, hgB, hgl⟩ := hown.head h0
  have HN : Hid (n = cs.length) := hown.1
  have HRB : Hid (R < B ∧ B ≤ g) := ⟨hR, hgB⟩
  obtain ⟨x, ex, ex', hx, hnx⟩ := next_nat R c i p xs w h
  rw [ex] at hk
  have hx8 : (x : Int).tmod 8 = 0 := by have h9 := tmod_nat x 8; rw [hk] at h9; exact h9
  have HX : Hid ((rdI xs i).toNat % 8 = 0) := by show _ = _; rw [ex]; exact hk
  have HO : Hid (OwnP w B (some ⟨g, 0, none⟩) n cap cs) := hown
  have hn0 : 0 < n := by rw [hown.1]; exact h0
  have hn2 : n ≤ 200 := by rw [hown.1]; exact h2
  have HHL : Hid (R < w.heap.size) := h.lt
  clear ex ex' hk hown hgB h0 h2 h hR
  go_enter Tryd.func26, Tryd.ntmps26
  go_wp2_with fail
  refine hnx.mono ?_
  rintro e w1 ⟨rfl, hk1, hs1, hR1⟩
  have HO1 : Hid (OwnP w1 B (some ⟨g, 0, none⟩) n cap cs) := HO.out.keep hk1 HRB.out.1
  have HB1 : Hid (Below R w w1) := hk1.below (Nat.le_refl _) (Nat.le_of_lt HHL.out)
  obtain ⟨y, ey, ey', hy, hny⟩ := next_nat R c (rdN xs i) p xs w1 hR1
  obtain ⟨m, em⟩ : ∃ m, m = y % n := ⟨_, rfl⟩
  have hm : m < n := by rw [em]; exact Nat.mod_lt _ hn0
  have hym : (y : Int).tmod (n : Int) = (m : Int) := by rw [em]; exact tmod_nat y n
  have hnz : ((n : Int) == 0) = false := by simp; omega
  have HM : Hid ((rdI xs (rdN xs i)).toNat % cs.length = m) := by show _ = _; rw [ey, ← HN.out, em]
  have HS1 : Hid (w1.heap.size = w.heap.size) := hs1
  clear hnx hk1 hs1 hR1 HO ey ey' em
  go_wp2_with fail
  refine hny.mono ?_
  rintro e w2 ⟨rfl, hk2, hs2, hR2⟩
  have HO2 : Hid (OwnP w2 B (some ⟨g, 0, none⟩) n cap cs) := HO1.out.keep hk2 HRB.out.1
  have HB2 : Hid (Below R w w2) := HB1.out.trans (hk2.below (Nat.le_refl _) (by rw [HS1.out]; exact Nat.le_of_lt HHL.out))
  have HR2 : Hid (RdIn w2 R p c xs (rdN xs (rdN xs i))) := hR2
  have hmi : (m : Int) < (n : Int) := by omega
  have HGL : Hid (g < w2.heap.size) := by show _ < _; rw [hs2, HS1.out]; exact hgl
  clear hny hk2 hs2 hR2 HO1 HB1
  obtain ⟨z, ez, ez', hz, hnz3⟩ := next_nat R c (rdN xs (rdN xs i)) p xs w2 HR2.out
  go_wp2_with fail
  refine hnz3.mono ?_
  rintro e w3 ⟨rfl, hk3, hs3, hR3⟩
  have HO3 : Hid (OwnP w3 B (some ⟨g, 0, none⟩) n cap cs) := HO2.out.keep hk3 HRB.out.1
  have HB3 : Hid (Below R w w3) := HB2.out.trans (hk3.below (Nat.le_refl _) (by have := HR2.out.lt; omega))
  have HR3 : Hid (RdIn w3 R p c xs (rdN xs (rdN xs (rdN xs i)))) := hR3
  have HG3 : Hid (g < w3.heap.size) := by show _ < _; rw [hs3]; exact HGL.out
  have HZ : Hid (rdI xs (rdN xs (rdN xs i)) = (z : Int) ∧ (rdI xs (rdN xs (rdN xs i))).toNat = z) := ⟨ez', ez⟩
  clear hnz3 hk3 hs3 hR3 HO2 HB2 HR2 HGL ez ez'
  have hfz := HO3.out.soft (m * 3 + 1)
  obtain ⟨v0, hcell⟩ : ∃ v, w3.cell? ⟨g, m * 3 + 1, none⟩ = some (.int .i64 v) := by
    obtain ⟨q', cap', h0, _⟩ := HO3.out.far HRB.out.1 m (by rw [← HN.out]; exact hm)
    exact ⟨_, h0⟩
  have HF : Hid (SpoilOut w R p c xs (spoilF xs cs i) (.returned (.slice (some ⟨g, 0, none⟩) n cap)) (w3.setCell ⟨g, m * 3 + 1, none⟩ (.int .i64 ((z : Int) * 8)))) := by
    have hmc : m < cs.length := by rw [← HN.out]; exact hm
    have hg := HRB.out
    have hfar := (HO3.out.far hg.1).put1 hmc ((z : Int) * 8)
    have hsp : spoilF xs cs i = (cs.set m (rdI xs (rdN xs (rdN xs i)) * 8, (cs.getD m Cel.none).2.1, (cs.getD m Cel.none).2.2), rdN xs (rdN xs (rdN xs i))) := by simp only [spoilF, HX.out, HM.out]; rfl
    show SpoilOut _ _ _ _ _ _ _ _
    rw [hsp, HZ.out.1]
    exact ⟨_, _, _, rfl, by simp [HN.out], hfar.stay (by omega), HR3.out.below (below_set _ _ _ _) (by omega), HB3.out.trans ((below_set _ _ _ _).mono (by omega))⟩
  clear HO3 HB3 HR3 HZ HG3
  go_wp2_with fail
  go_ret
  exact HF.out

set_option maxRecDepth 100000 in
set_option maxHeartbeats 4000000 in
theorem spoil1_any (R c i B : Nat) (p : Option Addr) (xs : List Int) (q : Option Addr) (n cap : Nat) (cs : List Cel) (w : World) (h : RdIn w R p c xs i) (hown : OwnP w B q n cap cs) (hR : R < B) (h0 : 0 < cs.length) (h2 : cs.length ≤ 200) (hk : (rdI xs i).toNat % 8 = 1) :
    Calls Tryd.prog 26 #[.slice q n cap, .pointer (some ⟨R, 0, none⟩)] w (SpoilOut w R p c xs (spoilF xs cs i)) := by
  obtain ⟨g, rfl, hgB, hgl⟩ := hown.head h0
  have HN : Hid (n = cs.length) := hown.1
  have HRB : Hid (R < B ∧ B ≤ g) := ⟨hR, hgB⟩
  obtain ⟨x, ex, ex', hx, hnx⟩ := next_nat R c i p xs w h
  rw [ex] at hk
  have hx8 : (x : Int).tmod 8 = 1 := by have h9 := tmod_nat x 8; rw [hk] at h9; exact h9
  have HX : Hid ((rdI xs i).toNat % 8 = 1) := by show _ = _; rw [ex]; exact hk
  have HO : Hid (OwnP w B (some ⟨g, 0, none⟩) n cap cs) := hown
  have hn0 : 0 < n := by rw [hown.1]; exact h0
  have hn2 : n ≤ 200 := by rw [hown.1]; exact h2
  have HHL : Hid (R < w.heap.size) := h.lt
  clear ex ex' hk hown hgB h0 h2 h hR
  go_enter Tryd.func26, Tryd.ntmps26
  go_wp2_with fail
  refine hnx.mono ?_
  rintro e w1 ⟨rfl, hk1, hs1, hR1⟩
  have HO1 : Hid (OwnP w1 B (some ⟨g, 0, none⟩) n cap cs) := HO.out.keep hk1 HRB.out.1
  have HB1 : Hid (Below R w w1) := hk1.below (Nat.le_refl _) (Nat.le_of_lt HHL.out)
  obtain ⟨y, ey, ey', hy, hny⟩ := next_nat R c (rdN xs i) p xs w1 hR1
  obtain ⟨m, em⟩ : ∃ m, m = y % n := ⟨_, rfl⟩
  have hm : m < n := by rw [em]; exact Nat.mod_lt _ hn0
  have hym : (y : Int).tmod (n : Int) = (m : Int) := by rw [em]; exact tmod_nat y n
  have hnz : ((n : Int) == 0) = false := by simp; omega
  have HM : Hid ((rdI xs (rdN xs i)).toNat % cs.length = m) := by show _ = _; rw [ey, ← HN.out, em]
  have HS1 : Hid (w1.heap.size = w.heap.size) := hs1
  clear hnx hk1 hs1 hR1 HO ey ey' em
  go_wp2_with fail
  refine hny.mono ?_
  rintro e w2 ⟨rfl, hk2, hs2, hR2⟩
  have HO2 : Hid (OwnP w2 B (some ⟨g, 0, none⟩) n cap cs) := HO1.out.keep hk2 HRB.out.1
  have HB2 : Hid (Below R w w2) := HB1.out.trans (hk2.below (Nat.le_refl _) (by rw [HS1.out]; exact Nat.le_of_lt HHL.out))
  have HR2 : Hid (RdIn w2 R p c xs (rdN xs (rdN xs i))) := hR2
  have hmi : (m : Int) < (n : Int) := by omega
  have HGL : Hid (g < w2.heap.size) := by show _ < _; rw [hs2, HS1.out]; exact hgl
  clear hny hk2 hs2 hR2 HO1 HB1
  obtain ⟨z, ez, ez', hz, hnz3⟩ := next_nat R c (rdN xs (rdN xs i)) p xs w2 HR2.out
  go_wp2_with fail
  refine hnz3.mono ?_
  rintro e w3 ⟨rfl, hk3, hs3, hR3⟩
  have HO3 : Hid (OwnP w3 B (some ⟨g, 0, none⟩) n cap cs) := HO2.out.keep hk3 HRB.out.1
  have HB3 : Hid (Below R w w3) := HB2.out.trans (hk3.below (Nat.le_refl _) (by have := HR2.out.lt; omega))
  have HR3 : Hid (RdIn w3 R p c xs (rdN xs (rdN xs (rdN xs i)))) := hR3
  have HG3 : Hid (g < w3.heap.size) := by show _ < _; rw [hs3]; exact HGL.out
  have HZ : Hid (rdI xs (rdN xs (rdN xs i)) = (z : Int) ∧ (rdI xs (rdN xs (rdN xs i))).toNat = z) := ⟨ez', ez⟩
  clear hnz3 hk3 hs3 hR3 HO2 HB2 HR2 HGL ez ez'
  have hfz := HO3.out.soft (m * 3 + 2)
  obtain ⟨v0, hcell⟩ : ∃ v, w3.cell? ⟨g, m * 3 + 2, none⟩ = some (.int .i64 v) := by
    obtain ⟨q', cap', _, h0, _⟩ := HO3.out.far HRB.out.1 m (by rw [← HN.out]; exact hm)
    exact ⟨_, h0⟩
  obtain ⟨z9, ez9⟩ : ∃ z9, z9 = z % 9 := ⟨_, rfl⟩
  have hz9 : (z : Int).tmod 9 = (z9 : Int) := by rw [ez9]; exact tmod_nat z 9
  have hzb : z9 < 9 := by omega
  have HF : Hid (SpoilOut w R p c xs (spoilF xs cs i) (.returned (.slice (some ⟨g, 0, none⟩) n cap)) (w3.setCell ⟨g, m * 3 + 2, none⟩ (.int .i64 ((z9 : Int) - 1)))) := by
    have hmc : m < cs.length := by rw [← HN.out]; exact hm
    have hg := HRB.out
    have hfar := (HO3.out.far hg.1).put2 hmc ((z9 : Int) - 1)
    have hsp : spoilF xs cs i = (cs.set m ((cs.getD m Cel.none).1, ((rdI xs (rdN xs (rdN xs i))).toNat % 9 : Nat) - 1, (cs.getD m Cel.none).2.2), rdN xs (rdN xs (rdN xs i))) := by simp only [spoilF, HX.out, HM.out]; rfl
    show SpoilOut _ _ _ _ _ _ _ _
    rw [hsp, HZ.out.2, ← ez9]
    exact ⟨_, _, _, rfl, by simp [HN.out], hfar.stay (by omega), HR3.out.below (below_set _ _ _ _) (by omega), HB3.out.trans ((below_set _ _ _ _).mono (by omega))⟩
  clear HO3 HB3 HR3 HZ HG3 ez9
  go_wp2_with fail
  go_ret
  exact HF.out

set_option maxRecDepth 100000 in
set_option maxHeartbeats 4000000 in
theorem spoil2_any (R c i B : Nat) (p : Option Addr) (xs : List Int) (q : Option Addr) (n cap : Nat) (cs : List Cel) (w : World) (h : RdIn w R p c xs i) (hown : OwnP w B q n cap cs) (hR : R < B) (h0 : 0 < cs.length) (h2 : cs.length ≤ 200) (hk : (rdI xs i).toNat % 8 = 2) :
    Calls Tryd.prog 26 #[.slice q n cap, .pointer (some ⟨R, 0, none⟩)] w (SpoilOut w R p c xs (spoilF xs cs i)) := by
  obtain ⟨g, rfl, hgB, hgl⟩ := hown.head h0
  have HN : Hid (n = cs.length) := hown.1
  have HRB : Hid (R < B ∧ B ≤ g) := ⟨hR, hgB⟩
  obtain ⟨x, ex, ex', hx, hnx⟩ := next_nat R c i p xs w h
  rw [ex] at hk
  have hx8 : (x : Int).tmod 8 = 2 := by have h9 := tmod_nat x 8; rw [hk] at h9; exact h9
  have HX : Hid ((rdI xs i).toNat % 8 = 2) := by show _ = _; rw [ex]; exact hk
  have HO : Hid (OwnP w B (some ⟨g, 0, none⟩) n cap cs) := hown
  have hn0 : 0 < n := by rw [hown.1]; exact h0
  have hn2 : n ≤ 200 := by rw [hown.1]; exact h2
  have HHL : Hid (R < w.heap.size) := h.lt
  clear ex ex' hk hown hgB h0 h2 h hR
  go_enter Tryd.func26, Tryd.ntmps26
  go_wp2_with fail
  refine hnx.mono ?_
  rintro e w1 ⟨rfl, hk1, hs1, hR1⟩
  have HO1 : Hid (OwnP w1 B (some ⟨g, 0, none⟩) n cap cs) := HO.out.keep hk1 HRB.out.1
  have HB1 : Hid (Below R w w1) := hk1.below (Nat.le_refl _) (Nat.le_of_lt HHL.out)
  obtain ⟨y, ey, ey', hy, hny⟩ := next_nat R c (rdN xs i) p xs w1 hR1
  obtain ⟨m, em⟩ : ∃ m, m = y % n := ⟨_, rfl⟩
  have hm : m < n := by rw [em]; exact Nat.mod_lt _ hn0
  have hym : (y : Int).tmod (n : Int) = (m : Int) := by rw [em]; exact tmod_nat y n
  have hnz : ((n : Int) == 0) = false := by simp; omega
  have HM : Hid ((rdI xs (rdN xs i)).toNat % cs.length = m) := by show _ = _; rw [ey, ← HN.out, em]
  have HS1 : Hid (w1.heap.size = w.heap.size) := hs1
  clear hnx hk1 hs1 hR1 HO ey ey' em
  go_wp2_with fail
  refine hny.mono ?_
  rintro e w2 ⟨rfl, hk2, hs2, hR2⟩
  have HO2 : Hid (OwnP w2 B (some ⟨g, 0, none⟩) n cap cs) := HO1.out.keep hk2 HRB.out.1
  have HB2 : Hid (Below R w w2) := HB1.out.trans (hk2.below (Nat.le_refl _) (by rw [HS1.out]; exact Nat.le_of_lt HHL.out))
  have HR2 : Hid (RdIn w2 R p c xs (rdN xs (rdN xs i))) := hR2
  have hmi : (m : Int) < (n : Int) := by omega
  have HGL : Hid (g < w2.heap.size) := by show _ < _; rw [hs2, HS1.out]; exact hgl
  clear hny hk2 hs2 hR2 HO1 HB1
  have kc := Lib.run_convert_bytes_const (P := Tryd.prog) w2 27 5 #[.int .u8 124] 1 1 Tryd.underlying27 Tryd.underlying5
  obtain ⟨w3, ew3⟩ : ∃ w3, w3 = w2.alloc (.cells #[.int .u8 124] 5 (1, 2)) := ⟨_, rfl⟩
  have hbm : Below w2.heap.size w2 w3 := by rw [ew3]; exact (Below.refl _ _).alloc (Nat.le_refl _) _
  have HBF : Hid (BFar R g w3 (some ⟨w2.heap.size, 0, none⟩) [124]) := fun _ => ⟨w2.heap.size, 0, rfl, by have := HR2.out.lt; omega, by have := HGL.out; omega, fun i hi => by
    have hi' : i = 0 := by simp at hi; omega
    subst hi'
    rw [ew3]
    have hb := heap_alloc_new w2 (.cells #[.int .u8 124] 5 (1, 2))
    unfold World.cell?; rw [hb]; rfl⟩
  have HO3 : Hid (OwnP w3 B (some ⟨g, 0, none⟩) n cap cs) := HO2.out.below hbm
  have HB3 : Hid (Below R w w3) := HB2.out.trans (hbm.mono (Nat.le_of_lt HR2.out.lt))
  have HR3 : Hid (RdIn w3 R p c xs (rdN xs (rdN xs i))) := HR2.out.below hbm HR2.out.lt
  have hfz := HO3.out.soft (m * 3)
  obtain ⟨q0, l0, c0, hcell⟩ : ∃ q l c, w3.cell? ⟨g, m * 3, none⟩ = some (.slice q l c) := by
    obtain ⟨q', cap', _, _, h0, _⟩ := HO3.out.far HRB.out.1 m (by rw [← HN.out]; exact hm)
    exact ⟨_, _, _, h0⟩
  have HF : Hid (SpoilOut w R p c xs (spoilF xs cs i) (.returned (.slice (some ⟨g, 0, none⟩) n cap)) (w3.setCell ⟨g, m * 3, none⟩ (.slice (some ⟨w2.heap.size, 0, none⟩) 1 1))) := by
    have hmc : m < cs.length := by rw [← HN.out]; exact hm
    have hg := HRB.out
    have hfar := (HO3.out.far hg.1).put0 hmc (some ⟨w2.heap.size, 0, none⟩) 1 1 [124] rfl HBF.out
    have hsp : spoilF xs cs i = (cs.set m ((cs.getD m Cel.none).1, (cs.getD m Cel.none).2.1, [124]), rdN xs (rdN xs i)) := by simp only [spoilF, HX.out, HM.out]; rfl
    show SpoilOut _ _ _ _ _ _ _ _
    rw [hsp]
    exact ⟨_, _, _, rfl, by simp [HN.out], hfar.stay (by omega), HR3.out.below (below_set _ _ _ _) (by omega), HB3.out.trans ((below_set _ _ _ _).mono (by omega))⟩
  rw [show ((#[Value.int .u8 124] : Array Value).size, (#[Value.int .u8 124] : Array Value).size + 1) = (1, 2) from rfl, ← ew3] at kc
  clear HO3 HB3 HR3 HBF HO2 HB2 HR2 HGL hbm ew3
  go_wp2_with fail
  go_ret
  exact HF.out

set_option maxRecDepth 100000 in
set_option maxHeartbeats 4000000 in
theorem spoil3_any (R c i B : Nat) (p : Option Addr) (xs : List Int) (q : Option Addr) (n cap : Nat) (cs : List Cel) (w : World) (h : RdIn w R p c xs i) (hown : OwnP w B q n cap cs) (hR : R < B) (h0 : 0 < cs.length) (h2 : cs.length ≤ 200) (hk : (rdI xs i).toNat % 8 = 3) :
    Calls Tryd.prog 26 #[.slice q n cap, .pointer (some ⟨R, 0, none⟩)] w (SpoilOut w R p c xs (spoilF xs cs i)) := by
  obtain ⟨g, rfl, hgB, hgl⟩ := hown.head h0
  have HN : Hid (n = cs.length) := hown.1
  have HRB : Hid (R < B ∧ B ≤ g) := ⟨hR, hgB⟩
  obtain ⟨x, ex, ex', hx, hnx⟩ := next_nat R c i p xs w h
  rw [ex] at hk
  have hx8 : (x : Int).tmod 8 = 3 := by have h9 := tmod_nat x 8; rw [hk] at h9; exact h9
  have HX : Hid ((rdI xs i).toNat % 8 = 3) := by show _ = _; rw [ex]; exact hk
  have HO : Hid (OwnP w B (some ⟨g, 0, none⟩) n cap cs) := hown
  have hn0 : 0 < n := by rw [hown.1]; exact h0
  have hn2 : n ≤ 200 := by rw [hown.1]; exact h2
  have HHL : Hid (R < w.heap.size) := h.lt
  clear ex ex' hk hown hgB h0 h2 h hR
  go_enter Tryd.func26, Tryd.ntmps26
  go_wp2_with fail
  refine hnx.mono ?_
  rintro e w1 ⟨rfl, hk1, hs1, hR1⟩
  have HO1 : Hid (OwnP w1 B (some ⟨g, 0, none⟩) n cap cs) := HO.out.keep hk1 HRB.out.1
  have HB1 : Hid (Below R w w1) := hk1.below (Nat.le_refl _) (Nat.le_of_lt HHL.out)
  obtain ⟨y, ey, ey', hy, hny⟩ := next_nat R c (rdN xs i) p xs w1 hR1
  obtain ⟨m, em⟩ : ∃ m, m = y % n := ⟨_, rfl⟩
  have hm : m < n := by rw [em]; exact Nat.mod_lt _ hn0
  have hym : (y : Int).tmod (n : Int) = (m : Int) := by rw [em]; exact tmod_nat y n
  have hnz : ((n : Int) == 0) = false := by simp; omega
  have HM : Hid ((rdI xs (rdN xs i)).toNat % cs.length = m) := by show _ = _; rw [ey, ← HN.out, em]
  have HS1 : Hid (w1.heap.size = w.heap.size) := hs1
  clear hnx hk1 hs1 hR1 HO ey ey' em
  go_wp2_with fail
  refine hny.mono ?_
  rintro e w2 ⟨rfl, hk2, hs2, hR2⟩
  have HO2 : Hid (OwnP w2 B (some ⟨g, 0, none⟩) n cap cs) := HO1.out.keep hk2 HRB.out.1
  have HB2 : Hid (Below R w w2) := HB1.out.trans (hk2.below (Nat.le_refl _) (by rw [HS1.out]; exact Nat.le_of_lt HHL.out))
  have HR2 : Hid (RdIn w2 R p c xs (rdN xs (rdN xs i))) := hR2
  have hmi : (m : Int) < (n : Int) := by omega
  have HGL : Hid (g < w2.heap.size) := by show _ < _; rw [hs2, HS1.out]; exact hgl
  clear hny hk2 hs2 hR2 HO1 HB1
  have hfz := HO2.out.soft (m * 3)
  obtain ⟨q0, l0, c0, hcell⟩ : ∃ q l c, w2.cell? ⟨g, m * 3, none⟩ = some (.slice q l c) := by
    obtain ⟨q', cap', _, _, h0, _⟩ := HO2.out.far HRB.out.1 m (by rw [← HN.out]; exact hm)
    exact ⟨_, _, _, h0⟩
  have HF : Hid (SpoilOut w R p c xs (spoilF xs cs i) (.returned (.slice (some ⟨g, 0, none⟩) n cap)) (w2.setCell ⟨g, m * 3, none⟩ (.slice none 0 0))) := by
    have hmc : m < cs.length := by rw [← HN.out]; exact hm
    have hg := HRB.out
    have hfar := (HO2.out.far hg.1).put0 hmc none 0 0 [] rfl (fun h => absurd h (by simp))
    have hsp : spoilF xs cs i = (cs.set m ((cs.getD m Cel.none).1, (cs.getD m Cel.none).2.1, []), rdN xs (rdN xs i)) := by simp only [spoilF, HX.out, HM.out]; rfl
    show SpoilOut _ _ _ _ _ _ _ _
    rw [hsp]
    exact ⟨_, _, _, rfl, by simp [HN.out], hfar.stay (by omega), HR2.out.below (below_set _ _ _ _) (by omega), HB2.out.trans ((below_set _ _ _ _).mono (by omega))⟩
  clear HO2 HB2 HR2 HGL
  go_wp2_with fail
  go_ret
  exact HF.out

end Go.Proofs.YtbfhpnacoigfkaaDoor

namespace Go.Proofs.YtbfhpnacoigfkaaDoor
open Go Go.RowKit
set_option linter.unusedVariables false

theorem rs_at_last (rs : List RC) (r : RC) (i : Nat) : (rs ++ [r]).getD i RC.zero = if i < rs.length then rs.getD i RC.zero else if i = rs.length then r else RC.zero := by
  simp only [List.getD, List.getElem?_append]
  split
  · rfl
  · rename_i h
    by_cases e : i = rs.length
    · simp [e]
    · rw [if_neg e, List.getElem?_eq_none (by simp; omega)]; rfl
/-- append of a row that is there onto a slice of operators of the call's own: its name is shared. -/
theorem app_dup (W0 w : World) {ops : Array Oper} {rest : List Oper} {o : Oper} {a : Act} {Q : Exit → Act → World → Prop} (hgd : o.guard = none) (s x : Operand)
    (ho : o.op = .call { callee := .builtin .append, args := #[s, x], argTypes := #[22, 22] }) (R B g n c m : Nat) (cs : List Cel)
    (hs : a.eval s = .slice (some ⟨g, 0, none⟩) n c) (hown : OwnP W0 B (some ⟨g, 0, none⟩) n c cs) (hb0 : Below W0.heap.size W0 w) (hB : B ≤ W0.heap.size) (hR : R < B) (hm : m < n) (ad : Addr) (c' : Nat) (hx : a.eval x = .slice (some ad) 1 c')
    (hnews : ∀ j, j < 3 → w.cell? (ad.add j) = W0.cell? ⟨g, m * 3 + j, none⟩) (hlen : n + 1 ≤ 1000000000)
    (h : ∀ g' n' cap w', OFar R g' w' (cs ++ [cs.getD m Cel.none]) → B ≤ g' → Below B w w' → Hid (n' = n + 1) → wpList Tryd.prog ops Q rest (a.put o.dst (.slice (some ⟨g', 0, none⟩) n' cap)) w') : wpList Tryd.prog ops Q (o :: rest) a w := by
  obtain ⟨i0, hi, hz0, hz1, hz2⟩ := info_parts infoOp
  obtain ⟨hn, rs, hl, hr, hf, ha, hroom⟩ := hown
  have hml : m < rs.length := by omega
  obtain ⟨a0, a1, a2⟩ := flatO_at rs m hml
  have hgl : g < W0.heap.size := (hr.lt g rfl).2
  have hBg : B ≤ g := (hr.lt g rfl).1
  have hro : ∀ j u, (roV (rs.getD m RC.zero))[j]? = some u → w.cell? (ad.add j) = some u := fun j u hu => by
    have hj : j < 3 := by
      rcases Nat.lt_or_ge j 3 with h' | h'
      · exact h'
      · rw [List.getElem?_eq_none (by simp [roV]; omega)] at hu; cases hu
    rw [hnews j hj, hr.cellAt _ (by omega)]
    have h3 : j = 0 ∨ j = 1 ∨ j = 2 := by omega
    rcases h3 with rfl | rfl | rfl
    · rw [Nat.add_zero, a2, ← hu]; rfl
    · rw [a0, ← hu]; rfl
    · rw [a1, ← hu]; rfl
  refine wpList_append_lies w hgd s x 22 ho B 39 i0 (.agg #[.slice none 0 0, .int .i64 0, .int .i64 0]) 3 40 Tryd.underlying22 hi hz0 hz1 hz2 rfl (by decide) (.slice (some ⟨g, 0, none⟩) n c) n (flatO rs) hs (row_below hr hb0) ad 1 c' (roV (rs.getD m RC.zero)) hx rfl hro (roV_one _) (by decide) (by unfold maxLen; omega) (by omega) (Nat.le_trans hB hb0.size) w.heap.size rfl ?_
  intro g' cap w' hown' hgrow hat hlt
  have hBg' : B ≤ g' := by
    rcases hat with h' | h'
    · have : g = g' := by simpa [Value.ownBlock] using h'
      omega
    · have := hb0.size; omega
  refine h g' _ cap w' (fun i hi => ?_) hBg' ((Below.refl _ _).grown hgrow (Nat.le_trans hB hb0.size) (fun k hk => (hr.lt k hk).1)) rfl
  have hrow : flatO rs ++ roV (rs.getD m RC.zero) = flatO (rs ++ [rs.getD m RC.zero]) := by rw [flatO_append, flatO_one]
  rw [hrow] at hown'
  have hi' : i < (rs ++ [rs.getD m RC.zero]).length := by simp at hi ⊢; omega
  obtain ⟨b0, b1, b2⟩ := flatO_at (rs ++ [rs.getD m RC.zero]) i hi'
  have hfit : Fits W0 B ((rs ++ [rs.getD m RC.zero]).getD i RC.zero) ((cs ++ [cs.getD m Cel.none]).getD i Cel.none) ∧ (0 < ((rs ++ [rs.getD m RC.zero]).getD i RC.zero).2.2.2.1 → ((rs ++ [rs.getD m RC.zero]).getD i RC.zero).2.2.1 ≠ some ⟨g, 0, none⟩) := by
    have hi2 : i ≤ cs.length := by simp at hi; omega
    rw [rs_append_at _ _ _ (by omega), cs_append_at _ _ _ hi2]
    by_cases e : i = cs.length
    · rw [if_pos (by omega), if_pos e]
      exact ⟨hf m (by omega), fun hp => ha.1 m hml hp⟩
    · rw [if_neg (by omega), if_neg e]
      exact ⟨hf i (by omega), fun hp => ha.1 i (by omega) hp⟩
  generalize (rs ++ [rs.getD m RC.zero]).getD i RC.zero = r at b0 b1 b2 hfit
  generalize (cs ++ [cs.getD m Cel.none]).getD i Cel.none = cc at hfit ⊢
  obtain ⟨⟨f0, f1, f2⟩, hap⟩ := hfit
  have hsz : i * 3 + 2 < (n + 1) * 3 := by simp at hi; omega
  refine ⟨r.2.2.1, r.2.2.2.2, ?_, ?_, ?_, fun hn0 => ?_⟩
  · rw [hown'.cellAt _ (by omega), b0, f0]
  · rw [hown'.cellAt _ (by omega), b1, f1]
  · rw [hown'.cellAt _ (by omega), b2, f2.len]
  · have hp : 0 < r.2.2.2.1 := by rw [f2.len]; exact hn0
    obtain ⟨b, e, h1, h2, h3⟩ := f2.2 hp
    have hbg : b ≠ g := fun e' => hap hp (by rw [e, e'])
    refine ⟨b, 0, e, by omega, fun e' => ?_, fun j hj => ?_⟩
    · rcases hat with h' | h'
      · have : g = g' := by simpa [Value.ownBlock] using h'
        omega
      · have := hb0.size; omega
    · rw [Nat.zero_add]
      have hblk : w'.heap[b]? = W0.heap[b]? := (hgrow.block b (by have := hb0.size; omega) (fun hk => hbg (by simpa [Value.ownBlock] using hk))).trans (hb0.block b h2)
      exact (World.cell?_of_block (w := W0) (a := ⟨b, j, none⟩) hblk).trans (h3 j (by rw [f2.len]; exact hj)).1

set_option maxRecDepth 100000 in
set_option maxHeartbeats 4000000 in
theorem spoil4_any (R c i B : Nat) (p : Option Addr) (xs : List Int) (q : Option Addr) (n cap : Nat) (cs : List Cel) (w : World) (h : RdIn w R p c xs i) (hown : OwnP w B q n cap cs) (hR : R < B) (h0 : 0 < cs.length) (h2 : cs.length ≤ 200) (hk : (rdI xs i).toNat % 8 = 4) :
    Calls Tryd.prog 26 #[.slice q n cap, .pointer (some ⟨R, 0, none⟩)] w (SpoilOut w R p c xs (spoilF xs cs i)) := by
  obtain ⟨g, rfl, hgB, hgl⟩ := hown.head h0
  have HN : Hid (n = cs.length) := hown.1
  have HRB : Hid (R < B ∧ B ≤ g) := ⟨hR, hgB⟩
  obtain ⟨x, ex, ex', hx, hnx⟩ := next_nat R c i p xs w h
  rw [ex] at hk
  have hx8 : (x : Int).tmod 8 = 4 := by have h9 := tmod_nat x 8; rw [hk] at h9; exact h9
  have HX : Hid ((rdI xs i).toNat % 8 = 4) := by show _ = _; rw [ex]; exact hk
  have HO : Hid (OwnP w B (some ⟨g, 0, none⟩) n cap cs) := hown
  have hn0 : 0 < n := by rw [hown.1]; exact h0
  have hn2 : n ≤ 200 := by rw [hown.1]; exact h2
  have HHL : Hid (R < w.heap.size) := h.lt
  clear ex ex' hk hown hgB h0 h2 h hR
  go_enter Tryd.func26, Tryd.ntmps26
  go_wp2_with fail
  refine hnx.mono ?_
  rintro e w1 ⟨rfl, hk1, hs1, hR1⟩
  have HO1 : Hid (OwnP w1 B (some ⟨g, 0, none⟩) n cap cs) := HO.out.keep hk1 HRB.out.1
  have HB1 : Hid (Below R w w1) := hk1.below (Nat.le_refl _) (Nat.le_of_lt HHL.out)
  obtain ⟨y, ey, ey', hy, hny⟩ := next_nat R c (rdN xs i) p xs w1 hR1
  obtain ⟨m, em⟩ : ∃ m, m = y % n := ⟨_, rfl⟩
  have hm : m < n := by rw [em]; exact Nat.mod_lt _ hn0
  have hym : (y : Int).tmod (n : Int) = (m : Int) := by rw [em]; exact tmod_nat y n
  have hnz : ((n : Int) == 0) = false := by simp; omega
  have HM : Hid ((rdI xs (rdN xs i)).toNat % cs.length = m) := by show _ = _; rw [ey, ← HN.out, em]
  have HS1 : Hid (w1.heap.size = w.heap.size) := hs1
  clear hnx hk1 hs1 hR1 HO ey ey' em
  go_wp2_with fail
  refine hny.mono ?_
  rintro e w2 ⟨rfl, hk2, hs2, hR2⟩
  have HO2 : Hid (OwnP w2 B (some ⟨g, 0, none⟩) n cap cs) := HO1.out.keep hk2 HRB.out.1
  have HB2 : Hid (Below R w w2) := HB1.out.trans (hk2.below (Nat.le_refl _) (by rw [HS1.out]; exact Nat.le_of_lt HHL.out))
  have HR2 : Hid (RdIn w2 R p c xs (rdN xs (rdN xs i))) := hR2
  have hmi : (m : Int) < (n : Int) := by omega
  have HGL : Hid (g < w2.heap.size) := by show _ < _; rw [hs2, HS1.out]; exact hgl
  clear hny hk2 hs2 hR2 HO1 HB1
  obtain ⟨q0, c0, h1, h2, h0, _⟩ := HO2.out.far HRB.out.1 m (by rw [← HN.out]; exact hm)
  obtain ⟨k1, e1⟩ : ∃ x, x = (cs.getD m Cel.none).1 := ⟨_, rfl⟩
  obtain ⟨k2, e2⟩ : ∃ x, x = (cs.getD m Cel.none).2.1 := ⟨_, rfl⟩
  obtain ⟨l0, e0⟩ : ∃ x, x = (cs.getD m Cel.none).2.2.length := ⟨_, rfl⟩
  rw [← e1] at h1
  rw [← e2] at h2
  rw [← e0] at h0
  clear e0 e1 e2
  have hnews : ∀ j, j < 3 → (w2.alloc (Obj.cells #[.slice q0 l0 c0, .int .i64 k1, .int .i64 k2] 39)).cell? ((⟨w2.heap.size, 0, none⟩ : Addr).add j) = w2.cell? ⟨g, m * 3 + j, none⟩ := fun j hj => by
    obtain ⟨a0, a1, a2⟩ := three_new w2 (.slice q0 l0 c0) (.int .i64 k1) (.int .i64 k2) 39
    have h3 : j = 0 ∨ j = 1 ∨ j = 2 := by omega
    rcases h3 with rfl | rfl | rfl
    · exact a0.trans h0.symm
    · exact a1.trans h1.symm
    · exact a2.trans h2.symm
  have HBA : Hid (Below w2.heap.size w2 (w2.alloc (Obj.cells #[.slice q0 l0 c0, .int .i64 k1, .int .i64 k2] 39))) := (Below.refl _ _).alloc (Nat.le_refl _) _
  have HNW : Hid _ := hnews
  clear hnews
  go_wp2_with (refine app_dup w2 _ rfl _ _ rfl R B g n cap m cs rfl HO2.out HBA.out (by have := HRB.out; have := HGL.out; omega) HRB.out.1 hm ⟨w2.heap.size, 0, none⟩ 1 rfl HNW.out (by omega) ?_; intro g' n' cap' w' hfar hBg hb hn')
  have HF : Hid (SpoilOut w R p c xs (spoilF xs cs i) (.returned (.slice (some ⟨g', 0, none⟩) n' cap')) w') := by
    have hsp : spoilF xs cs i = (cs ++ [cs.getD m Cel.none], rdN xs (rdN xs i)) := by simp only [spoilF, HX.out, HM.out]; rfl
    have hg := HRB.out
    have hbb := HBA.out.mono (Nat.le_of_lt HR2.out.lt)
    show SpoilOut _ _ _ _ _ _ _ _
    rw [hsp]
    exact ⟨_, _, _, rfl, by simp [hn'.out, HN.out], hfar.stay (by omega), (HR2.out.below HBA.out HR2.out.lt).below hb hg.1, (HB2.out.trans hbb).trans (hb.mono (by omega))⟩
  clear hfar hb hn' HO2 HB2 HR2 HGL HNW HBA
  go_wp2_with fail
  go_ret
  exact HF.out

end Go.Proofs.YtbfhpnacoigfkaaDoor

namespace Go.Proofs.YtbfhpnacoigfkaaDoor
open Go Go.RowKit
set_option linter.unusedVariables false

theorem flatO_take (rs : List RC) (m : Nat) : (flatO rs).take (m * 3) = flatO (rs.take m) := by
  induction rs generalizing m with
  | nil => simp [flatO]
  | cons r rs ih =>
    cases m with
    | zero => simp [flatO]
    | succ m => rw [List.take_succ_cons, flatO_cons, flatO_cons, ← ih m, Nat.succ_mul]; rfl
theorem flatO_drop (rs : List RC) (m : Nat) : (flatO rs).drop (m * 3) = flatO (rs.drop m) := by
  induction rs generalizing m with
  | nil => simp [flatO]
  | cons r rs ih =>
    cases m with
    | zero => simp
    | succ m => rw [List.drop_succ_cons, flatO_cons, ← ih m, Nat.succ_mul]; rfl
theorem flatO_one' (rs : List RC) : ∀ u ∈ flatO rs, u.oneCell' = true := fun u hu => by
  obtain ⟨r, _, h⟩ := List.mem_flatMap.1 hu
  exact roV_one r u h
theorem less_at {α : Type} (d : α) (xs : List α) (m i : Nat) (hm : m < xs.length) : (xs.take m ++ xs.drop (m + 1)).getD i d = xs.getD (if i < m then i else i + 1) d := by
  have hl : (xs.take m).length = m := by rw [List.length_take]; omega
  simp only [List.getD, List.getElem?_append, hl]
  by_cases h : i < m
  · rw [if_pos h, if_pos h, List.getElem?_take_of_lt h]
  · rw [if_neg h, if_neg h, List.getElem?_drop, show m + 1 + (i - m) = i + 1 by omega]
/-- append(ops[:m], ops[m+1:]...) moves the rows down. -/
theorem cut_run (w : World) (R B g n c m : Nat) (cs : List Cel) (hown : OwnP w B (some ⟨g, 0, none⟩) n c cs) (hR : R < B) (hm : m < n) (ty : TypeId) (ad : Addr) (had : ad = ⟨g, (m + 1) * 3, none⟩ ∨ n = m + 1) (c2 : Nat) :
    ∃ w', (Builtin.append_ #[22, 22] ty #[.slice (some ⟨g, 0, none⟩) m c, .slice (some ad) (n - (m + 1)) c2]).run Tryd.prog w = .ok (.slice (some ⟨g, 0, none⟩) (n - 1) c) w' ∧ OFar R g w' (cs.take m ++ cs.drop (m + 1)) ∧ Below g w w' := by
  obtain ⟨i0, hi, hz0, hz1, hz2⟩ := info_parts infoOp
  obtain ⟨hn, rs, hl, hr, hf, ha, hroom⟩ := hown
  rcases hr.2 with ⟨hv, _⟩ | ⟨g', cap', cur, hv, hBg, hg, hnc, hcm, hcs, htake⟩
  · simp at hv
  simp only [Value.slice.injEq, Option.some.injEq, Addr.mk.injEq, and_true, true_and] at hv
  obtain ⟨rfl, rfl⟩ := hv
  have hnl : (flatO (rs.drop (m + 1))).length = (n - (m + 1)) * 3 := by rw [flatO_len, List.length_drop, hl, hn]
  have hrun := run_append_room (P := Tryd.prog) w 22 ty 39 i0 Tryd.underlying22 hi g m c cur hg ad (n - (m + 1)) c2 (flatO (rs.drop (m + 1))) (by rw [hz1]; exact hnl) (fun j u hu => by
    have hj : j < (flatO (rs.drop (m + 1))).length := by
      rcases Nat.lt_or_ge j (flatO (rs.drop (m + 1))).length with h' | h'
      · exact h'
      · rw [List.getElem?_eq_none h'] at hu; cases hu
    rcases had with rfl | h9
    · rw [show (⟨g, (m + 1) * 3, none⟩ : Addr).add j = ⟨g, (m + 1) * 3 + j, none⟩ by unfold Addr.add; split <;> simp_all, hr.cellAt _ (by omega), ← hu, ← flatO_drop, List.getElem?_drop]
    · omega) (flatO_one' _) (by omega) (by rw [hz1, hnl, hcs]; omega)
  rw [hz1, hnl, show m + (n - (m + 1)) = n - 1 by omega] at hrun
  refine ⟨_, hrun, fun i hi => ?_, ⟨rfl, rfl, rfl, by simp, fun k hk => setRow_other w g k _ (by omega)⟩⟩
  have hheap := setRow_heap w g cur (cur.toList.take (m * 3) ++ flatO (rs.drop (m + 1)) ++ cur.toList.drop (m * 3 + (n - (m + 1)) * 3)).toArray 39 _ hg
  have hil : i < n - 1 := by simp at hi; omega
  have hfirst : cur.toList.take (m * 3) ++ flatO (rs.drop (m + 1)) = flatO (rs.take m ++ rs.drop (m + 1)) := by
    rw [flatO_append, ← flatO_take, ← htake, List.take_take, Nat.min_eq_left (by omega)]
  rw [hfirst] at hheap
  rw [hfirst]
  have hlen' : (rs.take m ++ rs.drop (m + 1)).length = n - 1 := by simp; omega
  obtain ⟨b0, b1, b2⟩ := flatO_at (rs.take m ++ rs.drop (m + 1)) i (by omega)
  have hcell : ∀ j, j < (n - 1) * 3 → (w.setRow g (flatO (rs.take m ++ rs.drop (m + 1)) ++ cur.toList.drop (m * 3 + (n - (m + 1)) * 3)).toArray).cell? ⟨g, j, none⟩ = (flatO (rs.take m ++ rs.drop (m + 1)))[j]? := fun j hj => by
    have h1 : j < (flatO (rs.take m ++ rs.drop (m + 1))).length := by rw [flatO_len, hlen']; exact hj
    unfold World.cell?
    rw [hheap]
    simp [List.getElem?_append_left h1]
  rw [less_at Cel.none cs m i (by omega)]
  rw [less_at RC.zero rs m i (by omega)] at b0 b1 b2
  have hk : (if i < m then i else i + 1) < cs.length := by split <;> omega
  generalize (if i < m then i else i + 1) = k at b0 b1 b2 hk ⊢
  obtain ⟨f0, f1, f2⟩ := hf k hk
  refine ⟨(rs.getD k RC.zero).2.2.1, (rs.getD k RC.zero).2.2.2.2, ?_, ?_, ?_, fun hn0 => ?_⟩
  · rw [hcell _ (by omega), b0, f0]
  · rw [hcell _ (by omega), b1, f1]
  · rw [hcell _ (by omega), b2, f2.len]
  · have hp : 0 < (rs.getD k RC.zero).2.2.2.1 := by rw [f2.len]; exact hn0
    obtain ⟨b, e, h1, h2, h3⟩ := f2.2 hp
    have hbg : b ≠ g := fun e' => ha.1 k (by omega) hp (by rw [e, e'])
    refine ⟨b, 0, e, by omega, hbg, fun j hj => ?_⟩
    rw [Nat.zero_add]
    exact (World.cell?_of_block (w := w) (a := ⟨b, j, none⟩) (setRow_other w g b _ hbg)).trans (h3 j (by rw [f2.len]; exact hj)).1

set_option maxRecDepth 100000 in
set_option maxHeartbeats 4000000 in
theorem spoil5_any (R c i B : Nat) (p : Option Addr) (xs : List Int) (q : Option Addr) (n cap : Nat) (cs : List Cel) (w : World) (h : RdIn w R p c xs i) (hown : OwnP w B q n cap cs) (hR : R < B) (h0 : 0 < cs.length) (h2 : cs.length ≤ 200) (hk : (rdI xs i).toNat % 8 = 5) :
    Calls Tryd.prog 26 #[.slice q n cap, .pointer (some ⟨R, 0, none⟩)] w (SpoilOut w R p c xs (spoilF xs cs i)) := by
  obtain ⟨g, rfl, hgB, hgl⟩ := hown.head h0
  have HN : Hid (n = cs.length) := hown.1
  have HRB : Hid (R < B ∧ B ≤ g) := ⟨hR, hgB⟩
  obtain ⟨x, ex, ex', hx, hnx⟩ := next_nat R c i p xs w h
  rw [ex] at hk
  have hx8 : (x : Int).tmod 8 = 5 := by have h9 := tmod_nat x 8; rw [hk] at h9; exact h9
  have HX : Hid ((rdI xs i).toNat % 8 = 5) := by show _ = _; rw [ex]; exact hk
  have HO : Hid (OwnP w B (some ⟨g, 0, none⟩) n cap cs) := hown
  have hn0 : 0 < n := by rw [hown.1]; exact h0
  have hn2 : n ≤ 200 := by rw [hown.1]; exact h2
  have HHL : Hid (R < w.heap.size) := h.lt
  clear ex ex' hk hown hgB h0 h2 h hR
  go_enter Tryd.func26, Tryd.ntmps26
  go_wp2_with fail
  refine hnx.mono ?_
  rintro e w1 ⟨rfl, hk1, hs1, hR1⟩
  have HO1 : Hid (OwnP w1 B (some ⟨g, 0, none⟩) n cap cs) := HO.out.keep hk1 HRB.out.1
  have HB1 : Hid (Below R w w1) := hk1.below (Nat.le_refl _) (Nat.le_of_lt HHL.out)
  obtain ⟨y, ey, ey', hy, hny⟩ := next_nat R c (rdN xs i) p xs w1 hR1
  obtain ⟨m, em⟩ : ∃ m, m = y % n := ⟨_, rfl⟩
  have hm : m < n := by rw [em]; exact Nat.mod_lt _ hn0
  have hym : (y : Int).tmod (n : Int) = (m : Int) := by rw [em]; exact tmod_nat y n
  have hnz : ((n : Int) == 0) = false := by simp; omega
  have HM : Hid ((rdI xs (rdN xs i)).toNat % cs.length = m) := by show _ = _; rw [ey, ← HN.out, em]
  have HS1 : Hid (w1.heap.size = w.heap.size) := hs1
  clear hnx hk1 hs1 hR1 HO ey ey' em
  go_wp2_with fail
  refine hny.mono ?_
  rintro e w2 ⟨rfl, hk2, hs2, hR2⟩
  have HO2 : Hid (OwnP w2 B (some ⟨g, 0, none⟩) n cap cs) := HO1.out.keep hk2 HRB.out.1
  have HB2 : Hid (Below R w w2) := HB1.out.trans (hk2.below (Nat.le_refl _) (by rw [HS1.out]; exact Nat.le_of_lt HHL.out))
  have HR2 : Hid (RdIn w2 R p c xs (rdN xs (rdN xs i))) := hR2
  have hmi : (m : Int) < (n : Int) := by omega
  have HGL : Hid (g < w2.heap.size) := by show _ < _; rw [hs2, HS1.out]; exact hgl
  clear hny hk2 hs2 hR2 HO1 HB1
  have hcap : n ≤ cap := by
    obtain ⟨_, rs, _, hr, _⟩ := HO2.out
    rcases hr.2 with ⟨hv, _⟩ | ⟨g', cap', cur, hv, _, _, hnc, _⟩
    · simp at hv
    · simp only [Value.slice.injEq] at hv; omega
  have hmc0 : (0 : Int) ≤ (m : Int) := by omega
  have hmc1 : (m : Int) ≤ (cap : Int) := by omega
  have hcz : ¬ cap = 0 := by omega
  have hl0 : (0 : Int) ≤ (m : Int) + 1 := by omega
  have hl1 : (m : Int) + 1 ≤ (n : Int) := by omega
  have hto : ((m : Int) + 1).toNat = m + 1 := by omega
  have hwr : IntKind.i64.wrap ((m : Int) + 1) = (m : Int) + 1 := wrap_small (by omega) (by omega)
  by_cases hAD : cap = m + 1
  · have HAD : Hid (cap = m + 1) := hAD
    obtain ⟨w3, hrun, hfar, hb3⟩ := cut_run w2.drew R B g n cap m cs HO2.out HRB.out.1 hm 22 ⟨g, 0, none⟩ (.inr (by omega)) (cap - (m + 1))
    have HF : Hid (SpoilOut w R p c xs (spoilF xs cs i) (.returned (.slice (some ⟨g, 0, none⟩) (n - 1) cap)) w3) := by
      have hmc : m < cs.length := by rw [← HN.out]; exact hm
      have hg := HRB.out
      have hsp : spoilF xs cs i = (cs.take m ++ cs.drop (m + 1), rdN xs (rdN xs i)) := by simp only [spoilF, HX.out, HM.out]; rfl
      show SpoilOut _ _ _ _ _ _ _ _
      rw [hsp]
      have hn' := HN.out
      have hbd : Below g w2 w3 := ((Below.refl _ w2).drew.mono (Nat.le_of_lt HGL.out)).trans hb3
      exact ⟨_, _, _, rfl, by simp; omega, hfar.stay (by omega), HR2.out.below hbd (by omega), HB2.out.trans (hbd.mono (by omega))⟩
    clear hfar hb3 HO2 HB2 HR2 HGL hAD
    go_wp2_with fail
    refine wp_region_held_drew (S := fun _ => True) (by kernel_rfl) trivial (fun hHeld => ?_)
    refine hTake (i := 0) (v := .slice (some ⟨g, 0, none⟩) n cap) (some 60) (by kernel_rfl) (by kernel_rfl) (by kernel_rfl) (by kernel_rfl) (by kernel_rfl) (fun _ _ _ h => h) (fun o ho W hSw => ?y0) (by assumption) ?_
    case y0 =>
      cases ho
      simp [execOp, go_sem, Act.eval]
    simp only [Act.put, List.setIfInBounds_toArray, List.set_cons_zero, List.set_cons_succ]
    refine hTake (i := 1) (v := .int .i64 m) (some 61) (by kernel_rfl) (by kernel_rfl) (by kernel_rfl) (by kernel_rfl) (by kernel_rfl) (fun _ _ _ h => h) (fun o ho W hSw => ?y1) (by assumption) ?_
    case y1 =>
      cases ho
      simp [execOp, go_sem, Act.eval]
    simp only [Act.put, List.setIfInBounds_toArray, List.set_cons_zero, List.set_cons_succ]
    refine hTake (i := 2) (v := .slice (some ⟨g, 0, none⟩) m cap) (some 62) (by kernel_rfl) (by kernel_rfl) (by kernel_rfl) (by kernel_rfl) (by kernel_rfl) (fun _ _ _ h => h) (fun o ho W hSw => ?y2) (by assumption) ?_
    case y2 =>
      cases ho
      simp [execOp, go_sem, Act.eval, hmc0, hmc1, hcz, Tryd.underlying22]
    simp only [Act.put, List.setIfInBounds_toArray, List.set_cons_zero, List.set_cons_succ]
    refine hTake (i := 3) (v := .slice (some ⟨g, 0, none⟩) n cap) (some 63) (by kernel_rfl) (by kernel_rfl) (by kernel_rfl) (by kernel_rfl) (by kernel_rfl) (fun _ _ _ h => h) (fun o ho W hSw => ?y3) (by assumption) ?_
    case y3 =>
      cases ho
      simp [execOp, go_sem, Act.eval]
    simp only [Act.put, List.setIfInBounds_toArray, List.set_cons_zero, List.set_cons_succ]
    refine hTake (i := 4) (v := .int .i64 m) (some 64) (by kernel_rfl) (by kernel_rfl) (by kernel_rfl) (by kernel_rfl) (by kernel_rfl) (fun _ _ _ h => h) (fun o ho W hSw => ?y4) (by assumption) ?_
    case y4 =>
      cases ho
      simp [execOp, go_sem, Act.eval]
    simp only [Act.put, List.setIfInBounds_toArray, List.set_cons_zero, List.set_cons_succ]
    refine hTake (i := 5) (v := .int .i64 ((m : Int) + 1)) (some 65) (by kernel_rfl) (by kernel_rfl) (by kernel_rfl) (by kernel_rfl) (by kernel_rfl) (fun _ _ _ h => h) (fun o ho W hSw => ?y5) (by assumption) ?_
    case y5 =>
      cases ho
      simp [execOp, go_sem, Act.eval, hwr]
    simp only [Act.put, List.setIfInBounds_toArray, List.set_cons_zero, List.set_cons_succ]
    refine hTake (i := 6) (v := .slice (some ⟨g, 0, none⟩) (n - (m + 1)) (cap - (m + 1))) (some 66) (by kernel_rfl) (by kernel_rfl) (by kernel_rfl) (by kernel_rfl) (by kernel_rfl) (fun _ _ _ h => h) (fun o ho W hSw => ?y6) (by assumption) ?_
    case y6 =>
      cases ho
      simp [execOp, go_sem, Act.eval, hl0, hl1, hto, HAD.out]
    simp only [Act.put, List.setIfInBounds_toArray, List.set_cons_zero, List.set_cons_succ]
    refine hStep (i := 7) (v := .slice (some ⟨g, 0, none⟩) (n - 1) cap) (w' := w3) (some 67) (by kernel_rfl) (by kernel_rfl) (by kernel_rfl) (fun o ho => ?y7) trivial ?_
    case y7 =>
      cases ho
      simp [execOp, Act.eval, resolve, invoke, builtin, hrun]
    clear hHeld
    simp only [Act.put, List.setIfInBounds_toArray, List.set_cons_zero, List.set_cons_succ]
    have hHeld : (fun (_ : World) => True) w3 := trivial
    refine hTake (i := 8) (v := .slice (some ⟨g, 0, none⟩) (n - 1) cap) (some 4) (by kernel_rfl) (by kernel_rfl) (by kernel_rfl) (by kernel_rfl) (by kernel_rfl) (fun _ _ _ h => h) (fun o ho W hSw => ?y8) (by assumption) ?_
    case y8 =>
      cases ho
      simp [execOp, go_sem, Act.eval]
    simp only [Act.put, List.setIfInBounds_toArray, List.set_cons_zero, List.set_cons_succ]
    refine wpAnyH_done (by kernel_rfl) ?_ _
    go_wp2_with fail
    go_ret
    exact HF.out
  · have HAD : Hid (¬ cap = m + 1) := hAD
    obtain ⟨w3, hrun, hfar, hb3⟩ := cut_run w2.drew R B g n cap m cs HO2.out HRB.out.1 hm 22 ⟨g, (m + 1) * 3, none⟩ (.inl rfl) (cap - (m + 1))
    have HF : Hid (SpoilOut w R p c xs (spoilF xs cs i) (.returned (.slice (some ⟨g, 0, none⟩) (n - 1) cap)) w3) := by
      have hmc : m < cs.length := by rw [← HN.out]; exact hm
      have hg := HRB.out
      have hsp : spoilF xs cs i = (cs.take m ++ cs.drop (m + 1), rdN xs (rdN xs i)) := by simp only [spoilF, HX.out, HM.out]; rfl
      show SpoilOut _ _ _ _ _ _ _ _
      rw [hsp]
      have hn' := HN.out
      have hbd : Below g w2 w3 := ((Below.refl _ w2).drew.mono (Nat.le_of_lt HGL.out)).trans hb3
      exact ⟨_, _, _, rfl, by simp; omega, hfar.stay (by omega), HR2.out.below hbd (by omega), HB2.out.trans (hbd.mono (by omega))⟩
    clear hfar hb3 HO2 HB2 HR2 HGL hAD
    go_wp2_with fail
    refine wp_region_held_drew (S := fun _ => True) (by kernel_rfl) trivial (fun hHeld => ?_)
    refine hTake (i := 0) (v := .slice (some ⟨g, 0, none⟩) n cap) (some 60) (by kernel_rfl) (by kernel_rfl) (by kernel_rfl) (by kernel_rfl) (by kernel_rfl) (fun _ _ _ h => h) (fun o ho W hSw => ?y0) (by assumption) ?_
    case y0 =>
      cases ho
      simp [execOp, go_sem, Act.eval]
    simp only [Act.put, List.setIfInBounds_toArray, List.set_cons_zero, List.set_cons_succ]
    refine hTake (i := 1) (v := .int .i64 m) (some 61) (by kernel_rfl) (by kernel_rfl) (by kernel_rfl) (by kernel_rfl) (by kernel_rfl) (fun _ _ _ h => h) (fun o ho W hSw => ?y1) (by assumption) ?_
    case y1 =>
      cases ho
      simp [execOp, go_sem, Act.eval]
    simp only [Act.put, List.setIfInBounds_toArray, List.set_cons_zero, List.set_cons_succ]
    refine hTake (i := 2) (v := .slice (some ⟨g, 0, none⟩) m cap) (some 62) (by kernel_rfl) (by kernel_rfl) (by kernel_rfl) (by kernel_rfl) (by kernel_rfl) (fun _ _ _ h => h) (fun o ho W hSw => ?y2) (by assumption) ?_
    case y2 =>
      cases ho
      simp [execOp, go_sem, Act.eval, hmc0, hmc1, hcz, Tryd.underlying22]
    simp only [Act.put, List.setIfInBounds_toArray, List.set_cons_zero, List.set_cons_succ]
    refine hTake (i := 3) (v := .slice (some ⟨g, 0, none⟩) n cap) (some 63) (by kernel_rfl) (by kernel_rfl) (by kernel_rfl) (by kernel_rfl) (by kernel_rfl) (fun _ _ _ h => h) (fun o ho W hSw => ?y3) (by assumption) ?_
    case y3 =>
      cases ho
      simp [execOp, go_sem, Act.eval]
    simp only [Act.put, List.setIfInBounds_toArray, List.set_cons_zero, List.set_cons_succ]
    refine hTake (i := 4) (v := .int .i64 m) (some 64) (by kernel_rfl) (by kernel_rfl) (by kernel_rfl) (by kernel_rfl) (by kernel_rfl) (fun _ _ _ h => h) (fun o ho W hSw => ?y4) (by assumption) ?_
    case y4 =>
      cases ho
      simp [execOp, go_sem, Act.eval]
    simp only [Act.put, List.setIfInBounds_toArray, List.set_cons_zero, List.set_cons_succ]
    refine hTake (i := 5) (v := .int .i64 ((m : Int) + 1)) (some 65) (by kernel_rfl) (by kernel_rfl) (by kernel_rfl) (by kernel_rfl) (by kernel_rfl) (fun _ _ _ h => h) (fun o ho W hSw => ?y5) (by assumption) ?_
    case y5 =>
      cases ho
      simp [execOp, go_sem, Act.eval, hwr]
    simp only [Act.put, List.setIfInBounds_toArray, List.set_cons_zero, List.set_cons_succ]
    refine hTake (i := 6) (v := .slice (some ⟨g, (m + 1) * 3, none⟩) (n - (m + 1)) (cap - (m + 1))) (some 66) (by kernel_rfl) (by kernel_rfl) (by kernel_rfl) (by kernel_rfl) (by kernel_rfl) (fun _ _ _ h => h) (fun o ho W hSw => ?y6) (by assumption) ?_
    case y6 =>
      cases ho
      simp [execOp, go_sem, Act.eval, hl0, hl1, hto, HAD.out]
    simp only [Act.put, List.setIfInBounds_toArray, List.set_cons_zero, List.set_cons_succ]
    refine hStep (i := 7) (v := .slice (some ⟨g, 0, none⟩) (n - 1) cap) (w' := w3) (some 67) (by kernel_rfl) (by kernel_rfl) (by kernel_rfl) (fun o ho => ?y7) trivial ?_
    case y7 =>
      cases ho
      simp [execOp, Act.eval, resolve, invoke, builtin, hrun]
    clear hHeld
    simp only [Act.put, List.setIfInBounds_toArray, List.set_cons_zero, List.set_cons_succ]
    have hHeld : (fun (_ : World) => True) w3 := trivial
    refine hTake (i := 8) (v := .slice (some ⟨g, 0, none⟩) (n - 1) cap) (some 4) (by kernel_rfl) (by kernel_rfl) (by kernel_rfl) (by kernel_rfl) (by kernel_rfl) (fun _ _ _ h => h) (fun o ho W hSw => ?y8) (by assumption) ?_
    case y8 =>
      cases ho
      simp [execOp, go_sem, Act.eval]
    simp only [Act.put, List.setIfInBounds_toArray, List.set_cons_zero, List.set_cons_succ]
    refine wpAnyH_done (by kernel_rfl) ?_ _
    go_wp2_with fail
    go_ret
    exact HF.out

end Go.Proofs.YtbfhpnacoigfkaaDoor

namespace Go.Proofs.YtbfhpnacoigfkaaDoor
open Go Go.RowKit
set_option linter.unusedVariables false

theorem run_app_one (w : World) (ty : TypeId) (b l c0 : Nat) (hl : l + 1 ≤ c0) (ad : Addr) (c' : Nat) (v : Int) (hnew : w.cell? (ad.add 0) = some (.int .u8 v)) (u : Value) (hcell : w.cell? ⟨b, l, none⟩ = some u) (hfz : w.frozen? ⟨b, l, none⟩ = false) :
    (Builtin.append_ #[27, 27] ty #[.slice (some ⟨b, 0, none⟩) l c0, .slice (some ad) 1 c']).run Tryd.prog w = .ok (.slice (some ⟨b, 0, none⟩) (l + 1) c0) (w.setCell ⟨b, l, none⟩ (.int .u8 v)) := by
  obtain ⟨i0, hi, hz0, hz1, hz2⟩ := info_parts infoByte
  have hf := run_firstCells_some (P := Tryd.prog) w 1 1 ad 1 c' [.int .u8 v] rfl (fun j u hu => by
    have hj : j = 0 := by
      rcases Nat.eq_zero_or_pos j with h | h
      · exact h
      · rw [List.getElem?_eq_none (by simp; omega)] at hu; cases hu
    subst hj
    simp at hu
    rw [← hu]; exact hnew)
  have hadd : (⟨b, l, none⟩ : Addr).add 0 = ⟨b, l, none⟩ := by unfold Addr.add; split <;> simp_all
  have hst : (store ⟨b, l, none⟩ (.int .u8 v)).run Tryd.prog w = .ok () (w.setCell ⟨b, l, none⟩ (.int .u8 v)) := by
    rw [run_store Tryd.prog w _ _ _ rfl, hcell]
    simp [hfz]
  simp [Builtin.append_, run_underlying Tryd.underlying27, sizeOf, typeInfo, hi, hz1, Builtin.lenOf, hl, hf, Addr.add_lit, storeCells, hadd, hst]

theorem name_run (w : World) (R B g n c m : Nat) (cs : List Cel) (hown : OwnP w B (some ⟨g, 0, none⟩) n c cs) (hR : R < B) (hBw : B ≤ w.heap.size) (hm : m < n) (hne : 0 < (cs.getD m Cel.none).2.2.length) (hle : (cs.getD m Cel.none).2.2.length ≤ 1000) (ty : TypeId) :
    ∃ q l c0, w.cell? ⟨g, m * 3, none⟩ = some (.slice q l c0) ∧ l = (cs.getD m Cel.none).2.2.length ∧ ∃ q' c' w4, (Builtin.append_ #[27, 27] ty #[.slice q l c0, .slice (some ⟨w.heap.size, 0, none⟩) 1 1]).run Tryd.prog (w.alloc (.cells #[.int .u8 122] 5)) = .ok (.slice q' (l + 1) c') w4 ∧
      OFar R g w4 cs ∧ BFar R g w4 q' ((cs.getD m Cel.none).2.2 ++ [122]) ∧ Below B w w4 ∧ w4.frozen? ⟨g, m * 3, none⟩ = false ∧ w4.cell? ⟨g, m * 3, none⟩ = some (.slice q l c0) := by
  have hbW : Below w.heap.size w (w.alloc (.cells #[.int .u8 122] 5)) := (Below.refl _ _).alloc (Nat.le_refl _) _
  have hWs : (w.alloc (.cells #[.int .u8 122] 5)).heap.size = w.heap.size + 1 := World.size_alloc _ _
  have hnew : (w.alloc (.cells #[.int .u8 122] 5)).cell? ((⟨w.heap.size, 0, none⟩ : Addr).add 0) = some (.int .u8 122) := by
    have hb := heap_alloc_new w (.cells #[.int .u8 122] 5)
    show World.cell? _ ⟨w.heap.size, 0, none⟩ = _
    unfold World.cell?; rw [hb]; rfl
  have hO := hown.below hbW
  have hgl : g < w.heap.size := (hown.head (by rw [← hown.1]; omega)).elim fun g' h => by have := congrArg Addr.block (Option.some.inj h.1); simp only at this; omega
  obtain ⟨W, eW⟩ : ∃ W, W = w.alloc (.cells #[.int .u8 122] 5) := ⟨_, rfl⟩
  rw [← eW] at hbW hWs hnew hO ⊢
  clear eW
  have hfarW := hO.far hR
  obtain ⟨hn, rs, hl, hr, hf, ha, hroom⟩ := hO
  have hml : m < rs.length := by omega
  obtain ⟨a0, a1, a2⟩ := flatO_at rs m hml
  obtain ⟨f0, f1, f2⟩ := hf m (by omega)
  have hmem : rs.getD m RC.zero ∈ rs := by rw [List.getD, List.getElem?_eq_getElem hml]; exact List.getElem_mem hml
  obtain ⟨q, l, c0, er⟩ : ∃ q l c0, rs.getD m RC.zero = ((rs.getD m RC.zero).1, (rs.getD m RC.zero).2.1, q, l, c0) := ⟨_, _, _, rfl⟩
  have hq : (rs.getD m RC.zero).2.2.1 = q := by rw [er]
  have hll : (rs.getD m RC.zero).2.2.2.1 = l := by rw [er]
  have hcc : (rs.getD m RC.zero).2.2.2.2 = c0 := by rw [er]
  have hlen := f2.len
  have hrm := hroom _ hmem
  rw [hq, hll, hcc] at f2 hrm a2
  rw [hll] at hlen
  obtain ⟨b, e, hBb, hblt, hcs⟩ := f2.2 (by omega)
  obtain ⟨ad, cur, e1, ⟨mk, e2, e5⟩, e3, e4⟩ := hrm (by omega)
  rw [e] at e1
  obtain rfl := Option.some.inj e1
  have hbg : b ≠ g := fun e' => ha.1 m hml (by rw [hll]; omega) (by rw [hq, e, e'])
  have hcellW : W.cell? ⟨g, m * 3, none⟩ = some (.slice q l c0) := by rw [hr.cellAt _ (by omega), a2]
  have hcellw : w.cell? ⟨g, m * 3, none⟩ = some (.slice q l c0) := by rw [← hbW.cell (p := ⟨g, m * 3, none⟩) hgl]; exact hcellW
  refine ⟨q, l, c0, hcellw, hlen, ?_⟩
  subst e
  have hlen' := hlen
  obtain ⟨ys, eys⟩ : ∃ ys, ys = (cs.getD m Cel.none).2.2 := ⟨_, rfl⟩
  rw [← eys] at hlen hcs hle hne ⊢
  by_cases hfit : l + 1 ≤ c0
  · have hbc : W.cell? ⟨b, l, none⟩ = some (cur[l]'(by omega)) := by simp [World.cell?, e2, show l < cur.size by omega]
    have hbf : W.frozen? ⟨b, l, none⟩ = false := by
      simp only [World.frozen?, e2]
      rcases e5 with rfl | h9
      · rfl
      · simp only [Bool.and_eq_false_iff, decide_eq_false_iff_not]; left; omega
    refine ⟨_, _, _, run_app_one W ty b l c0 hfit ⟨w.heap.size, 0, none⟩ 1 122 hnew _ hbc hbf, fun i hi => ?_, fun _ => ⟨b, 0, rfl, by omega, hbg, fun j hj => ?_⟩, (hbW.mono hBw).trans (Below.setCell (Below.refl _ _) hBb _), ?_, ?_⟩
    · obtain ⟨b0, b1, b2⟩ := flatO_at rs i (by omega)
      obtain ⟨k0, k1, k2⟩ := hf i hi
      have hfar : ∀ j, (W.setCell ⟨b, l, none⟩ (.int .u8 122)).cell? ⟨g, j, none⟩ = W.cell? ⟨g, j, none⟩ := fun j => World.cell?_of_block (w := W) (a := ⟨g, j, none⟩) (Below.heap_setCell _ _ _ _ (fun e' => hbg e'.symm))
      refine ⟨(rs.getD i RC.zero).2.2.1, (rs.getD i RC.zero).2.2.2.2, ?_, ?_, ?_, fun hn0 => ?_⟩
      · rw [hfar, hr.cellAt _ (by omega), b0, k0]
      · rw [hfar, hr.cellAt _ (by omega), b1, k1]
      · rw [hfar, hr.cellAt _ (by omega), b2, k2.len]
      · have hp : 0 < (rs.getD i RC.zero).2.2.2.1 := by rw [k2.len]; exact hn0
        obtain ⟨b', e', h1, h2, h3⟩ := k2.2 hp
        refine ⟨b', 0, e', by omega, fun e9 => ha.1 i (by omega) hp (by rw [e', e9]), fun j hj => ?_⟩
        rw [Nat.zero_add]
        have h4 := (h3 j (by rw [k2.len]; exact hj)).1
        by_cases hbb : b' = b
        · have him : i = m := by
            rcases Nat.decEq i m with h9 | h9
            · exact absurd (by rw [e', hq, hbb]) (ha.2 i m (by omega) hml h9 hp (by rw [hll]; omega))
            · exact h9
          subst him
          subst hbb
          rw [set_other (by simp only [hlen']; omega)]; exact h4
        · exact (World.cell?_of_block (w := W) (a := ⟨b', j, none⟩) (Below.heap_setCell _ _ _ _ hbb)).trans h4
    · rw [Nat.zero_add]
      have hj' : j < ys.length + 1 := by simpa using hj
      by_cases hjl : j = l
      · subst hjl
        rw [set_same hbc, List.getD, List.getElem?_append_right (by omega), hlen]; simp
      · rw [set_other (by omega), (hcs j (by omega)).1, List.getD, List.getD, List.getElem?_append_left (by omega)]
    · rw [World.frozen?_of_block (w := W) (a := ⟨g, m * 3, none⟩) (Below.heap_setCell _ _ _ _ (fun e' => hbg e'.symm))]; exact hr.frozenAt _
    · rw [World.cell?_of_block (w := W) (a := ⟨g, m * 3, none⟩) (Below.heap_setCell _ _ _ _ (fun e' => hbg e'.symm))]; exact hcellW
  · obtain ⟨i0, hi, hz0, hz1, hz2⟩ := info_parts infoByte
    have hrun := run_append_grow (P := Tryd.prog) W 27 ty 5 i0 (.int .u8 0) Tryd.underlying27 hi hz0 ⟨b, 0, none⟩ l c0 (ys.map (Value.int .u8)) (by rw [hz1]; simp [hlen]) (news_of (o := 0) (fun j hj => by rw [Nat.zero_add]; exact (hcs j (by omega)).1))
      ⟨w.heap.size, 0, none⟩ 1 1 [.int .u8 122] (by rw [hz1]; rfl) (fun j u hu => by
        have hj : j = 0 := by
          rcases Nat.eq_zero_or_pos j with h | h
          · exact h
          · rw [List.getElem?_eq_none (by simp; omega)] at hu; cases hu
        subst hj
        simp at hu
        rw [← hu]; exact hnew) (by omega) (by omega) (growslice_fits (by omega) (by rw [hz2]; omega))
    obtain ⟨w4, ew4⟩ : ∃ w4, w4 = W.drew.alloc (.cells ((ys.map (Value.int .u8)).toArray ++ [Value.int .u8 122].toArray ++ Builtin.zeroCells (Value.int .u8 0).cells (grownCap W (l + 1) c0 5 - (l + 1))) 5) := ⟨_, rfl⟩
    have hnewrow := heap_alloc_new W.drew (.cells ((ys.map (Value.int .u8)).toArray ++ [Value.int .u8 122].toArray ++ Builtin.zeroCells (Value.int .u8 0).cells (grownCap W (l + 1) c0 5 - (l + 1))) 5)
    rw [← ew4] at hrun hnewrow
    have hb4 : Below W.heap.size W w4 := by rw [ew4]; exact (Below.refl _ W).drew.alloc (Nat.le_refl _) _
    have hO4 : OwnP w4 B (some ⟨g, 0, none⟩) n c cs := OwnP.below ⟨hn, rs, hl, hr, hf, ha, hroom⟩ hb4
    have hgW : g < W.heap.size := by omega
    refine ⟨_, _, w4, hrun, hO4.far hR, fun _ => ⟨W.heap.size, 0, rfl, by omega, by omega, fun j hj => ?_⟩, (hbW.mono hBw).trans (hb4.mono (by omega)), hO4.soft _, (hb4.cell (p := ⟨g, m * 3, none⟩) hgW).trans hcellW⟩
    rw [Nat.zero_add]
    have hj' : j < ys.length + 1 := by simpa using hj
    have hrow : w4.heap[W.heap.size]? = some (.cells ((ys.map (Value.int .u8)).toArray ++ [Value.int .u8 122].toArray ++ Builtin.zeroCells (Value.int .u8 0).cells (grownCap W (l + 1) c0 5 - (l + 1))) 5) := hnewrow
    unfold World.cell?
    rw [hrow]
    show ((ys.map (Value.int .u8)).toArray ++ [Value.int .u8 122].toArray ++ Builtin.zeroCells (Value.int .u8 0).cells (grownCap W (l + 1) c0 5 - (l + 1)))[j]? = _
    by_cases hjl : j < ys.length
    · simp [Array.getElem?_append, hjl, Nat.lt_succ_of_lt hjl, List.getD]
    · obtain rfl : j = ys.length := by omega
      simp [Array.getElem?_append, List.getD]

/-- append, its run being known. -/
theorem app_run (w w' : World) {ops : Array Oper} {rest : List Oper} {o : Oper} {a : Act} {Q : Exit → Act → World → Prop} (hgd : o.guard = none) (s x : Operand) (t : TypeId)
    (ho : o.op = .call { callee := .builtin .append, args := #[s, x], argTypes := #[t, t] }) (vs vx v : Value) (hs : a.eval s = vs) (hx : a.eval x = vx) (hr : (Builtin.append_ #[t, t] o.type #[vs, vx]).run Tryd.prog w = .ok v w')
    (h : wpList Tryd.prog ops Q rest (a.put o.dst v) w') : wpList Tryd.prog ops Q (o :: rest) a w := by
  refine wpList_plain hgd fun K hK => ?_
  unfold Oper.wp
  simp [execOp, ho, resolve, invoke, builtin, hs, hx, hr, Result.andThen]
  exact hK _ _ h

set_option maxRecDepth 100000 in
set_option maxHeartbeats 4000000 in
theorem spoil6_any (R c i B : Nat) (p : Option Addr) (xs : List Int) (q : Option Addr) (n cap : Nat) (cs : List Cel) (w : World) (h : RdIn w R p c xs i) (hown : OwnP w B q n cap cs) (hR : R < B) (h0 : 0 < cs.length) (h2 : cs.length ≤ 200) (hne : ∀ c ∈ cs, 0 < c.2.2.length ∧ c.2.2.length ≤ 1000) (hk : (rdI xs i).toNat % 8 = 6) :
    Calls Tryd.prog 26 #[.slice q n cap, .pointer (some ⟨R, 0, none⟩)] w (SpoilOut w R p c xs (spoilF xs cs i)) := by
  obtain ⟨g, rfl, hgB, hgl⟩ := hown.head h0
  have HN : Hid (n = cs.length) := hown.1
  have HRB : Hid (R < B ∧ B ≤ g) := ⟨hR, hgB⟩
  obtain ⟨x, ex, ex', hx, hnx⟩ := next_nat R c i p xs w h
  rw [ex] at hk
  have hx8 : (x : Int).tmod 8 = 6 := by have h9 := tmod_nat x 8; rw [hk] at h9; exact h9
  have HX : Hid ((rdI xs i).toNat % 8 = 6) := by show _ = _; rw [ex]; exact hk
  have HO : Hid (OwnP w B (some ⟨g, 0, none⟩) n cap cs) := hown
  have hn0 : 0 < n := by rw [hown.1]; exact h0
  have hn2 : n ≤ 200 := by rw [hown.1]; exact h2
  have HHL : Hid (R < w.heap.size) := h.lt
  have HNE : Hid (∀ c ∈ cs, 0 < c.2.2.length ∧ c.2.2.length ≤ 1000) := hne
  clear hne
  clear ex ex' hk hown hgB h0 h2 h hR
  go_enter Tryd.func26, Tryd.ntmps26
  go_wp2_with fail
  refine hnx.mono ?_
  rintro e w1 ⟨rfl, hk1, hs1, hR1⟩
  have HO1 : Hid (OwnP w1 B (some ⟨g, 0, none⟩) n cap cs) := HO.out.keep hk1 HRB.out.1
  have HB1 : Hid (Below R w w1) := hk1.below (Nat.le_refl _) (Nat.le_of_lt HHL.out)
  obtain ⟨y, ey, ey', hy, hny⟩ := next_nat R c (rdN xs i) p xs w1 hR1
  obtain ⟨m, em⟩ : ∃ m, m = y % n := ⟨_, rfl⟩
  have hm : m < n := by rw [em]; exact Nat.mod_lt _ hn0
  have hym : (y : Int).tmod (n : Int) = (m : Int) := by rw [em]; exact tmod_nat y n
  have hnz : ((n : Int) == 0) = false := by simp; omega
  have HM : Hid ((rdI xs (rdN xs i)).toNat % cs.length = m) := by show _ = _; rw [ey, ← HN.out, em]
  have HS1 : Hid (w1.heap.size = w.heap.size) := hs1
  clear hnx hk1 hs1 hR1 HO ey ey' em
  go_wp2_with fail
  refine hny.mono ?_
  rintro e w2 ⟨rfl, hk2, hs2, hR2⟩
  have HO2 : Hid (OwnP w2 B (some ⟨g, 0, none⟩) n cap cs) := HO1.out.keep hk2 HRB.out.1
  have HB2 : Hid (Below R w w2) := HB1.out.trans (hk2.below (Nat.le_refl _) (by rw [HS1.out]; exact Nat.le_of_lt HHL.out))
  have HR2 : Hid (RdIn w2 R p c xs (rdN xs (rdN xs i))) := hR2
  have hmi : (m : Int) < (n : Int) := by omega
  have HGL : Hid (g < w2.heap.size) := by show _ < _; rw [hs2, HS1.out]; exact hgl
  clear hny hk2 hs2 hR2 HO1 HB1
  have hmc : m < cs.length := by rw [← HN.out]; exact hm
  have hnm := HNE.out (cs.getD m Cel.none) (by rw [List.getD, List.getElem?_eq_getElem hmc]; exact List.getElem_mem hmc)
  obtain ⟨q0, l0, c0, hcell, hl0, q1, c1, w4, hrun, hfar, hbf, hb4, hfz4, hc4⟩ := name_run w2 R B g n cap m cs HO2.out HRB.out.1 (by have := HRB.out; have := HGL.out; omega) hm hnm.1 hnm.2 27
  have HF : Hid (SpoilOut w R p c xs (spoilF xs cs i) (.returned (.slice (some ⟨g, 0, none⟩) n cap)) (w4.setCell ⟨g, m * 3, none⟩ (.slice q1 (l0 + 1) c1))) := by
    have hg := HRB.out
    have hfar := hfar.put0 hmc q1 (l0 + 1) c1 ((cs.getD m Cel.none).2.2 ++ [122]) (by simp [hl0]) hbf
    have hsp : spoilF xs cs i = (cs.set m ((cs.getD m Cel.none).1, (cs.getD m Cel.none).2.1, (cs.getD m Cel.none).2.2 ++ [122]), rdN xs (rdN xs i)) := by simp only [spoilF, HX.out, HM.out]; rfl
    show SpoilOut _ _ _ _ _ _ _ _
    rw [hsp]
    exact ⟨_, _, _, rfl, by simp [HN.out], hfar.stay (by omega), (HR2.out.below hb4 hg.1).below (below_set _ _ _ _) (by omega), (HB2.out.trans (hb4.mono (by omega))).trans ((below_set _ _ _ _).mono (by omega))⟩
  clear hfar hbf hb4 HO2 HB2 HR2 HGL HNE hnm hl0 hmc
  go_wp2_with (refine app_run _ w4 rfl _ _ 27 rfl _ _ _ rfl rfl hrun ?_)
  go_ret
  exact HF.out

end Go.Proofs.YtbfhpnacoigfkaaDoor

namespace Go.Proofs.YtbfhpnacoigfkaaDoor
open Go Go.RowKit
set_option linter.unusedVariables false

def slLen : Value → Nat
  | .slice _ n _ => n
  | _ => 0
theorem OwnO.keep {w w' : World} {B R : Nat} {p : Option Addr} {n c : Nat} {cs : List Cel} (h : OwnO w B p n c cs) (k : Keep R (R + 1) w w') (hR : R < B) : OwnO w' B p n c cs := (h.up.keep k (.inr hR)).toO
theorem OwnO.stay {R B : Nat} {w : World} {p : Option Addr} {n c : Nat} {cs : List Cel} (h : OwnO w B p n c cs) (hR : R < B) : OStay R w p cs := fun w' k => (h.keep k hR).oin
theorem growF_at (xs : List Int) (f : Nat) (cs : List Cel) (j : Nat) : growF xs (f + 1) cs j = if cs.length < 200 + (rdI xs j).toNat % 2 then growF xs f (cs ++ [newOp cs.length]) (rdN xs j) else (cs, rdN xs j) := rfl
theorem four_name (W : World) (a b : Nat) : OwnT (W.alloc (.cells #[.int .u8 122, .int .u8 122, .int .u8 (65 + (a : Int)), .int .u8 (65 + (b : Int))] 5)) W.heap.size (some ⟨W.heap.size, 0, none⟩) 4 4 [122, 122, 65 + (a : Int), 65 + (b : Int)] := by
  have hb := heap_alloc_new W (.cells #[.int .u8 122, .int .u8 122, .int .u8 (65 + (a : Int)), .int .u8 (65 + (b : Int))] 5)
  refine ⟨rfl, fun _ => ⟨W.heap.size, rfl, Nat.le_refl _, by simp, fun i hi => ⟨?_, frozen_of_row _ _ _ _ _ hb⟩⟩⟩
  have h4 : i = 0 ∨ i = 1 ∨ i = 2 ∨ i = 3 := by omega
  rcases h4 with rfl | rfl | rfl | rfl <;> (unfold World.cell?; rw [hb]; rfl)

set_option maxRecDepth 100000 in
set_option maxHeartbeats 4000000 in
theorem spoil7_any (R c i B : Nat) (p : Option Addr) (xs : List Int) (q : Option Addr) (n cap : Nat) (cs : List Cel) (w : World) (h : RdIn w R p c xs i) (hown : OwnP w B q n cap cs) (hR : R < B) (h0 : 0 < cs.length) (h2 : cs.length ≤ 200) (hk : (rdI xs i).toNat % 8 = 7) :
    Calls Tryd.prog 26 #[.slice q n cap, .pointer (some ⟨R, 0, none⟩)] w (SpoilOut w R p c xs (spoilF xs cs i)) := by
  obtain ⟨g, rfl, hgB, hgl⟩ := hown.head h0
  have HN : Hid (n = cs.length) := hown.1
  have HRB : Hid (R < B ∧ B ≤ g) := ⟨hR, hgB⟩
  obtain ⟨x, ex, ex', hx, hnx⟩ := next_nat R c i p xs w h
  rw [ex] at hk
  have hx8 : (x : Int).tmod 8 = 7 := by have h9 := tmod_nat x 8; rw [hk] at h9; exact h9
  have HX : Hid ((rdI xs i).toNat % 8 = 7) := by show _ = _; rw [ex]; exact hk
  have HO : Hid (OwnP w B (some ⟨g, 0, none⟩) n cap cs) := hown
  have hn0 : 0 < n := by rw [hown.1]; exact h0
  have hn2 : n ≤ 200 := by rw [hown.1]; exact h2
  have HHL : Hid (R < w.heap.size) := h.lt
  clear ex ex' hk hown hgB h0 h2 h hR
  go_enter Tryd.func26, Tryd.ntmps26
  go_wp2_with fail
  refine hnx.mono ?_
  rintro e w1 ⟨rfl, hk1, hs1, hR1⟩
  have HO1 : Hid (OwnP w1 B (some ⟨g, 0, none⟩) n cap cs) := HO.out.keep hk1 HRB.out.1
  have HB1 : Hid (Below R w w1) := hk1.below (Nat.le_refl _) (Nat.le_of_lt HHL.out)
  obtain ⟨y, ey, ey', hy, hny⟩ := next_nat R c (rdN xs i) p xs w1 hR1
  obtain ⟨m, em⟩ : ∃ m, m = y % n := ⟨_, rfl⟩
  have hm : m < n := by rw [em]; exact Nat.mod_lt _ hn0
  have hym : (y : Int).tmod (n : Int) = (m : Int) := by rw [em]; exact tmod_nat y n
  have hnz : ((n : Int) == 0) = false := by simp; omega
  have HM : Hid ((rdI xs (rdN xs i)).toNat % cs.length = m) := by show _ = _; rw [ey, ← HN.out, em]
  have HS1 : Hid (w1.heap.size = w.heap.size) := hs1
  clear hnx hk1 hs1 hR1 HO ey ey' em
  go_wp2_with fail
  refine hny.mono ?_
  rintro e w2 ⟨rfl, hk2, hs2, hR2⟩
  have HO2 : Hid (OwnP w2 B (some ⟨g, 0, none⟩) n cap cs) := HO1.out.keep hk2 HRB.out.1
  have HB2 : Hid (Below R w w2) := HB1.out.trans (hk2.below (Nat.le_refl _) (by rw [HS1.out]; exact Nat.le_of_lt HHL.out))
  have HR2 : Hid (RdIn w2 R p c xs (rdN xs (rdN xs i))) := hR2
  have hmi : (m : Int) < (n : Int) := by omega
  have HGL : Hid (g < w2.heap.size) := by show _ < _; rw [hs2, HS1.out]; exact hgl
  clear hny hk2 hs2 hR2 HO1 HB1
  have HSP : Hid (spoilF xs cs i = growF xs (202 - n) cs (rdN xs (rdN xs i))) := by show _ = _; simp only [spoilF, HX.out, HN.out]; rfl
  have HBW : Hid (B ≤ w2.heap.size) := by show _ ≤ _; have := HRB.out; have := HGL.out; omega
  have HO2' : Hid (OwnO w2 B (some ⟨g, 0, none⟩) n cap cs) := HO2.out.toO
  clear HX HM HO2
  go_wp2_with fail
  go_loopw [0] (fun s wr => ∃ (n5 c5 j : Nat) (p5 : Option Addr) (cs5 : List Cel), s = .slice p5 n5 c5 ∧ n5 ≤ 201 ∧ Hid (growF xs (202 - n5) cs5 j = spoilF xs cs i) ∧ Hid (OwnO wr B p5 n5 c5 cs5) ∧ Hid (RdIn wr R p c xs j) ∧ Hid (Below R w wr) ∧ Hid (B ≤ wr.heap.size)) (fun s _ => 202 - slLen s)
  case atStart => exact ⟨n, cap, _, _, cs, rfl, by omega, HSP.out.symm, HO2', HR2, HB2, HBW⟩
  case round =>
    obtain ⟨n5, c5, j, p5, cs5, rfl, hn5, HG, HO, HR, HB, HBZ⟩ := hrel
    obtain ⟨z0, ez, ez', hz0, hnx⟩ := next_nat R c j p xs wr HR.out
    obtain ⟨z, e2⟩ : ∃ z, z = z0 % 2 := ⟨_, rfl⟩
    have hz2 : (z0 : Int).tmod 2 = (z : Int) := by rw [e2]; exact tmod_nat z0 2
    have hz : z < 2 := by omega
    have HZ : Hid ((rdI xs j).toNat % 2 = z) := by show _ = _; rw [ez, ← e2]
    clear ez ez' e2
    go_wp2_with fail
    refine hnx.mono ?_
    rintro e w3 ⟨rfl, hk3, hs3, hR3⟩
    have HO3 : Hid (OwnO w3 B p5 n5 c5 cs5) := HO.out.keep hk3 HRB.out.1
    have HB3 : Hid (Below R w w3) := HB.out.trans (hk3.below (Nat.le_refl _) (Nat.le_of_lt HR.out.lt))
    have HR3 : Hid (RdIn w3 R p c xs (rdN xs j)) := hR3
    have HBZ3 : Hid (B ≤ w3.heap.size) := by show _ ≤ _; rw [hs3]; exact HBZ.out
    have HN5 : Hid (n5 = cs5.length) := HO.out.1
    clear hnx hk3 hs3 hR3 HO HB HR HBZ
    by_cases hlt : n5 < 200 + z
    · have hlt' : (n5 : Int) < 200 + (z : Int) := by omega
      obtain ⟨a, ea⟩ : ∃ a, a = n5 / 26 := ⟨_, rfl⟩
      obtain ⟨b, eb⟩ : ∃ b, b = n5 % 26 := ⟨_, rfl⟩
      have ha : (n5 : Int).tdiv 26 = (a : Int) := by rw [ea, Int.tdiv_eq_ediv_of_nonneg (by omega)]; rfl
      have hb : (n5 : Int).tmod 26 = (b : Int) := by rw [eb]; exact tmod_nat n5 26
      have hab : a < 8 := by omega
      have hbb : b < 26 := by omega
      have HNX : Hid (growF xs (202 - (n5 + 1)) (cs5 ++ [(700, 0, [122, 122, 65 + (a : Int), 65 + (b : Int)])]) (rdN xs j) = spoilF xs cs i) := by
        show _ = _
        rw [← HG.out, show 202 - n5 = (202 - (n5 + 1)) + 1 by omega, growF_at, HZ.out, ← HN5.out, if_pos hlt, newOp, ← ea, ← eb]
      have HB4 : Hid (Below w3.heap.size w3 (w3.alloc (Obj.cells #[.int .u8 122, .int .u8 122, .int .u8 (65 + (a : Int)), .int .u8 (65 + (b : Int))] 5))) := (Below.refl _ _).alloc (Nat.le_refl _) _
      have HB5 : Hid (Below w3.heap.size w3 ((w3.alloc (Obj.cells #[.int .u8 122, .int .u8 122, .int .u8 (65 + (a : Int)), .int .u8 (65 + (b : Int))] 5)).alloc (Obj.cells #[.slice (some ⟨w3.heap.size, 0, none⟩) 4 4, .int .i64 700, .int .i64 0] 39))) := HB4.out.alloc (by simp) _
      have HOT : Hid (OwnT ((w3.alloc (Obj.cells #[.int .u8 122, .int .u8 122, .int .u8 (65 + (a : Int)), .int .u8 (65 + (b : Int))] 5)).alloc (Obj.cells #[.slice (some ⟨w3.heap.size, 0, none⟩) 4 4, .int .i64 700, .int .i64 0] 39)) w3.heap.size (some ⟨w3.heap.size, 0, none⟩) 4 4 [122, 122, 65 + (a : Int), 65 + (b : Int)]) := (four_name w3 a b).below ((Below.refl _ _).alloc (Nat.le_refl _) _)
      have HBX : Hid (Box3 ((w3.alloc (Obj.cells #[.int .u8 122, .int .u8 122, .int .u8 (65 + (a : Int)), .int .u8 (65 + (b : Int))] 5)).alloc (Obj.cells #[.slice (some ⟨w3.heap.size, 0, none⟩) 4 4, .int .i64 700, .int .i64 0] 39)) (w3.heap.size + 1) (.slice (some ⟨w3.heap.size, 0, none⟩) 4 4) (.int .i64 700) (.int .i64 0)) := by
        have h9 := Box3.of_block (heap_alloc_new (w3.alloc (Obj.cells #[.int .u8 122, .int .u8 122, .int .u8 (65 + (a : Int)), .int .u8 (65 + (b : Int))] 5)) (Obj.cells #[.slice (some ⟨w3.heap.size, 0, none⟩) 4 4, .int .i64 700, .int .i64 0] 39))
        rwa [World.size_alloc] at h9
      clear ea eb HG HZ
      go_wp2_with (refine app_op w3 _ rfl _ _ rfl B p5 n5 c5 cs5 rfl HO3.out HB5.out HBZ3.out ⟨w3.heap.size + 1, 0, none⟩ 1 rfl 700 0 (some ⟨w3.heap.size, 0, none⟩) 4 4 [122, 122, 65 + (a : Int), 65 + (b : Int)] HOT.out (news_ro HBX.out) (by omega) ?_; intro g6 n6 cap6 w6 hown6 hb6 hn6)
      have HO6 : Hid (OwnO w6 B (some ⟨g6, 0, none⟩) n6 cap6 (cs5 ++ [(700, 0, [122, 122, 65 + (a : Int), 65 + (b : Int)])])) := hown6
      have HR6 : Hid (RdIn w6 R p c xs (rdN xs j)) := (HR3.out.below HB5.out HR3.out.lt).below hb6 HRB.out.1
      have HB6 : Hid (Below R w w6) := (HB3.out.trans (HB5.out.mono (Nat.le_of_lt HR3.out.lt))).trans (hb6.mono (Nat.le_of_lt HRB.out.1))
      have HBZ6 : Hid (B ≤ w6.heap.size) := Nat.le_trans HBZ3.out (Nat.le_trans HB5.out.size hb6.size)
      have hn6' := hn6.out
      have HG6 : Hid (growF xs (202 - n6) (cs5 ++ [(700, 0, [122, 122, 65 + (a : Int), 65 + (b : Int)])]) (rdN xs j) = spoilF xs cs i) := by show _ = _; rw [hn6']; exact HNX.out
      clear hown6 hb6 hn6 HOT HBX HB5 HB4 HNX HO3 HR3 HB3 HBZ3
      go_wp2_with fail
      go_roundw
      case rel => exact ⟨n6, cap6, _, _, _, rfl, by omega, HG6, HO6, HR6, HB6, HBZ6⟩
      case measure => simp [slLen]; omega
    · have hlt' : ¬ (n5 : Int) < 200 + (z : Int) := by omega
      have HE : Hid (spoilF xs cs i = (cs5, rdN xs j)) := by
        show _ = _
        rw [← HG.out, show 202 - n5 = (202 - (n5 + 1)) + 1 by omega, growF_at, HZ.out, ← HN5.out, if_neg hlt]
      have HF : Hid (SpoilOut w R p c xs (spoilF xs cs i) (.returned (.slice p5 n5 c5)) w3) := by
        show SpoilOut _ _ _ _ _ _ _ _
        rw [HE.out]
        exact ⟨_, _, _, rfl, HN5.out, HO3.out.stay HRB.out.1, HR3.out, HB3.out⟩
      clear HE HO3 HB3 HR3 HG HZ
      go_wp2_with fail
      go_ret
      exact HF.out

end Go.Proofs.YtbfhpnacoigfkaaDoor

namespace Go.Proofs.YtbfhpnacoigfkaaDoor
open Go Go.RowKit
set_option linter.unusedVariables false

theorem okC_pos {c : Cel} (h : okC c = true) : 0 < c.2.2.length := by
  simp only [okC, okB, Bool.and_eq_true, decide_eq_true_eq] at h
  exact h.1.1
theorem tab_pos {cs : List Cel} (h : tabB cs = true) : 0 < cs.length := by
  obtain ⟨_, _, h3⟩ := tab_chain h
  obtain ⟨c, hc, _⟩ := List.any_eq_true.1 h3
  exact List.length_pos_of_mem hc
theorem spoil_any (R c i B : Nat) (p : Option Addr) (xs : List Int) (q : Option Addr) (n cap : Nat) (cs : List Cel) (w : World) (h : RdIn w R p c xs i) (hown : OwnP w B q n cap cs) (hR : R < B) (ht : tabB cs = true) :
    Calls Tryd.prog 26 #[.slice q n cap, .pointer (some ⟨R, 0, none⟩)] w (SpoilOut w R p c xs (spoilF xs cs i)) := by
  have h0 := tab_pos ht
  have h2 := tab_small ht
  have hne : ∀ c ∈ cs, 0 < c.2.2.length ∧ c.2.2.length ≤ 1000 := fun x hx => by
    have hk := chain_ok cs none (tab_chain ht).2.1 x hx
    have := okC_len hk
    exact ⟨okC_pos hk, by omega⟩
  have hk : (rdI xs i).toNat % 8 < 8 := Nat.mod_lt _ (by decide)
  generalize e : (rdI xs i).toNat % 8 = k at hk
  have h8 : k = 0 ∨ k = 1 ∨ k = 2 ∨ k = 3 ∨ k = 4 ∨ k = 5 ∨ k = 6 ∨ k = 7 := by omega
  rcases h8 with rfl | rfl | rfl | rfl | rfl | rfl | rfl | rfl
  · exact spoil0_any R c i B p xs q n cap cs w h hown hR h0 h2 e
  · exact spoil1_any R c i B p xs q n cap cs w h hown hR h0 h2 e
  · exact spoil2_any R c i B p xs q n cap cs w h hown hR h0 h2 e
  · exact spoil3_any R c i B p xs q n cap cs w h hown hR h0 h2 e
  · exact spoil4_any R c i B p xs q n cap cs w h hown hR h0 h2 e
  · exact spoil5_any R c i B p xs q n cap cs w h hown hR h0 h2 e
  · exact spoil6_any R c i B p xs q n cap cs w h hown hR h0 h2 hne e
  · exact spoil7_any R c i B p xs q n cap cs w h hown hR h0 h2 e

/-- What a drawn table keeps to: at most 202 operators with names of at most 101 bytes. -/
def Mod (cs : List Cel) : Prop := cs.length ≤ 202 ∧ ∀ x ∈ cs, Byte x.2.2 ∧ x.2.2.length ≤ 101
theorem tl_most : ∀ (cs : List Cel), (∀ c ∈ cs, c.2.2.length ≤ 101) → tl cs ≤ 101 * cs.length
  | [], _ => by simp [tl]
  | c :: r, h => by
    have h1 := tl_most r (fun x hx => h x (List.mem_cons_of_mem _ hx))
    have h2 := h c (List.mem_cons_self ..)
    have h3 : tl (c :: r) = c.2.2.length + tl r := by simp [tl]
    rw [h3, List.length_cons]; omega
theorem Mod.small {cs : List Cel} (h : Mod cs) : cs.length + tl cs ≤ 100000 := by
  have := tl_most cs (fun c hc => (h.2 c hc).2)
  have := h.1
  omega
theorem mod_tab {cs : List Cel} (h : tabB cs = true) (hb : ∀ x ∈ cs, Byte x.2.2) : Mod cs := ⟨by have := tab_small h; omega, fun x hx => ⟨hb x hx, by have := okC_len (chain_ok cs none (tab_chain h).2.1 x hx); omega⟩⟩
theorem byteB {ys : List Int} (h : ∀ x ∈ ys, 0 ≤ x ∧ x < 256) : Byte ys := h
theorem mem_set {cs : List Cel} {m : Nat} {c x : Cel} (h : x ∈ cs.set m c) : x = c ∨ x ∈ cs := by
  rcases List.mem_or_eq_of_mem_set h with h | h
  · exact .inr h
  · exact .inl h
theorem grow_mod (xs : List Int) : ∀ (f : Nat) (cs : List Cel) (j : Nat), (∀ x ∈ cs, Byte x.2.2 ∧ x.2.2.length ≤ 101) → cs.length ≤ 201 → Mod (growF xs f cs j).1
  | 0, cs, j, h, hl => ⟨by show cs.length ≤ 202; omega, h⟩
  | f + 1, cs, j, h, hl => by
    unfold growF
    split
    · rename_i hlt
      have hz : (rdI xs j).toNat % 2 < 2 := Nat.mod_lt _ (by decide)
      refine grow_mod xs f _ _ (fun x hx => ?_) (by simp; omega)
      rcases List.mem_append.1 hx with hx | hx
      · exact h x hx
      · rw [List.mem_singleton] at hx
        subst hx
        refine ⟨fun y hy => ?_, by simp [newOp]⟩
        simp only [newOp, List.mem_cons, List.not_mem_nil, or_false] at hy
        have h1 : cs.length / 26 < 8 := by omega
        have h2 : cs.length % 26 < 26 := Nat.mod_lt _ (by decide)
        rcases hy with rfl | rfl | rfl | rfl <;> omega
    · exact ⟨by show cs.length ≤ 202; omega, h⟩
theorem spoil_mod {xs : List Int} {cs : List Cel} {i : Nat} (ht : tabB cs = true) (hb : ∀ x ∈ cs, Byte x.2.2) : Mod (spoilF xs cs i).1 := by
  obtain ⟨h1, h2⟩ := mod_tab ht hb
  have hs := tab_small ht
  have hm : (rdI xs (rdN xs i)).toNat % cs.length < cs.length := Nat.mod_lt _ (tab_pos ht)
  have hc : cs.getD ((rdI xs (rdN xs i)).toNat % cs.length) Cel.none ∈ cs := by rw [List.getD, List.getElem?_eq_getElem hm]; exact List.getElem_mem hm
  have hcl := okC_len (chain_ok cs none (tab_chain ht).2.1 _ hc)
  have hcb := hb _ hc
  unfold spoilF
  generalize (rdI xs (rdN xs i)).toNat % cs.length = m at hm hc hcl hcb ⊢
  simp only
  split
  · exact ⟨by simp; omega, fun x hx => (mem_set hx).elim (fun e => by subst e; exact ⟨hcb, Nat.le_trans hcl (by omega)⟩) (h2 x)⟩
  split
  · exact ⟨by simp; omega, fun x hx => (mem_set hx).elim (fun e => by subst e; exact ⟨hcb, Nat.le_trans hcl (by omega)⟩) (h2 x)⟩
  split
  · exact ⟨by simp; omega, fun x hx => (mem_set hx).elim (fun e => by subst e; exact ⟨fun y hy => by simp at hy; omega, by simp⟩) (h2 x)⟩
  split
  · exact ⟨by simp; omega, fun x hx => (mem_set hx).elim (fun e => by subst e; exact ⟨fun y hy => by simp at hy, by simp⟩) (h2 x)⟩
  split
  · refine ⟨by simp; omega, fun x hx => ?_⟩
    rcases List.mem_append.1 hx with hx | hx
    · exact h2 x hx
    · rw [List.mem_singleton] at hx; subst hx; exact h2 _ hc
  split
  · refine ⟨by simp; omega, fun x hx => ?_⟩
    rcases List.mem_append.1 hx with hx | hx
    · exact h2 x (List.mem_of_mem_take hx)
    · exact h2 x (List.mem_of_mem_drop hx)
  split
  · refine ⟨by simp; omega, fun x hx => (mem_set hx).elim (fun e => ?_) (h2 x)⟩
    subst e
    refine ⟨fun y hy => ?_, by rw [List.length_append]; exact Nat.add_le_add_right hcl 1⟩
    rcases List.mem_append.1 hy with hy | hy
    · exact hcb y hy
    · rw [List.mem_singleton] at hy; omega
  · exact grow_mod xs _ cs _ h2 (by omega)

end Go.Proofs.YtbfhpnacoigfkaaDoor

namespace Go.Proofs.YtbfhpnacoigfkaaDoor
open Go Go.RowKit
set_option linter.unusedVariables false

/-- The table that DrawAddOp draws, and the reader's place behind it. -/
def tabF (xs : List Int) : List Cel × Nat :=
  if (rdI xs 0).toNat % 16 = 0 then spoilF xs (opsF xs (rdN xs 0)).1 (opsF xs (rdN xs 0)).2 else opsF xs (rdN xs 0)
def priF (xs : List Int) : Int := if (rdI xs 0).toNat = 1 then -1 else (rdI xs (tabF xs).2).toNat * 5
def typF (xs : List Int) : Int := if (rdI xs 0).toNat = 2 then 7 else ((rdI xs (rdN xs (tabF xs).2)).toNat % 7 : Nat)
def namF (xs : List Int) : List Int := numsU (nameAt (rdI xs (rdN xs (rdN xs (tabF xs).2))).toNat)
theorem nm2_byte (a : Nat) : Byte (numsU (nm2U.getD (a % 14) [])) := byte_numsU _
theorem dTab_byte : ∀ x ∈ dTab, Byte x.2.2 := by
  have : ∀ x ∈ dTab, ∀ y ∈ x.2.2, 0 ≤ y ∧ y < 256 := by decide +kernel
  exact this
theorem putO_byte {cs : List Cel} {o : Cel} (h : ∀ x ∈ cs, Byte x.2.2) (ho : Byte o.2.2) : ∀ x ∈ putO cs o, Byte x.2.2 := fun x hx => by
  rcases (putO_mem x).1 hx with ⟨_, rfl⟩ | ⟨hx, _⟩
  · exact ho
  · exact h x hx
theorem step_byte {xs : List Int} {s : List Cel × Nat} (h : ∀ x ∈ s.1, Byte x.2.2) : ∀ x ∈ (stepO xs s).1, Byte x.2.2 := by
  unfold stepO
  simp only
  split
  · rename_i h0
    rw [(took_of h0).2]
    exact putO_byte h (byte_numsU _)
  · exact h
theorem iter_byte {xs : List Int} : ∀ (k : Nat) {s : List Cel × Nat}, (∀ x ∈ s.1, Byte x.2.2) → ∀ x ∈ (iterO xs k s).1, Byte x.2.2
  | 0, _, h => h
  | k + 1, _, h => iter_byte k (step_byte h)
theorem opsF_byte (xs : List Int) (i : Nat) : ∀ x ∈ (opsF xs i).1, Byte x.2.2 := by
  unfold opsF
  split
  · exact iter_byte _ (putO_byte (fun x hx => by cases hx) (fun y hy => by simp at hy; omega))
  · exact iter_byte _ dTab_byte
theorem tabF_mod (xs : List Int) : Mod (tabF xs).1 := by
  unfold tabF
  split
  · exact spoil_mod (opsF_tab _ _) (opsF_byte _ _)
  · exact mod_tab (opsF_tab _ _) (opsF_byte _ _)

theorem results_tmp4 {fn : Func} {t u v x : Tmp} (h : fn.results = #[.tmp t, .tmp u, .tmp v, .tmp x]) (tmps : Array Value) (P : Program) (w : World) :
    (results fn tmps).run P w = .ok (.tuple #[tmps.getD t undef, tmps.getD u undef, tmps.getD v undef, tmps.getD x undef]) w := by
  simp [results, h, go_sem]
def DrawOut (w : World) (xs : List Int) (e : Ending) (w' : World) : Prop :=
  ∃ q n cap qn ln cn, e = .returned (.tuple #[.slice q n cap, .int .i64 (priF xs), .int .i64 (typF xs), .slice qn ln cn]) ∧ n = (tabF xs).1.length ∧ OIn w' q (tabF xs).1 ∧ ln = (namF xs).length ∧ BIn w' qn (namF xs) ∧ Below w.heap.size w w'

set_option maxRecDepth 100000 in
set_option maxHeartbeats 4000000 in
theorem drawAdd_any (p : Option Addr) (c : Nat) (ys : List Int) (w : World) (hb : Bytes ys) (hn : ys.length ≤ 1048576) (hc : ys.length ≤ c) (hx : BIn w p ys) :
    Calls Tryd.prog 10 #[.slice p ys.length c] w (DrawOut w (ys.take 500)) := by
  have HOP := l4open_any p c ys w hb hn hc hx
  obtain ⟨xs, exs⟩ : ∃ xs, xs = ys.take 500 := ⟨_, rfl⟩
  rw [← exs] at HOP ⊢
  obtain ⟨R, eR⟩ : ∃ R, R = w.heap.size := ⟨_, rfl⟩
  rw [← eR] at HOP
  have HRW : Hid (R = w.heap.size) := eR
  clear hb hn hc hx exs eR
  go_enter Tryd.func10, Tryd.ntmps10
  go_wp2_with fail
  refine HOP.mono ?_
  rintro e w1 ⟨rfl, hb1, hs1, hR1⟩
  obtain ⟨k, ek, ek', hk, hnk⟩ := next_nat R c 0 p xs w1 hR1
  have HB1 : Hid (Below R w w1) := hb1
  have HK : Hid ((rdI xs 0).toNat = k) := ek
  have HS1 : Hid (w1.heap.size = R + 1) := hs1
  clear HOP hb1 hs1 hR1 ek ek'
  go_wp2_with fail
  refine hnk.mono ?_
  rintro e w2 ⟨rfl, hk2, hs2, hR2⟩
  have HB2 : Hid (Below R w w2) := HB1.out.trans (hk2.below (Nat.le_refl _) (by rw [HS1.out]; omega))
  have HLO := l4ops_any R c (rdN xs 0) p xs w2 hR2
  have HS2 : Hid (w2.heap.size = R + 1) := by show _ = _; rw [hs2]; exact HS1.out
  clear hnk hk2 hs2 hR2 HB1 HS1
  go_wp2_with fail
  refine HLO.mono ?_
  rintro e w3 ⟨q3, n3, c3, rfl, hk3, hR3, hO3⟩
  have HB3 : Hid (Below R w w3) := HB2.out.trans (hk3.below (Nat.le_refl _) (by rw [HS2.out]; omega))
  have HO3 : Hid (OwnP w3 (R + 1) q3 n3 c3 (opsF xs (rdN xs 0)).1) := by rw [← HS2.out]; exact hO3
  have HR3 : Hid (RdIn w3 R p c xs (opsF xs (rdN xs 0)).2) := hR3
  have HSP := spoil_any R c (opsF xs (rdN xs 0)).2 (R + 1) p xs q3 n3 c3 (opsF xs (rdN xs 0)).1 w3 hR3 HO3.out (by omega) (opsF_tab _ _)
  have hkm := tmod_nat k 16
  by_cases h16 : k % 16 = 0
  · have hk16 : (k : Int).tmod 16 = 0 := by rw [h16] at hkm; exact hkm
    have HTF : Hid (tabF xs = spoilF xs (opsF xs (rdN xs 0)).1 (opsF xs (rdN xs 0)).2) := by show _ = _; rw [tabF, HK.out, if_pos h16]
    have hK1 : ¬ k = 1 := by omega
    have hK2 : ¬ k = 2 := by omega
    clear hkm h16 HO3
    go_wp2_with fail
    refine HSP.mono ?_
    rw [← HTF.out]
    rintro e wt ⟨qt, nt, ct, rfl, hnt, hst, hrt, hbt0⟩
    have HTN : Hid (nt = (tabF xs).1.length) := hnt
    have HST : Hid (OStay R wt qt (tabF xs).1) := hst
    have HRT : Hid (RdIn wt R p c xs (tabF xs).2) := hrt
    have HBT : Hid (Below R w wt) := HB3.out.trans hbt0
    clear HSP hnt hst hrt hbt0 HB3 HR3 HTF
    have hk1 : ((k : Int) == 1) = false := by simp; omega
    have hk2 : ((k : Int) == 2) = false := by simp; omega
    obtain ⟨a, ea, ea', ha, hna⟩ := next_nat R c (tabF xs).2 p xs wt HRT.out
    have HPR : Hid (priF xs = ((a : Int) * 5)) := by show _ = _; rw [priF, HK.out, if_neg hK1, ea]
    clear ea ea'
    go_wp2_with fail
    refine hna.mono ?_
    rintro e w5 ⟨rfl, hk5, hs5, hR5⟩
    have HST5 : Hid (OStay R w5 qt (tabF xs).1) := HST.out.keep hk5
    have HBT5 : Hid (Below R w w5) := HBT.out.trans (hk5.below (Nat.le_refl _) (Nat.le_of_lt HRT.out.lt))
    obtain ⟨b, eb, eb', hb', hnb⟩ := next_nat R c (rdN xs (tabF xs).2) p xs w5 hR5
    obtain ⟨t, et⟩ : ∃ t, t = b % 7 := ⟨_, rfl⟩
    have hbt : (b : Int).tmod 7 = (t : Int) := by rw [et]; exact tmod_nat b 7
    have ht7 : t < 7 := by omega
    have HTY : Hid (typF xs = (t : Int)) := by show _ = _; rw [typF, HK.out, if_neg hK2, eb, ← et]
    have HL5 : Hid (R < w5.heap.size) := hR5.lt
    clear hna hk5 hs5 hR5 eb eb' et HST HBT HRT
    go_wp2_with fail
    refine hnb.mono ?_
    rintro e w6 ⟨rfl, hk6, hs6, hR6⟩
    have HST6 : Hid (OStay R w6 qt (tabF xs).1) := HST5.out.keep hk6
    have HBT6 : Hid (Below R w w6) := HBT5.out.trans (hk6.below (Nat.le_refl _) (Nat.le_of_lt HL5.out))
    have HNA := l4name_any R c (rdN xs (rdN xs (tabF xs).2)) p xs w6 hR6
    have HL6 : Hid (R < w6.heap.size) := hR6.lt
    clear hnb hk6 hs6 hR6 HST5 HBT5 HL5
    go_wp2_with fail
    refine HNA.mono ?_
    rintro e w7 ⟨g7, n7, c7, rfl, hn7, hk7, hR7, hg7, hot7⟩
    have HF : Hid (DrawOut w xs (.returned (.tuple #[.slice qt nt ct, .int .i64 ((a : Int) * 5), .int .i64 (t : Int), .slice (some ⟨g7, 0, none⟩) n7 c7])) w7) :=
      ⟨qt, nt, ct, _, n7, c7, by rw [HPR.out, HTY.out], HTN.out, HST6.out w7 hk7, hn7, hot7.bin, by rw [← HRW.out]; exact HBT6.out.trans (hk7.below (Nat.le_refl _) (Nat.le_of_lt HL6.out))⟩
    clear HNA hn7 hk7 hR7 hg7 hot7 HST6 HBT6
    go_wp2_with fail
    refine bodyPost_ret (results_tmp4 rfl _ _ _) rfl ?_
    exact HF.out
  · obtain ⟨k16, e16⟩ : ∃ x, x = k % 16 := ⟨_, rfl⟩
    have hk16 : (k : Int).tmod 16 = (k16 : Int) := by rw [e16]; exact hkm
    have hk0 : ((k16 : Int) == 0) = false := by simp; omega
    have HTF : Hid (tabF xs = opsF xs (rdN xs 0)) := by show _ = _; rw [tabF, HK.out, if_neg h16]
    have HTN : Hid (n3 = (tabF xs).1.length) := by show _ = _; rw [HTF.out]; exact HO3.out.1
    have HST : Hid (OStay R w3 q3 (tabF xs).1) := by rw [HTF.out]; exact HO3.out.stay (by omega)
    have HRT : Hid (RdIn w3 R p c xs (tabF xs).2) := by rw [HTF.out]; exact HR3.out
    have HBT : Hid (Below R w w3) := HB3.out
    clear HSP hkm h16 e16 HO3 HB3 HR3 HTF
    by_cases hK1 : k = 1
    · have hK2 : ¬ k = 2 := by omega
      have HK1 : Hid (k = 1) := hK1
      have hk1 : ((k : Int) == 1) = true := by simp; omega
      have hk2 : ((k : Int) == 2) = false := by simp; omega
      obtain ⟨a, ea, ea', ha, hna⟩ := next_nat R c (tabF xs).2 p xs w3 HRT.out
      have HPR : Hid (priF xs = (-1)) := by show _ = _; rw [priF, HK.out, if_pos hK1]
      clear ea ea'
      go_wp2_with fail
      refine hna.mono ?_
      rintro e w5 ⟨rfl, hk5, hs5, hR5⟩
      have HST5 : Hid (OStay R w5 q3 (tabF xs).1) := HST.out.keep hk5
      have HBT5 : Hid (Below R w w5) := HBT.out.trans (hk5.below (Nat.le_refl _) (Nat.le_of_lt HRT.out.lt))
      obtain ⟨b, eb, eb', hb', hnb⟩ := next_nat R c (rdN xs (tabF xs).2) p xs w5 hR5
      obtain ⟨t, et⟩ : ∃ t, t = b % 7 := ⟨_, rfl⟩
      have hbt : (b : Int).tmod 7 = (t : Int) := by rw [et]; exact tmod_nat b 7
      have ht7 : t < 7 := by omega
      have HTY : Hid (typF xs = (t : Int)) := by show _ = _; rw [typF, HK.out, if_neg hK2, eb, ← et]
      have HL5 : Hid (R < w5.heap.size) := hR5.lt
      clear hna hk5 hs5 hR5 eb eb' et HST HBT HRT
      go_wp2_with fail
      refine hnb.mono ?_
      rintro e w6 ⟨rfl, hk6, hs6, hR6⟩
      have HST6 : Hid (OStay R w6 q3 (tabF xs).1) := HST5.out.keep hk6
      have HBT6 : Hid (Below R w w6) := HBT5.out.trans (hk6.below (Nat.le_refl _) (Nat.le_of_lt HL5.out))
      have HNA := l4name_any R c (rdN xs (rdN xs (tabF xs).2)) p xs w6 hR6
      have HL6 : Hid (R < w6.heap.size) := hR6.lt
      clear hnb hk6 hs6 hR6 HST5 HBT5 HL5
      go_wp2_with fail
      refine HNA.mono ?_
      rintro e w7 ⟨g7, n7, c7, rfl, hn7, hk7, hR7, hg7, hot7⟩
      have HF : Hid (DrawOut w xs (.returned (.tuple #[.slice q3 n3 c3, .int .i64 (-1), .int .i64 (t : Int), .slice (some ⟨g7, 0, none⟩) n7 c7])) w7) :=
        ⟨q3, n3, c3, _, n7, c7, by rw [HPR.out, HTY.out], HTN.out, HST6.out w7 hk7, hn7, hot7.bin, by rw [← HRW.out]; exact HBT6.out.trans (hk7.below (Nat.le_refl _) (Nat.le_of_lt HL6.out))⟩
      clear HNA hn7 hk7 hR7 hg7 hot7 HST6 HBT6
      go_wp2_with fail
      refine bodyPost_ret (results_tmp4 rfl _ _ _) rfl ?_
      exact HF.out
    · by_cases hK2 : k = 2
      · have hk1 : ((k : Int) == 1) = false := by simp; omega
        have hk2 : ((k : Int) == 2) = true := by simp; omega
        obtain ⟨a, ea, ea', ha, hna⟩ := next_nat R c (tabF xs).2 p xs w3 HRT.out
        have HPR : Hid (priF xs = ((a : Int) * 5)) := by show _ = _; rw [priF, HK.out, if_neg hK1, ea]
        clear ea ea'
        go_wp2_with fail
        refine hna.mono ?_
        rintro e w5 ⟨rfl, hk5, hs5, hR5⟩
        have HST5 : Hid (OStay R w5 q3 (tabF xs).1) := HST.out.keep hk5
        have HBT5 : Hid (Below R w w5) := HBT.out.trans (hk5.below (Nat.le_refl _) (Nat.le_of_lt HRT.out.lt))
        obtain ⟨b, eb, eb', hb', hnb⟩ := next_nat R c (rdN xs (tabF xs).2) p xs w5 hR5
        obtain ⟨t, et⟩ : ∃ t, t = b % 7 := ⟨_, rfl⟩
        have hbt : (b : Int).tmod 7 = (t : Int) := by rw [et]; exact tmod_nat b 7
        have ht7 : t < 7 := by omega
        have HTY : Hid (typF xs = 7) := by show _ = _; rw [typF, HK.out, if_pos hK2]
        have HL5 : Hid (R < w5.heap.size) := hR5.lt
        clear hna hk5 hs5 hR5 eb eb' et HST HBT HRT
        go_wp2_with fail
        refine hnb.mono ?_
        rintro e w6 ⟨rfl, hk6, hs6, hR6⟩
        have HST6 : Hid (OStay R w6 q3 (tabF xs).1) := HST5.out.keep hk6
        have HBT6 : Hid (Below R w w6) := HBT5.out.trans (hk6.below (Nat.le_refl _) (Nat.le_of_lt HL5.out))
        have HNA := l4name_any R c (rdN xs (rdN xs (tabF xs).2)) p xs w6 hR6
        have HL6 : Hid (R < w6.heap.size) := hR6.lt
        clear hnb hk6 hs6 hR6 HST5 HBT5 HL5
        go_wp2_with fail
        refine HNA.mono ?_
        rintro e w7 ⟨g7, n7, c7, rfl, hn7, hk7, hR7, hg7, hot7⟩
        have HF : Hid (DrawOut w xs (.returned (.tuple #[.slice q3 n3 c3, .int .i64 ((a : Int) * 5), .int .i64 7, .slice (some ⟨g7, 0, none⟩) n7 c7])) w7) :=
          ⟨q3, n3, c3, _, n7, c7, by rw [HPR.out, HTY.out], HTN.out, HST6.out w7 hk7, hn7, hot7.bin, by rw [← HRW.out]; exact HBT6.out.trans (hk7.below (Nat.le_refl _) (Nat.le_of_lt HL6.out))⟩
        clear HNA hn7 hk7 hR7 hg7 hot7 HST6 HBT6
        go_wp2_with fail
        refine bodyPost_ret (results_tmp4 rfl _ _ _) rfl ?_
        exact HF.out
      · have hk1 : ((k : Int) == 1) = false := by simp; omega
        have hk2 : ((k : Int) == 2) = false := by simp; omega
        obtain ⟨a, ea, ea', ha, hna⟩ := next_nat R c (tabF xs).2 p xs w3 HRT.out
        have HPR : Hid (priF xs = ((a : Int) * 5)) := by show _ = _; rw [priF, HK.out, if_neg hK1, ea]
        clear ea ea'
        go_wp2_with fail
        refine hna.mono ?_
        rintro e w5 ⟨rfl, hk5, hs5, hR5⟩
        have HST5 : Hid (OStay R w5 q3 (tabF xs).1) := HST.out.keep hk5
        have HBT5 : Hid (Below R w w5) := HBT.out.trans (hk5.below (Nat.le_refl _) (Nat.le_of_lt HRT.out.lt))
        obtain ⟨b, eb, eb', hb', hnb⟩ := next_nat R c (rdN xs (tabF xs).2) p xs w5 hR5
        obtain ⟨t, et⟩ : ∃ t, t = b % 7 := ⟨_, rfl⟩
        have hbt : (b : Int).tmod 7 = (t : Int) := by rw [et]; exact tmod_nat b 7
        have ht7 : t < 7 := by omega
        have HTY : Hid (typF xs = (t : Int)) := by show _ = _; rw [typF, HK.out, if_neg hK2, eb, ← et]
        have HL5 : Hid (R < w5.heap.size) := hR5.lt
        clear hna hk5 hs5 hR5 eb eb' et HST HBT HRT
        go_wp2_with fail
        refine hnb.mono ?_
        rintro e w6 ⟨rfl, hk6, hs6, hR6⟩
        have HST6 : Hid (OStay R w6 q3 (tabF xs).1) := HST5.out.keep hk6
        have HBT6 : Hid (Below R w w6) := HBT5.out.trans (hk6.below (Nat.le_refl _) (Nat.le_of_lt HL5.out))
        have HNA := l4name_any R c (rdN xs (rdN xs (tabF xs).2)) p xs w6 hR6
        have HL6 : Hid (R < w6.heap.size) := hR6.lt
        clear hnb hk6 hs6 hR6 HST5 HBT5 HL5
        go_wp2_with fail
        refine HNA.mono ?_
        rintro e w7 ⟨g7, n7, c7, rfl, hn7, hk7, hR7, hg7, hot7⟩
        have HF : Hid (DrawOut w xs (.returned (.tuple #[.slice q3 n3 c3, .int .i64 ((a : Int) * 5), .int .i64 (t : Int), .slice (some ⟨g7, 0, none⟩) n7 c7])) w7) :=
          ⟨q3, n3, c3, _, n7, c7, by rw [HPR.out, HTY.out], HTN.out, HST6.out w7 hk7, hn7, hot7.bin, by rw [← HRW.out]; exact HBT6.out.trans (hk7.below (Nat.le_refl _) (Nat.le_of_lt HL6.out))⟩
        clear HNA hn7 hk7 hR7 hg7 hot7 HST6 HBT6
        go_wp2_with fail
        refine bodyPost_ret (results_tmp4 rfl _ _ _) rfl ?_
        exact HF.out

end Go.Proofs.YtbfhpnacoigfkaaDoor

namespace Go.Proofs.YtbfhpnacoigfkaaDoor
open Go Go.RowKit
set_option linter.unusedVariables false

theorem nmU_len : ∀ j : Nat, (nmU.getD j []).length ≤ 20 := fun j => by
  have h : ∀ l ∈ nmU, l.length ≤ 20 := by decide
  rw [List.getD]
  cases hj : nmU[j]? with
  | none => simp
  | some l => exact h l (List.mem_of_getElem? hj)
theorem namF_len (xs : List Int) : (namF xs).length ≤ 20 := by
  have := nmU_len (if (rdI xs (rdN xs (rdN xs (tabF xs).2))).toNat < 180 then (rdI xs (rdN xs (rdN xs (tabF xs).2))).toNat % 6 else (rdI xs (rdN xs (rdN xs (tabF xs).2))).toNat % 28)
  simpa [namF, nameAt, numsU] using this
def AddsE (W : World) (r : List Cel × Int) (e : Ending) (w' : World) : Prop := ∃ p n c, e = .returned (.tuple #[.slice p n c, .int .i64 r.2]) ∧ n = r.1.length ∧ OIn w' p r.1 ∧ Below W.heap.size W w'

set_option maxRecDepth 100000 in
set_option maxHeartbeats 4000000 in
theorem lawOps_any (p : Option Addr) (cap : Nat) (ys : List Int) (w : World) (hb : Bytes ys) (hc : ys.length ≤ cap) (hm : ys.length ≤ 9223372036854775807) (hx : BIn w p ys) (hT : SpIn w) :
    Calls Tryd.prog 4 #[.slice p ys.length cap] w fun e w' => e = .returned (.bool true) ∧ Below w.heap.size w w' := by
  by_cases hbig : 1048576 < ys.length
  · obtain ⟨l, el⟩ : ∃ l, l = ys.length := ⟨_, rfl⟩
    rw [← el] at hbig hm ⊢
    have hbig' : (1048576 : Int) < (l : Int) := by omega
    clear el hb hc hx hT
    go_enter Tryd.func4, Tryd.ntmps4
    go_wp2_with fail
    go_ret
    exact ⟨rfl, Below.refl _ _⟩
  have HD : Hid (∀ W, Below w.heap.size w W → Calls Tryd.prog 10 #[.slice p ys.length cap] W (DrawOut W (ys.take 500))) := fun W hW => drawAdd_any p cap ys W hb (by omega) hc (hx.below hW)
  obtain ⟨xs, exs⟩ : ∃ xs, xs = ys.take 500 := ⟨_, rfl⟩
  rw [← exs] at HD
  unfold DrawOut at HD
  have hmod := tabF_mod xs
  have hnl := namF_len xs
  have hnb : Byte (namF xs) := byte_numsU _
  obtain ⟨cs, ecs⟩ : ∃ cs, cs = (tabF xs).1 := ⟨_, rfl⟩
  obtain ⟨nm, enm⟩ : ∃ nm, nm = namF xs := ⟨_, rfl⟩
  obtain ⟨k, ek⟩ : ∃ k, k = priF xs := ⟨_, rfl⟩
  obtain ⟨t, et⟩ : ∃ t, t = typF xs := ⟨_, rfl⟩
  rw [← ecs, ← enm, ← ek, ← et] at HD
  rw [← ecs] at hmod
  rw [← enm] at hnl hnb
  have hsm := hmod.small
  have HBY : Hid (∀ x ∈ cs, Byte x.2.2) := fun x hx => (hmod.2 x hx).1
  have HSM : Hid (cs.length + tl cs ≤ 100000) := hsm
  have HNB : Hid (Byte nm ∧ nm.length ≤ 20) := ⟨hnb, hnl⟩
  have HSA : Hid (∀ (W : World) (q qn : Option Addr) (c1 c2 n1 l1 : Nat), n1 = cs.length → l1 = nm.length → OIn W q cs → BIn W qn nm → Calls Tryd.prog 11 #[.slice q n1 c1, .int .i64 k, .int .i64 t, .slice qn l1 c2] W (AddsE W (addR cs k t nm))) := fun W q qn c1 c2 n1 l1 h1 h2 h3 h4 => by
    subst h1 h2
    refine (specAddP_any q c1 cs k t qn c2 nm W (by omega) h3 (by omega) h4).mono ?_
    rintro e w' ⟨p', n', c', rfl, ho, hb'⟩
    exact ⟨p', n', c', rfl, ho.1, ho.toO.oin, hb'⟩
  have HIA : Hid (∀ (ds : List Cel) (kk : Int) (W : World) (q qn : Option Addr) (c1 c2 n1 l1 : Nat), ds.length + tl ds ≤ 10000000 → (∀ x ∈ ds, Byte x.2.2) → n1 = ds.length → l1 = nm.length → OIn W q ds → BIn W qn nm → Calls Tryd.prog 12 #[.slice q n1 c1, .int .i64 kk, .int .i64 t, .slice qn l1 c2] W (AddsE W (addR ds kk t nm))) := fun ds kk W q qn c1 c2 n1 l1 h0 hby h1 h2 h3 h4 => by
    subst h1 h2
    refine (implAdd_any q c1 ds kk t qn c2 nm W (by omega) h3 hby hnb (by omega) h4).mono ?_
    rintro e w' ⟨p', n', c', rfl, ho, hb'⟩
    exact ⟨p', n', c', rfl, ho.1, ho.oin, hb'⟩
  have HSO : Hid (∀ (ds : List Cel) (W : World) (q1 q2 : Option Addr) (c1 c2 n1 n2 : Nat), ds.length + tl ds ≤ 10000000 → n1 = ds.length → n2 = ds.length → OIn W q1 ds → OIn W q2 ds → Calls Tryd.prog 13 #[.slice q1 n1 c1, .slice q2 n2 c2] W fun e w' => e = .returned (.bool true) ∧ Below W.heap.size W w') := fun ds W q1 q2 c1 c2 n1 n2 h0 h1 h2 h3 h4 => by
    subst h1; subst h2
    refine (sameOps_same q1 q2 c1 c2 ds W (by omega) h3 h4).mono ?_
    rintro e w' ⟨rfl, m, rfl⟩
    exact ⟨rfl, below_drewN (Below.refl _ _) m⟩
  have HVA : Hid (∀ (ds : List Cel) (W : World) (q : Option Addr) (c1 n1 : Nat), ds.length + tl ds ≤ 10000000 → tabB ds = true → n1 = ds.length → OIn W q ds → Calls Tryd.prog 14 #[.slice q n1 c1] W fun e w' => e = .returned (.bool true) ∧ Below W.heap.size W w') := fun ds W q c1 n1 h0 ht h1 h3 => by
    subst h1
    have := implTab_any q c1 ds W (by omega) h3
    rwa [ht] at this
  have HDE : Hid (∀ W, Below w.heap.size w W → Calls Tryd.prog 6 #[] W fun e w' => ∃ p n c, e = .returned (.slice p n c) ∧ n = dTab.length ∧ OIn w' p dTab ∧ Below W.heap.size W w') := fun W hW => by
    refine (implDef_any W (hT.below hW)).mono ?_
    rintro e w' ⟨p', n', c', rfl, ho, hb'⟩
    exact ⟨p', n', c', rfl, ho.1, ho.oin, hb'⟩
  obtain ⟨dd, edd⟩ : ∃ dd, dd = dTab := ⟨_, rfl⟩
  have HDD : Hid (tabB dd = true ∧ dd.length + tl dd ≤ 10000000) := by rw [edd]; exact ⟨tab_dTab, tab_tl tab_dTab⟩
  rw [← edd] at HDE
  obtain ⟨r, er⟩ : ∃ r, r = addR cs k t nm := ⟨_, rfl⟩
  have HRZ : Hid (r.1.length + tl r.1 ≤ 10000000) := by
    show _ ≤ _
    rw [er]
    by_cases h0 : (addR cs k t nm).2 = 0
    · obtain ⟨h1, h2⟩ := took_of h0
      rw [h2]; exact tab_tl (took_tab h1)
    · have hnil : (addR cs k t nm).1 = [] := by
        revert h0
        unfold addR
        split
        · intro _; rfl
        · split
          · intro _; rfl
          · split
            · intro _; rfl
            · intro h; exact absurd rfl h
      rw [hnil]; simp [tl]
  have HTK : Hid (r.2 = 0 → tabB r.1 = true ∧ (∀ x ∈ r.1, Byte x.2.2) ∧ addR r.1 k t nm = (r.1, 0) ∧ ∃ z, tabB z = true ∧ addR r.1 0 t nm = (z, 0) ∧ addR cs 0 t nm = (z, 0)) := by
    intro h0
    rw [er] at h0 ⊢
    obtain ⟨h1, h2⟩ := took_of h0
    rw [h2]
    obtain ⟨h3, h4⟩ := took_gone h1
    refine ⟨took_tab h1, putO_byte HBY.out hnb, took_again h1, _, ?_, h3, h4⟩
    have h5 : (addR cs 0 t nm).2 = 0 := by rw [h4]
    exact took_tab (took_of h5).1
  rw [← er] at HSA
  have HER : Hid (r = addR cs k t nm) := er
  obtain ⟨rl, rc⟩ := r
  have hlen' : ¬ (1048576 : Int) < (ys.length : Int) := by omega
  obtain ⟨l, el⟩ : ∃ l, l = ys.length := ⟨_, rfl⟩
  rw [← el] at HD hlen' hm ⊢
  clear el hb hc hx hT ecs enm ek et exs hmod hsm hnb hnl edd er hbig
  go_enter Tryd.func4, Tryd.ntmps4
  go_wp2_with fail
  refine (HD.out w (Below.refl _ _)).mono ?_
  rintro e w1 ⟨q1, n1, c1, qn1, l1, cn1, rfl, hn1, ho1, hl1, hbn1, hb1⟩
  have HB1 : Hid (Below w.heap.size w w1) := hb1
  have hsa := HSA.out w1 q1 qn1 c1 cn1 n1 l1 hn1 hl1 ho1 hbn1
  clear hn1 ho1 hl1 hbn1 hb1 HSA
  go_wp2_with fail
  refine hsa.mono ?_
  rintro e w2 ⟨p2, n2, c2, rfl, hn2, ho2, hb2⟩
  have HB2 : Hid (Below w.heap.size w w2) := Below.on HB1.out hb2
  have HO2 : Hid (n2 = rl.length ∧ OIn w2 p2 rl) := ⟨hn2, ho2⟩
  clear hsa hn2 ho2 hb2
  go_wp2_with fail
  refine (HD.out w2 HB2.out).mono ?_
  rintro e w3 ⟨q3, n3, c3, qn3, l3, cn3, rfl, hn3, ho3, hl3, hbn3, hb3⟩
  have HB3 : Hid (Below w.heap.size w w3) := Below.on HB2.out hb3
  have HO2' : Hid (n2 = rl.length ∧ OIn w3 p2 rl) := ⟨HO2.out.1, HO2.out.2.below hb3⟩
  have HO3 : Hid (n3 = cs.length ∧ OIn w3 q3 cs ∧ l3 = nm.length ∧ BIn w3 qn3 nm) := ⟨hn3, ho3, hl3, hbn3⟩
  have hia := HIA.out cs k w3 q3 qn3 c3 cn3 n3 l3 (by have := HSM.out; omega) HBY.out hn3 hl3 ho3 hbn3
  rw [← HER.out] at hia
  clear HD hn3 ho3 hl3 hbn3 hb3 HO2
  go_wp2_with fail
  refine hia.mono ?_
  rintro e w4 ⟨p4, n4, c4, rfl, hn4, ho4, hb4⟩
  have HB4 : Hid (Below w.heap.size w w4) := Below.on HB3.out hb4
  have HO4 : Hid (n4 = rl.length ∧ OIn w4 p4 rl) := ⟨hn4, ho4⟩
  have HO34 : Hid (n3 = cs.length ∧ OIn w4 q3 cs ∧ l3 = nm.length ∧ BIn w4 qn3 nm) := ⟨HO3.out.1, HO3.out.2.1.below hb4, HO3.out.2.2.1, HO3.out.2.2.2.below hb4⟩
  have hso := HSO.out rl w4 p4 p2 c4 c2 n4 n2 HRZ.out hn4 HO2'.out.1 ho4 (HO2'.out.2.below hb4)
  clear hia hn4 ho4 hb4 HO2' HO3
  go_wp2_with fail
  refine hso.mono ?_
  rintro e w5 ⟨rfl, hb5⟩
  have HB5 : Hid (Below w.heap.size w w5) := Below.on HB4.out hb5
  have HO5 : Hid (n4 = rl.length ∧ OIn w5 p4 rl) := ⟨HO4.out.1, HO4.out.2.below hb5⟩
  have HO35 : Hid (n3 = cs.length ∧ OIn w5 q3 cs ∧ l3 = nm.length ∧ BIn w5 qn3 nm) := ⟨HO34.out.1, HO34.out.2.1.below hb5, HO34.out.2.2.1, HO34.out.2.2.2.below hb5⟩
  have hde := HDE.out w5 HB5.out
  clear hso hb5 HO4 HO34 HDE
  go_wp2_with fail
  refine hde.mono ?_
  rintro e w6 ⟨p6, n6, c6, rfl, hn6, ho6, hb6⟩
  have HB6 : Hid (Below w.heap.size w w6) := Below.on HB5.out hb6
  have HO6 : Hid (n4 = rl.length ∧ OIn w6 p4 rl) := ⟨HO5.out.1, HO5.out.2.below hb6⟩
  have HO36 : Hid (n3 = cs.length ∧ OIn w6 q3 cs ∧ l3 = nm.length ∧ BIn w6 qn3 nm) := ⟨HO35.out.1, HO35.out.2.1.below hb6, HO35.out.2.2.1, HO35.out.2.2.2.below hb6⟩
  have hva := HVA.out dd w6 p6 c6 n6 HDD.out.2 HDD.out.1 hn6 ho6
  clear hde hn6 ho6 hb6 HO5 HO35
  go_wp2_with fail
  refine hva.mono ?_
  rintro e w7 ⟨rfl, hb7⟩
  have HB7 : Hid (Below w.heap.size w w7) := Below.on HB6.out hb7
  have HO7 : Hid (n4 = rl.length ∧ OIn w7 p4 rl) := ⟨HO6.out.1, HO6.out.2.below hb7⟩
  have HO37 : Hid (n3 = cs.length ∧ OIn w7 q3 cs ∧ l3 = nm.length ∧ BIn w7 qn3 nm) := ⟨HO36.out.1, HO36.out.2.1.below hb7, HO36.out.2.2.1, HO36.out.2.2.2.below hb7⟩
  clear hva hb7 HO6 HO36
  by_cases hrc : rc = 0
  · subst hrc
    obtain ⟨ht1, hb1', hr1, z, htz, hr2, hr3⟩ := HTK.out rfl
    have HT1 : Hid (tabB rl = true) := ht1
    have HTZ : Hid (tabB z = true) := htz
    have hia := HIA.out rl k w7 p4 qn3 c4 cn3 n4 l3 HRZ.out hb1' HO7.out.1 HO37.out.2.2.1 HO7.out.2 HO37.out.2.2.2
    rw [hr1] at hia
    have HR2 : Hid (addR rl 0 t nm = (z, 0)) := hr2
    have HR3 : Hid (addR cs 0 t nm = (z, 0)) := hr3
    have HB1' : Hid (∀ x ∈ rl, Byte x.2.2) := hb1'
    clear ht1 hb1' hr1 htz hr2 hr3 HTK HER
    go_wp2_with fail
    refine hia.mono ?_
    rintro e w8 ⟨p8, n8, c8, rfl, hn8, ho8, hb8⟩
    have HB8 : Hid (Below w.heap.size w w8) := Below.on HB7.out hb8
    have HO8 : Hid (n4 = rl.length ∧ OIn w8 p4 rl) := ⟨HO7.out.1, HO7.out.2.below hb8⟩
    have HO38 : Hid (n3 = cs.length ∧ OIn w8 q3 cs ∧ l3 = nm.length ∧ BIn w8 qn3 nm) := ⟨HO37.out.1, HO37.out.2.1.below hb8, HO37.out.2.2.1, HO37.out.2.2.2.below hb8⟩
    have HA8 : Hid (n8 = rl.length ∧ OIn w8 p8 rl) := ⟨hn8, ho8⟩
    have hia2 := HIA.out rl 0 w8 p4 qn3 c4 cn3 n4 l3 HRZ.out HB1'.out HO8.out.1 HO38.out.2.2.1 HO8.out.2 HO38.out.2.2.2
    rw [HR2.out] at hia2
    clear hia hn8 ho8 hb8 HO7 HO37
    go_wp2_with fail
    refine hia2.mono ?_
    rintro e w9 ⟨p9, n9, c9, rfl, hn9, ho9, hb9⟩
    have HB9 : Hid (Below w.heap.size w w9) := Below.on HB8.out hb9
    have HO9 : Hid (n4 = rl.length ∧ OIn w9 p4 rl) := ⟨HO8.out.1, HO8.out.2.below hb9⟩
    have HO39 : Hid (n3 = cs.length ∧ OIn w9 q3 cs ∧ l3 = nm.length ∧ BIn w9 qn3 nm) := ⟨HO38.out.1, HO38.out.2.1.below hb9, HO38.out.2.2.1, HO38.out.2.2.2.below hb9⟩
    have HA9 : Hid (n8 = rl.length ∧ OIn w9 p8 rl) := ⟨HA8.out.1, HA8.out.2.below hb9⟩
    have HG9 : Hid (n9 = z.length ∧ OIn w9 p9 z) := ⟨hn9, ho9⟩
    have hia3 := HIA.out cs 0 w9 q3 qn3 c3 cn3 n3 l3 (by have := HSM.out; omega) HBY.out HO39.out.1 HO39.out.2.2.1 HO39.out.2.1 HO39.out.2.2.2
    rw [HR3.out] at hia3
    clear hia2 hn9 ho9 hb9 HO8 HO38 HA8 HIA
    go_wp2_with fail
    refine hia3.mono ?_
    rintro e wa ⟨pa, na, ca, rfl, hna, hoa, hba⟩
    have HBa : Hid (Below w.heap.size w wa) := Below.on HB9.out hba
    have HOa : Hid (n4 = rl.length ∧ OIn wa p4 rl) := ⟨HO9.out.1, HO9.out.2.below hba⟩
    have HAa : Hid (n8 = rl.length ∧ OIn wa p8 rl) := ⟨HA9.out.1, HA9.out.2.below hba⟩
    have HGa : Hid (n9 = z.length ∧ OIn wa p9 z) := ⟨HG9.out.1, HG9.out.2.below hba⟩
    have HWa : Hid (na = z.length ∧ OIn wa pa z) := ⟨hna, hoa⟩
    have hva := HVA.out rl wa p4 c4 n4 HRZ.out HT1.out HOa.out.1 HOa.out.2
    clear hia3 hna hoa hba HO9 HO39 HA9 HG9 HVA HBY HNB HSM HB1' HR2 HR3 HT1 HDD
    go_wp2_with fail
    refine hva.mono ?_
    rintro e wb ⟨rfl, hbb⟩
    have HBb : Hid (Below w.heap.size w wb) := Below.on HBa.out hbb
    have hs1 := HSO.out rl wb p8 p4 c8 c4 n8 n4 HRZ.out HAa.out.1 HOa.out.1 (HAa.out.2.below hbb) (HOa.out.2.below hbb)
    have HGb : Hid (n9 = z.length ∧ OIn wb p9 z) := ⟨HGa.out.1, HGa.out.2.below hbb⟩
    have HWb : Hid (na = z.length ∧ OIn wb pa z) := ⟨HWa.out.1, HWa.out.2.below hbb⟩
    clear hva hbb HOa HAa HGa HWa
    go_wp2_with fail
    refine hs1.mono ?_
    rintro e wc ⟨rfl, hbc⟩
    have HBc : Hid (Below w.heap.size w wc) := Below.on HBb.out hbc
    have hs2 := HSO.out z wc p9 pa c9 ca n9 na (tab_tl HTZ.out) HGb.out.1 HWb.out.1 (HGb.out.2.below hbc) (HWb.out.2.below hbc)
    clear hs1 hbc HGb HWb HSO
    go_wp2_with fail
    refine hs2.mono ?_
    rintro e wd ⟨rfl, hbd⟩
    have HBd : Hid (Below w.heap.size w wd) := Below.on HBc.out hbd
    clear hs2 hbd
    go_wp2_with fail
    go_ret
    exact ⟨rfl, HBd.out⟩
  · have hrc' : (rc != 0) = true := by simpa using hrc
    clear HTK HER HIA HSO HVA
    go_wp2_with fail
    go_ret
    exact ⟨rfl, HB7.out⟩

end Go.Proofs.YtbfhpnacoigfkaaDoor

