/- The scanner: quoted texts. Own work of the verifier. -/
import Derived.Test.YtfhelmhcmfpedaaDoorScan8
namespace Go.Proofs.YtfhelmhcmfpedaaDoor
open Go Go.RowKit
set_option linter.unusedVariables false
set_option linter.unusedSimpArgs false

/-- What stands between quotes from a place on. -/
def txtF (xs : List Int) (q : Int) : Nat → Nat → List Int → Option (List Int × Nat)
  | 0, _, _ => none
  | f + 1, i, ys =>
    if byteI xs i = q then (if byteI xs (i + 1) = q then txtF xs q f (i + 2) (ys ++ [q]) else some (ys, i + 1))
    else if byteI xs i = 92 then (if byteI xs (i + 1) = 10 then txtF xs q f (i + 2) ys else match escI xs i with
      | none => none
      | some (v, j) => txtF xs q f j (ys ++ [v % 256]))
    else if 32 ≤ byteI xs i ∧ byteI xs i ≠ 127 then txtF xs q f (i + 1) (ys ++ [byteI xs i]) else none
theorem txt_more (xs : List Int) (q : Int) (hq : 0 ≤ q) : ∀ (f i : Nat) (ys : List Int), xs.length + 1 ≤ i + f → ∀ g, txtF xs q (f + g) i ys = txtF xs q f i ys
  | 0, i, ys, h, 0 => rfl
  | 0, i, ys, h, g + 1 => by
    have hm : byteI xs i = -1 := byteI_ge (by omega)
    rw [Nat.zero_add]
    show (if byteI xs i = q then _ else _) = none
    rw [hm, if_neg (by omega), if_neg (by decide), if_neg (by omega)]
  | f + 1, i, ys, h, g => by
    rw [show f + 1 + g = (f + g) + 1 by omega]
    unfold txtF
    split
    · split
      · exact txt_more xs q hq f (i + 2) _ (by omega) g
      · rfl
    · split
      · split
        · exact txt_more xs q hq f (i + 2) _ (by omega) g
        · cases he : escI xs i with
          | none => rfl
          | some r =>
            obtain ⟨v, j⟩ := r
            have := escI_rng he
            exact txt_more xs q hq f j _ (by omega) g
      · split
        · exact txt_more xs q hq f (i + 1) _ (by omega) g
        · rfl
def txtI (xs : List Int) (q : Int) (i : Nat) (ys : List Int) : Option (List Int × Nat) := txtF xs q (xs.length + 1) i ys
theorem txt_step (xs : List Int) (q : Int) (hq : 0 ≤ q) (i : Nat) (ys : List Int) : txtI xs q i ys =
    if byteI xs i = q then (if byteI xs (i + 1) = q then txtI xs q (i + 2) (ys ++ [q]) else some (ys, i + 1))
    else if byteI xs i = 92 then (if byteI xs (i + 1) = 10 then txtI xs q (i + 2) ys else match escI xs i with
      | none => none
      | some (v, j) => txtI xs q j (ys ++ [v % 256]))
    else if 32 ≤ byteI xs i ∧ byteI xs i ≠ 127 then txtI xs q (i + 1) (ys ++ [byteI xs i]) else none := by
  have key : ∀ j zs, 1 ≤ j → txtF xs q xs.length j zs = txtI xs q j zs := fun j zs hj => (txt_more xs q hq xs.length j zs (by omega) 1).symm
  conv => lhs; unfold txtI txtF
  rw [key (i + 2) _ (by omega), key (i + 2) _ (by omega), key (i + 1) _ (by omega)]
  split
  · rfl
  · split
    · split
      · rfl
      · cases he : escI xs i with
        | none => rfl
        | some r =>
          obtain ⟨v, j⟩ := r
          have := escI_rng he
          exact key j _ (by omega)
    · rfl

def quoR (xs : List Int) (kind : Int) (pos : Nat) : TokR :=
  match txtI xs (byteI xs pos) (pos + 1) [] with
  | none => .error 2
  | some (ys, j) => if 100 < ys.length then .error 3 else .ok (kind, j - pos, ys, 0)

set_option maxHeartbeats 1000000 in
set_option maxRecDepth 100000 in
theorem quoted_any (S b n c pos : Nat) (kind : Int) (xs : List Int) (w : World) (E : Env w S b n c pos xs) (hp : pos < xs.length) (hqu : byteI xs pos = 39 ∨ byteI xs pos = 34) :
    Calls Tryd.prog 60 #[.pointer (some ⟨S, 0, none⟩), .int .i64 kind] w fun e w' => TokOut w S pos (quoR xs kind pos) e w' := by
  have HV0 : Hid (Env (w.alloc tokO) S b n c pos xs) := E.alloc _
  have hB0 : Hid (Below w.heap.size w (w.alloc tokO)) := (Below.refl _ _).alloc (Nat.le_refl _) _
  have HS : Hid (S < w.heap.size) := E.inH
  have hsm := E.small
  have hln : Hid (n = xs.length) := E.len
  have hpn : pos < n := by rw [E.len]; exact hp
  have hbytes := E.bytes
  have h1 : (w.alloc tokO).cell? ⟨S, 1, none⟩ = some (.int .i64 pos) := (E.alloc tokO).at1
  obtain ⟨qu, eq⟩ : ∃ qu, qu = byteI xs pos := ⟨_, rfl⟩
  rw [← eq] at hqu
  have hq0 : 0 ≤ qu := by omega
  have hq1 : qu < 256 := by omega
  have hq92 : (qu == 92) = false := by rw [beq_eq_false_iff_ne]; omega
  have HQ : Hid (byteI xs pos = qu) := eq.symm
  have HQR : Hid (quoR xs kind pos = match txtI xs qu (pos + 1) [] with | none => .error 2 | some (ys, j) => if 100 < ys.length then .error 3 else .ok (kind, j - pos, ys, 0)) := by show _ = _; rw [eq]; rfl
  have HQU : Hid (qu = 39 ∨ qu = 34) := hqu
  clear E eq hqu hp
  go_enter Tryd.func60, Tryd.ntmps60
  go_wp2_with (go_at_call 52; refine (byteAt_any S b n c xs pos _ HV0.out.bytes HV0.out.len (by omega) (by omega) HV0.out.src HV0.out.row).mono ?_; rintro e w' ⟨rfl, rfl⟩; rw [HQ.out])
  go_loopw [6, 7] (fun t a wr => ∃ (i : Nat) (p : Option Addr) (m c1 : Nat) (ys : List Int), t = .slice p m c1 ∧ a = .int .i64 i ∧ i ≤ 20010 ∧ m ≤ i ∧ pos ≤ i ∧ Hid (OwnS wr (w.heap.size + 1) p m c1 ys) ∧ Hid (Below (w.heap.size + 1) (w.alloc tokO) wr) ∧ Hid (txtI xs qu (pos + 1) [] = txtI xs qu i ys)) (fun _ a _ => 30000 - (intOf a).toNat)
  case atStart => exact ⟨pos + 1, none, 0, 0, [], rfl, by go_num, by omega, by omega, by omega, OwnS.nil _ _, Below.refl _ _, rfl⟩
  case round =>
    obtain ⟨i, p, m, c1, ys, rfl, rfl, hi, hmi, hpi, HO, HB, HT⟩ := hrel
    have HBW : Hid (Below (w.alloc tokO).heap.size (w.alloc tokO) wr) := by
      have := HB.out
      show Below _ _ _
      simpa using this
    have HV : Hid (Env wr S b n c pos xs) := HV0.out.below HBW.out
    have hsz : w.heap.size + 1 ≤ wr.heap.size := by have := HB.out.size; simpa using this
    have hr := byteI_rng hbytes i
    have hr2 := byteI_rng hbytes (i + 1)
    have HST : Hid (txtI xs qu i ys = _) := txt_step xs qu hq0 i ys
    obtain ⟨x, ex⟩ : ∃ x, x = byteI xs i := ⟨_, rfl⟩
    obtain ⟨y, ey⟩ : ∃ y, y = byteI xs (i + 1) := ⟨_, rfl⟩
    rw [← ex, ← ey] at HST
    rw [← ex] at hr
    rw [← ey] at hr2
    have HX : Hid (byteI xs i = x) := ex.symm
    have HY : Hid (byteI xs (i + 1) = y) := ey.symm
    have hin : 0 ≤ x → i < n := fun h => by
      rcases Nat.lt_or_ge i xs.length with h' | h'
      · rw [hln.out]; exact h'
      · rw [byteI_ge h'] at ex; omega
    clear ex ey
    have tok0 : True := trivial
    have tok1 : True := trivial
    by_cases t1 : x = qu
    · subst t1
      have hin' := hin hq0
      by_cases t2 : y = x
      · subst t2
        have HG : Hid (txtI xs y (pos + 1) [] = txtI xs y (i + 2) (ys ++ [y])) := by show _ = _; rw [HT.out, HST.out]; simp
        have hwp := wrap_u8_in hq0 hq1
        have s2 : (y != y) = false := by simp
        clear HST HT hin
        go_wp2_with (first | (go_at_call 52; have _t := tok0; refine (byteAt_any S b n c xs i _ (HV.out).bytes (HV.out).len (by have := (HV.out).small; omega) (by omega) (HV.out).src (HV.out).row).mono ?_; rintro e w' ⟨rfl, rfl⟩; rw [HX.out]; clear tok0) | (go_at_call 52; have _t := tok1; refine (byteAt_any S b n c xs (i + 1) _ (HV.out).bytes (HV.out).len (by have := (HV.out).small; omega) (by omega) (HV.out).src (HV.out).row).mono ?_; rintro e w' ⟨rfl, rfl⟩; rw [HY.out]; clear tok1) | (at_builtin; refine app_bytes _ rfl _ _ rfl (w.heap.size + 1) p m c1 ys [y] 1 rfl rfl (HO.out.alloc _) _ 1 rfl (news1 _ _) (by decide) (by omega) (by simp; omega) ?_; intro g n1 cap1 w1 hown1 hb1 hn1))
        go_roundw
        case rel => exact ⟨i + 2, _, _, _, _, rfl, by go_num, by omega, by have := hn1.out; omega, by omega, hown1, (HB.out.alloc hsz _).trans hb1, HG⟩
        case measure => simp [intOf]; omega
      · have HG : Hid (txtI xs x (pos + 1) [] = some (ys, i + 1)) := by show _ = _; rw [HT.out, HST.out]; simp [t2]
        have s2 : (y != x) = true := by simpa using t2
        clear HST HT hin t2
        go_wp2_with (first | (go_at_call 52; have _t := tok0; refine (byteAt_any S b n c xs i _ (HV.out).bytes (HV.out).len (by have := (HV.out).small; omega) (by omega) (HV.out).src (HV.out).row).mono ?_; rintro e w' ⟨rfl, rfl⟩; rw [HX.out]; clear tok0) | (go_at_call 52; have _t := tok1; refine (byteAt_any S b n c xs (i + 1) _ (HV.out).bytes (HV.out).len (by have := (HV.out).small; omega) (by omega) (HV.out).src (HV.out).row).mono ?_; rintro e w' ⟨rfl, rfl⟩; rw [HY.out]; clear tok1))
        have HL : Hid (m = ys.length) := HO.out.1
        by_cases hlong : 100 < m
        · refine (take_long S pos kind (i + 1) p m c1 _ HV.out.at1 HV.out.inH hlong (by omega)).mono ?_
          rintro e w1 ⟨hfa, hb1⟩
          cases hfa
          refine ⟨rfl, tokOut_of ?_ (show quoR xs kind pos = .error 3 by rw [HQR.out, HG.out]; simp only; rw [if_pos (by rw [← HL.out]; exact hlong)])⟩
          exact ⟨rfl, grown_of_below (Below.on hB0.out (HBW.out.trans (hb1.mono HBW.out.size))) _⟩
        · refine (take_fits S pos kind (i + 1) p m c1 _ HV.out.at1 (HV.out.fz 1) HV.out.inH (by omega) (by omega) (by omega)).mono ?_
          rintro e w1 ⟨rfl, M⟩
          have HM : Hid (Moved _ w1 S (i + 1)) := M
          have hlt0 : w.heap.size < w1.heap.size := by have := M.grown.size; omega
          have hblk : w1.heap[w.heap.size]? = some tokO := (M.grown.block w.heap.size (by omega) (by have := HS.out; simp; omega)).trans ((HBW.out.block w.heap.size (by simp)).trans (by show (w.heap.push tokO)[w.heap.size]? = _; simp))
          obtain ⟨d0, d1, d2, d3, d4⟩ := five w1 w.heap.size hblk
          obtain ⟨g0, g1, g2, g3, g4⟩ := fiveF w1 w.heap.size hblk
          have hcast : ((i + 1 : Nat) : Int) - pos = ((i + 1 - pos : Nat) : Int) := by omega
          have hform : ∀ g, p = some ⟨g, 0, none⟩ → w.heap.size + 1 ≤ g := fun g e => by
            rcases HO.out.form with ⟨e', _⟩ | ⟨g', e', h, _⟩
            · rw [e'] at e; cases e
            · rw [e'] at e; cases e; exact h
          have hO1 := HO.out.kept M.grown (fun g e e' => by have := hform g e; have := HS.out; simp only [Option.some.injEq] at e'; omega)
          have hG := grown_set5 w1 w.heap.size (.int .i64 kind) (.int .i64 pos) (.int .i64 (((i + 1 : Nat) : Int) - pos)) (.slice p m c1) (.int .i64 0)
          have hO2 := hO1.kept hG (fun g e e' => by have := hform g e; simp only [Option.some.injEq] at e'; omega)
          have HO2 : Hid (OwnS _ w.heap.size p m c1 ys) := ⟨hO2.1, hO2.2.1, hO2.2.2.imp id fun ⟨g, c, cur, a1, a2, a3⟩ => ⟨g, c, cur, a1, by omega, a3⟩⟩
          have HMM : Hid (Moved w _ S (i + 1)) := Moved.onto (Below.on hB0.out HBW.out) M (Below.of_grown hG (Nat.le_of_lt hlt0) (fun k e => by cases e; exact Nat.le_refl _)) HS.out
          clear M hblk hO1 hO2 hG hform
          go_wp2
          refine bodyPost_ret (v := tokV kind pos (((i + 1 : Nat) : Int) - pos) p m c1 0) (by simp [results, Tryd.results60, go_sem, d0, d1, d2, d3, d4, hlt0]) rfl (tokOut_of ?_ (show quoR xs kind pos = .ok (kind, i + 1 - pos, ys, 0) by rw [HQR.out, HG.out]; simp only; rw [if_neg (by rw [← HL.out]; omega)]))
          refine ⟨p, m, c1, by rw [hcast], HO2.out, ?_⟩
          rw [show pos + (i + 1 - pos) = i + 1 by omega]
          exact HMM.out
    have s1 : (x == qu) = false := by simpa using t1
    by_cases t3 : x = 92
    · subst t3
      have hin' := hin (by decide)
      by_cases t4 : y = 10
      · subst t4
        have HG : Hid (txtI xs qu (pos + 1) [] = txtI xs qu (i + 2) ys) := by show _ = _; rw [HT.out, HST.out, if_neg t1]; simp
        clear HST HT hin t1
        go_wp2_with (first | (go_at_call 52; have _t := tok0; refine (byteAt_any S b n c xs i _ (HV.out).bytes (HV.out).len (by have := (HV.out).small; omega) (by omega) (HV.out).src (HV.out).row).mono ?_; rintro e w' ⟨rfl, rfl⟩; rw [HX.out]; clear tok0) | (go_at_call 52; have _t := tok1; refine (byteAt_any S b n c xs (i + 1) _ (HV.out).bytes (HV.out).len (by have := (HV.out).small; omega) (by omega) (HV.out).src (HV.out).row).mono ?_; rintro e w' ⟨rfl, rfl⟩; rw [HY.out]; clear tok1))
        go_roundw
        case rel => exact ⟨i + 2, _, _, _, _, rfl, by go_num, by omega, by omega, by omega, HO, HB, HG⟩
        case measure => simp [intOf]; omega
      · have s4 : (y == 10) = false := by simpa using t4
        have HH := escape_any S b n c pos xs i wr HV.out (by omega)
        cases hh : escI xs i with
        | none =>
          rw [hh] at HH
          have HG : Hid (txtI xs qu (pos + 1) [] = none) := by show _ = _; rw [HT.out, HST.out, if_neg t1, hh]; simp [t4]
          clear HST HT hin t1 t4 hh
          go_wp2_with (first | (go_at_call 52; have _t := tok0; refine (byteAt_any S b n c xs i _ (HV.out).bytes (HV.out).len (by have := (HV.out).small; omega) (by omega) (HV.out).src (HV.out).row).mono ?_; rintro e w' ⟨rfl, rfl⟩; rw [HX.out]; clear tok0) | (go_at_call 52; have _t := tok1; refine (byteAt_any S b n c xs (i + 1) _ (HV.out).bytes (HV.out).len (by have := (HV.out).small; omega) (by omega) (HV.out).src (HV.out).row).mono ?_; rintro e w' ⟨rfl, rfl⟩; rw [HY.out]; clear tok1) | (go_at_call 69; refine HH.mono ?_; rintro e w1 ⟨rfl, hb1⟩))
          refine ⟨rfl, tokOut_of ?_ (show quoR xs kind pos = .error 2 by rw [HQR.out, HG.out])⟩
          exact ⟨rfl, grown_of_below (Below.on hB0.out (HBW.out.trans (hb1.mono HBW.out.size))) _⟩
        | some r =>
          obtain ⟨v, j⟩ := r
          rw [hh] at HH
          obtain ⟨r1, r2, r3, r4⟩ := escI_rng hh
          have HG : Hid (txtI xs qu (pos + 1) [] = txtI xs qu j (ys ++ [v % 256])) := by show _ = _; rw [HT.out, HST.out, if_neg t1, hh]; simp [t4]
          have hwp := wrap_byte v r3
          have hj : j ≤ 20010 := by have := hln.out; omega
          clear HST HT hin t1 t4 hh
          go_wp2_with (first | (go_at_call 52; have _t := tok0; refine (byteAt_any S b n c xs i _ (HV.out).bytes (HV.out).len (by have := (HV.out).small; omega) (by omega) (HV.out).src (HV.out).row).mono ?_; rintro e w' ⟨rfl, rfl⟩; rw [HX.out]; clear tok0) | (go_at_call 52; have _t := tok1; refine (byteAt_any S b n c xs (i + 1) _ (HV.out).bytes (HV.out).len (by have := (HV.out).small; omega) (by omega) (HV.out).src (HV.out).row).mono ?_; rintro e w' ⟨rfl, rfl⟩; rw [HY.out]; clear tok1) | (go_at_call 69; refine HH.mono ?_; rintro e w1 ⟨rfl, rfl⟩) | (at_builtin; refine app_bytes _ rfl _ _ rfl (w.heap.size + 1) p m c1 ys [v % 256] 1 rfl rfl (HO.out.alloc _) _ 1 rfl (news1 _ _) (by decide) (by omega) (by simp; omega) ?_; intro g n1 cap1 w1 hown1 hb1 hn1))
          go_roundw
          case rel => exact ⟨j, _, _, _, _, rfl, rfl, hj, by have := hn1.out; omega, by omega, hown1, (HB.out.alloc hsz _).trans hb1, HG⟩
          case measure => simp [intOf]; omega
    have s3 : (x == 92) = false := by simpa using t3
    by_cases t5 : 32 ≤ x ∧ x ≠ 127
    · have HG : Hid (txtI xs qu (pos + 1) [] = txtI xs qu (i + 1) (ys ++ [x])) := by show _ = _; rw [HT.out, HST.out, if_neg t1, if_neg t3, if_pos t5]
      have TS : Hid (decide (32 ≤ x ∧ x ≠ 127) = true) := by show _ = _; rw [decide_eq_true_iff]; exact t5
      have hwp := wrap_u8_in (x := x) (by omega) (by omega)
      have hin' := hin (by omega)
      clear HST HT hin t1 t3 t5
      go_wp2_with (first | (go_at_call 52; have _t := tok0; refine (byteAt_any S b n c xs i _ (HV.out).bytes (HV.out).len (by have := (HV.out).small; omega) (by omega) (HV.out).src (HV.out).row).mono ?_; rintro e w' ⟨rfl, rfl⟩; rw [HX.out]; clear tok0) | (go_at_call 52; have _t := tok1; refine (byteAt_any S b n c xs (i + 1) _ (HV.out).bytes (HV.out).len (by have := (HV.out).small; omega) (by omega) (HV.out).src (HV.out).row).mono ?_; rintro e w' ⟨rfl, rfl⟩; rw [HY.out]; clear tok1) | (go_at_call 70; refine (standsFor_any x _ hr.1 hr.2).mono ?_; rintro e w' ⟨rfl, rfl⟩; rw [TS.out]) | (at_builtin; refine app_bytes _ rfl _ _ rfl (w.heap.size + 1) p m c1 ys [x] 1 rfl rfl (HO.out.alloc _) _ 1 rfl (news1 _ _) (by decide) (by omega) (by simp; omega) ?_; intro g n1 cap1 w1 hown1 hb1 hn1))
      go_roundw
      case rel => exact ⟨i + 1, _, _, _, _, rfl, by go_num, by omega, by have := hn1.out; omega, by omega, hown1, (HB.out.alloc hsz _).trans hb1, HG⟩
      case measure => simp [intOf]; omega
    · have HG : Hid (txtI xs qu (pos + 1) [] = none) := by show _ = _; rw [HT.out, HST.out, if_neg t1, if_neg t3, if_neg t5]
      have TS : Hid (decide (32 ≤ x ∧ x ≠ 127) = false) := by show _ = _; rw [decide_eq_false_iff_not]; exact t5
      clear HST HT hin t1 t3 t5
      go_wp2_with (first | (go_at_call 52; have _t := tok0; refine (byteAt_any S b n c xs i _ (HV.out).bytes (HV.out).len (by have := (HV.out).small; omega) (by omega) (HV.out).src (HV.out).row).mono ?_; rintro e w' ⟨rfl, rfl⟩; rw [HX.out]; clear tok0) | (go_at_call 52; have _t := tok1; refine (byteAt_any S b n c xs (i + 1) _ (HV.out).bytes (HV.out).len (by have := (HV.out).small; omega) (by omega) (HV.out).src (HV.out).row).mono ?_; rintro e w' ⟨rfl, rfl⟩; rw [HY.out]; clear tok1) | (go_at_call 70; refine (standsFor_any x _ hr.1 hr.2).mono ?_; rintro e w' ⟨rfl, rfl⟩; rw [TS.out]) | (go_at_call 62; refine (fault_any S pos 2 _ (HV.out).at1 (HV.out).inH).mono ?_; rintro e w1 ⟨rfl, hb1⟩))
      refine ⟨rfl, tokOut_of ?_ (show quoR xs kind pos = .error 2 by rw [HQR.out, HG.out])⟩
      exact ⟨rfl, grown_of_below (Below.on hB0.out (HBW.out.trans (hb1.mono HBW.out.size))) _⟩

end Go.Proofs.YtfhelmhcmfpedaaDoor
