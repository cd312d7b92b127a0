/- Texts of Scan8, Scan9, Lx1, Lx2. Own work of the verifier. -/
import Derived.Test.YtfgmenkoeflhaaaGreatDoorUqbl
namespace Go.Proofs.YtfgmenkoeflhaaaGreatDoor
set_option linter.unusedVariables false
set_option maxRecDepth 100000
section
open Go Go.RowKit
set_option linter.unusedSimpArgs false
abbrev TokR := Except Int (Int × Nat × List Int × Int)
def TokOut (w : World) (S pos : Nat) (r : TokR) (e : Ending) (w' : World) : Prop :=
 match r with
 | .ok (kind, len, ys, v) => ∃ p n c, e = .returned (tokV kind pos len p n c v) ∧ OwnS w' w.heap.size p n c ys ∧ Moved w w' S (pos + len)
 | .error code => Faults code pos e ∧ w.grownBy w' (some S)
theorem tokOut_of {w w' : World} {S pos : Nat} {e : Ending} {r r' : TokR} (h : TokOut w S pos r e w') (er : r' = r) : TokOut w S pos r' e w' := er ▸ h
theorem digs_ge (xs : List Int) (base : Int) : ∀ (f i : Nat) (v : Int), i ≤ (digsB xs base f i v).2
 | 0, i, v => Nat.le_refl _
 | f + 1, i, v => by
   unfold digsB
   split
   ·have := digs_ge xs base f (i + 1) (min (v * base + digI (byteI xs i)) 1000000000000001); omega
   ·simp
theorem hexI_rng {xs : List Int} {at_ q : Nat} {v : Int} (h : hexI xs at_ = some (v, q)) : at_ ≤ q ∧ q ≤ at_ + xs.length + 1 ∧ 0 ≤ v ∧ v ≤ 1000000000000001 := by
 have h1 := digs_ge xs 16 xs.length at_ 0; have h2 := digs_le xs 16 xs.length at_ 0; have h3 := digs_rng xs 16 (by decide) xs.length at_ 0 (by decide) (by decide)
 unfold hexI at h
 simp only at h
 split at h
 ·cases h
 ·simp only [Option.some.injEq, Prod.mk.injEq] at h
  omega
theorem escI_rng {xs : List Int} {at_ q : Nat} {v : Int} (h : escI xs at_ = some (v, q)) : at_ + 2 ≤ q ∧ q ≤ at_ + xs.length + 3 ∧ 0 ≤ v ∧ v ≤ 1000000000000001 := by
 unfold escI escF at h
 repeat' (split at h)
 all_goals first | (simp only [Option.some.injEq, Prod.mk.injEq] at h; omega) | (have := hexI_rng h; omega) | cases h
theorem chrI_rng {xs : List Int} {at_ q : Nat} {v : Int} (hb : Bytes xs) (h : chrI xs at_ = some (v, q)) : at_ ≤ q ∧ q ≤ at_ + xs.length + 3 ∧ 0 ≤ v ∧ v ≤ 1000000000000001 := by
 have hr := byteI_rng hb at_
 unfold chrI chrF at h
 repeat' (split at h)
 all_goals first | (simp only [Option.some.injEq, Prod.mk.injEq] at h; omega) | (have := escI_rng h; omega) | cases h
theorem numI_rng {xs : List Int} {pos q : Nat} {v : Int} (hb : Bytes xs) (h : numI xs pos = some (v, q)) : pos ≤ q ∧ q ≤ pos + xs.length + 5 ∧ 0 ≤ v ∧ v ≤ 1000000000000001 := by
 unfold numI numF at h
 have key : ∀ bs : Int, 0 ≤ bs → ∀ at_ : Nat, pos ≤ at_ → at_ ≤ pos + 2 → some (digsB xs bs xs.length at_ 0) = some (v, q) → pos ≤ q ∧ q ≤ pos + xs.length + 5 ∧ 0 ≤ v ∧ v ≤ 1000000000000001 := fun bs h0 at_ ha hb' e => by
  have h1 := digs_ge xs bs xs.length at_ 0; have h2 := digs_le xs bs xs.length at_ 0; have h3 := digs_rng xs bs h0 xs.length at_ 0 (by decide) (by decide); simp only [Option.some.injEq] at e; rw [e] at h1 h2 h3; simp only at h1 h2 h3
  omega
 repeat' (split at h)
 all_goals first | exact key 10 (by decide) pos (Nat.le_refl _) (by omega) h | exact key _ (baseI_rng _).1 (pos + 2) (by omega) (Nat.le_refl _) h | (have := chrI_rng hb h; omega)
def numR (xs : List Int) (pos : Nat) : TokR :=
 match numI xs pos with
 | none => .error 2
 | some (v, q) => if isOfB (byteI xs q) 7 = true then .error 2 else if 1000000000000000 < v then .error 3 else .ok (3, q - pos, [], v)
theorem five (w : World) (g : Nat) (hb : w.heap[g]? = some tokO) : w.cell? ⟨g, 0, none⟩ = some (.int .i64 0) ∧ w.cell? ⟨g, 1, none⟩ = some (.int .i64 0) ∧ w.cell? ⟨g, 2, none⟩ = some (.int .i64 0) ∧ w.cell? ⟨g, 3, none⟩ = some (.slice none 0 0) ∧ w.cell? ⟨g, 4, none⟩ = some (.int .i64 0) :=
 ⟨cell_of_row w g 0 _ _ (0, 0) hb, cell_of_row w g 1 _ _ (0, 0) hb, cell_of_row w g 2 _ _ (0, 0) hb, cell_of_row w g 3 _ _ (0, 0) hb, cell_of_row w g 4 _ _ (0, 0) hb⟩
theorem fiveF (w : World) (g : Nat) (hb : w.heap[g]? = some tokO) : w.frozen? ⟨g, 0, none⟩ = false ∧ w.frozen? ⟨g, 1, none⟩ = false ∧ w.frozen? ⟨g, 2, none⟩ = false ∧ w.frozen? ⟨g, 3, none⟩ = false ∧ w.frozen? ⟨g, 4, none⟩ = false :=
 ⟨frozen_of_row w g 0 _ _ hb, frozen_of_row w g 1 _ _ hb, frozen_of_row w g 2 _ _ hb, frozen_of_row w g 3 _ _ hb, frozen_of_row w g 4 _ _ hb⟩
theorem number_any (S b n c pos : Nat) (xs : List Int) (w : World) (E : Env w S b n c pos xs) (hp : pos ≤ 10000) :
 Calls Tryz.prog 71 #[.pointer (some ⟨S, 0, none⟩)] w fun e w' => TokOut w S pos (numR xs pos) e w' := by
 have HE : Hid (Env (w.alloc tokO) S b n c pos xs) := E.alloc _; have hB0 : Below w.heap.size w (w.alloc tokO) := (Below.refl _ _).alloc (Nat.le_refl _) _; have HB0 : Hid (Below w.heap.size w (w.alloc tokO)) := hB0; have HS : Hid (S < w.heap.size) := E.inH; have hsm := E.small; have hln := E.len; have HH := numeral_any S b n c pos xs (w.alloc tokO) (E.alloc _) hp; have hbytes := E.bytes; clear E hB0
 cases hh : numI xs pos with
 | none =>
   rw [hh] at HH
   have HG : Hid (numR xs pos = .error 2) := by show _ = _; unfold numR; rw [hh]
   clear hh
   go_enter Tryz.func71, Tryz.ntmps71
   go_wp2_with (go_at_call 92; refine HH.mono ?_; rintro e w1 ⟨rfl, hb1⟩); refine ⟨rfl, tokOut_of ?_ HG.out⟩; exact ⟨rfl, grown_of_below (Below.on HB0.out hb1) _⟩
 | some r =>
   obtain ⟨v, q⟩ := r; rw [hh] at HH; obtain ⟨r1, r2, r3, r4⟩ := numI_rng hbytes hh; have hr := byteI_rng hbytes q
   obtain ⟨x, ex⟩ : ∃ x, x = byteI xs q := ⟨_, rfl⟩
   rw [← ex] at hr; have HX : Hid (byteI xs q = x) := ex.symm
   have HU : Hid (numR xs pos = if isOfB x 7 = true then .error 2 else if 1000000000000000 < v then .error 3 else .ok (3, q - pos, [], v)) := by show _ = _; unfold numR; rw [hh, ex]
   clear hh ex
   cases t1 : isOfB x 7
   ·by_cases t2 : 1000000000000000 < v
    ·have HG : Hid (numR xs pos = .error 3) := by show _ = _; rw [HU.out, if_neg (by rw [t1]; decide), if_pos t2]
     clear HU
     go_enter Tryz.func71, Tryz.ntmps71
     go_wp2_with (first | (go_at_call 92; refine HH.mono ?_; rintro e w1 ⟨rfl, rfl⟩) | (go_at_call 67; refine (byteAt_any S b n c xs q _ HE.out.bytes HE.out.len (by omega) (by omega) HE.out.src HE.out.row).mono ?_; rintro e w' ⟨rfl, rfl⟩; rw [HX.out]) | (go_at_call 43; refine (isOf_any _ _ _ (by omega) (by omega) HE.out.tab).mono ?_; rintro e w' ⟨rfl, rfl⟩) | (go_at_call 77; refine (fault_any S pos 3 _ HE.out.at1 HE.out.inH).mono ?_; rintro e w1 ⟨rfl, hb1⟩)); refine ⟨rfl, tokOut_of ?_ HG.out⟩; exact ⟨rfl, grown_of_below (Below.on HB0.out hb1) _⟩
    ·have HG : Hid (numR xs pos = .ok (3, q - pos, [], v)) := by show _ = _; rw [HU.out, if_neg (by rw [t1]; decide), if_neg t2]
     clear HU
     go_enter Tryz.func71, Tryz.ntmps71
     go_wp2_with (first | (go_at_call 92; refine HH.mono ?_; rintro e w1 ⟨rfl, rfl⟩) | (go_at_call 67; refine (byteAt_any S b n c xs q _ HE.out.bytes HE.out.len (by omega) (by omega) HE.out.src HE.out.row).mono ?_; rintro e w' ⟨rfl, rfl⟩; rw [HX.out]) | (go_at_call 43; refine (isOf_any _ _ _ (by omega) (by omega) HE.out.tab).mono ?_; rintro e w' ⟨rfl, rfl⟩)); refine (take_fits S pos 3 q none 0 0 _ HE.out.at1 (HE.out.fz 1) HE.out.inH (by decide) r1 (by omega)).mono ?_; rintro e w1 ⟨rfl, M⟩; have HM : Hid (Moved (w.alloc tokO) w1 S q) := M
     have hlt0 : w.heap.size < w1.heap.size := by have := M.grown.size; simp only [World.size_alloc] at this; omega
     have hblk : w1.heap[w.heap.size]? = some tokO := (M.grown.block w.heap.size (by simp) (by have := HS.out; simp; omega)).trans (by show (w.heap.push tokO)[w.heap.size]? = _; simp); obtain ⟨d0, d1, d2, d3, d4⟩ := five w1 w.heap.size hblk; obtain ⟨g0, g1, g2, g3, g4⟩ := fiveF w1 w.heap.size hblk; clear M hblk
     go_wp2
     have hcast : ((q - pos : Nat) : Int) = (q : Int) - pos := by omega
     refine bodyPost_ret (v := tokV 3 pos ((q : Int) - pos) none 0 0 v) (by simp [results, Tryz.results71, go_sem, d0, d1, d2, d3, d4, hlt0]) rfl (tokOut_of ?_ HG.out); refine ⟨none, 0, 0, by rw [hcast], OwnS.nil _ _, ?_⟩; rw [show pos + (q - pos) = q by omega]; refine Moved.onto HB0.out HM.out ?_ HS.out; refine Below.alloc ?_ (by simp; omega) _; exact (((((Below.refl _ _).setCell (p := ⟨w.heap.size, 0, none⟩) (Nat.le_refl _) _).setCell (p := ⟨w.heap.size, 1, none⟩) (Nat.le_refl _) _).setCell (p := ⟨w.heap.size, 2, none⟩) (Nat.le_refl _) _).setCell (p := ⟨w.heap.size, 3, none⟩) (Nat.le_refl _) _).setCell (p := ⟨w.heap.size, 4, none⟩) (Nat.le_refl _) _
   ·have HG : Hid (numR xs pos = .error 2) := by show _ = _; rw [HU.out, if_pos t1]
    clear HU
    go_enter Tryz.func71, Tryz.ntmps71
    go_wp2_with (first | (go_at_call 92; refine HH.mono ?_; rintro e w1 ⟨rfl, rfl⟩) | (go_at_call 67; refine (byteAt_any S b n c xs q _ HE.out.bytes HE.out.len (by omega) (by omega) HE.out.src HE.out.row).mono ?_; rintro e w' ⟨rfl, rfl⟩; rw [HX.out]) | (go_at_call 43; refine (isOf_any _ _ _ (by omega) (by omega) HE.out.tab).mono ?_; rintro e w' ⟨rfl, rfl⟩) | (go_at_call 77; refine (fault_any S pos 2 _ HE.out.at1 HE.out.inH).mono ?_; rintro e w1 ⟨rfl, hb1⟩)); refine ⟨rfl, tokOut_of ?_ HG.out⟩; exact ⟨rfl, grown_of_below (Below.on HB0.out hb1) _⟩
def txtF (xs : List Int) (q : Int) : Nat → Nat → List Int → Option (List Int × Nat)
 | 0, _, _ => none
 | f + 1, i, ys =>
   if byteI xs i = q then (if byteI xs (i + 1) = q then txtF xs q f (i + 2) (ys ++ [q]) else some (ys, i + 1))
   else if byteI xs i = 92 then (if byteI xs (i + 1) = 10 then txtF xs q f (i + 2) ys else match escI xs i with
    | none => none
    | some (v, j) => txtF xs q f j (ys ++ [v % 256]))
   else if 32 ≤ byteI xs i ∧ byteI xs i ≠ 127 then txtF xs q f (i + 1) (ys ++ [byteI xs i]) else none
theorem txt_more (xs : List Int) (q : Int) (hq : 0 ≤ q) : ∀ (f i : Nat) (ys : List Int), xs.length + 1 ≤ i + f → ∀ g, txtF xs q (f + g) i ys = txtF xs q f i ys
 | 0, i, ys, h, 0 => rfl
 | 0, i, ys, h, g + 1 => by
   have hm : byteI xs i = -1 := byteI_ge (by omega); rw [Nat.zero_add]
   show (if byteI xs i = q then _ else _) = none
   rw [hm, if_neg (by omega), if_neg (by decide), if_neg (by omega)]
 | f + 1, i, ys, h, g => by
   rw [show f + 1 + g = (f + g) + 1 by omega]
   unfold txtF
   split
   ·split
    ·exact txt_more xs q hq f (i + 2) _ (by omega) g
    ·rfl
   ·split
    ·split
     ·exact txt_more xs q hq f (i + 2) _ (by omega) g
     ·cases he : escI xs i with
      | none => rfl
      | some r =>
        obtain ⟨v, j⟩ := r; have := escI_rng he; exact txt_more xs q hq f j _ (by omega) g
    ·split
     ·exact txt_more xs q hq f (i + 1) _ (by omega) g
     ·rfl
def txtI (xs : List Int) (q : Int) (i : Nat) (ys : List Int) : Option (List Int × Nat) := txtF xs q (xs.length + 1) i ys
theorem txt_step (xs : List Int) (q : Int) (hq : 0 ≤ q) (i : Nat) (ys : List Int) : txtI xs q i ys =
 if byteI xs i = q then (if byteI xs (i + 1) = q then txtI xs q (i + 2) (ys ++ [q]) else some (ys, i + 1))
 else if byteI xs i = 92 then (if byteI xs (i + 1) = 10 then txtI xs q (i + 2) ys else match escI xs i with
  | none => none
  | some (v, j) => txtI xs q j (ys ++ [v % 256]))
 else if 32 ≤ byteI xs i ∧ byteI xs i ≠ 127 then txtI xs q (i + 1) (ys ++ [byteI xs i]) else none := by
 have key : ∀ j zs, 1 ≤ j → txtF xs q xs.length j zs = txtI xs q j zs := fun j zs hj => (txt_more xs q hq xs.length j zs (by omega) 1).symm
 conv => lhs; unfold txtI txtF
 rw [key (i + 2) _ (by omega), key (i + 2) _ (by omega), key (i + 1) _ (by omega)]
 split
 ·rfl
 ·split
  ·split
   ·rfl
   ·cases he : escI xs i with
    | none => rfl
    | some r =>
      obtain ⟨v, j⟩ := r; have := escI_rng he; exact key j _ (by omega)
  ·rfl
def quoR (xs : List Int) (kind : Int) (pos : Nat) : TokR :=
 match txtI xs (byteI xs pos) (pos + 1) [] with
 | none => .error 2
 | some (ys, j) => if 100 < ys.length then .error 3 else .ok (kind, j - pos, ys, 0)
set_option maxHeartbeats 1000000 in
theorem quoted_any (S b n c pos : Nat) (kind : Int) (xs : List Int) (w : World) (E : Env w S b n c pos xs) (hp : pos < xs.length) (hqu : byteI xs pos = 39 ∨ byteI xs pos = 34) :
 Calls Tryz.prog 75 #[.pointer (some ⟨S, 0, none⟩), .int .i64 kind] w fun e w' => TokOut w S pos (quoR xs kind pos) e w' := by
 have HV0 : Hid (Env (w.alloc tokO) S b n c pos xs) := E.alloc _; have hB0 : Hid (Below w.heap.size w (w.alloc tokO)) := (Below.refl _ _).alloc (Nat.le_refl _) _; have HS : Hid (S < w.heap.size) := E.inH; have hsm := E.small; have hln : Hid (n = xs.length) := E.len
 have hpn : pos < n := by rw [E.len]; exact hp
 have hbytes := E.bytes; have h1 : (w.alloc tokO).cell? ⟨S, 1, none⟩ = some (.int .i64 pos) := (E.alloc tokO).at1
 obtain ⟨qu, eq⟩ : ∃ qu, qu = byteI xs pos := ⟨_, rfl⟩
 rw [← eq] at hqu
 have hq0 : 0 ≤ qu := by omega
 have hq1 : qu < 256 := by omega
 have hq92 : (qu == 92) = false := by rw [beq_eq_false_iff_ne]; omega
 have HQ : Hid (byteI xs pos = qu) := eq.symm
 have HQR : Hid (quoR xs kind pos = match txtI xs qu (pos + 1) [] with | none => .error 2 | some (ys, j) => if 100 < ys.length then .error 3 else .ok (kind, j - pos, ys, 0)) := by show _ = _; rw [eq]; rfl
 have HQU : Hid (qu = 39 ∨ qu = 34) := hqu; clear E eq hqu hp
 go_enter Tryz.func75, Tryz.ntmps75
 go_wp2_with (go_at_call 67; refine (byteAt_any S b n c xs pos _ HV0.out.bytes HV0.out.len (by omega) (by omega) HV0.out.src HV0.out.row).mono ?_; rintro e w' ⟨rfl, rfl⟩; rw [HQ.out])
 go_loopw [6, 7] (fun t a wr => ∃ (i : Nat) (p : Option Addr) (m c1 : Nat) (ys : List Int), t = .slice p m c1 ∧ a = .int .i64 i ∧ i ≤ 20010 ∧ m ≤ i ∧ pos ≤ i ∧ Hid (OwnS wr (w.heap.size + 1) p m c1 ys) ∧ Hid (Below (w.heap.size + 1) (w.alloc tokO) wr) ∧ Hid (txtI xs qu (pos + 1) [] = txtI xs qu i ys)) (fun _ a _ => 30000 - (intOf a).toNat)
 case atStart => exact ⟨pos + 1, none, 0, 0, [], rfl, by go_num, by omega, by omega, by omega, OwnS.nil _ _, Below.refl _ _, rfl⟩
 case round =>
  obtain ⟨i, p, m, c1, ys, rfl, rfl, hi, hmi, hpi, HO, HB, HT⟩ := hrel
  have HBW : Hid (Below (w.alloc tokO).heap.size (w.alloc tokO) wr) := by
   have := HB.out
   show Below _ _ _
   simpa using this
  have HV : Hid (Env wr S b n c pos xs) := HV0.out.below HBW.out
  have hsz : w.heap.size + 1 ≤ wr.heap.size := by have := HB.out.size; simpa using this
  have hr := byteI_rng hbytes i; have hr2 := byteI_rng hbytes (i + 1); have HST : Hid (txtI xs qu i ys = _) := txt_step xs qu hq0 i ys
  obtain ⟨x, ex⟩ : ∃ x, x = byteI xs i := ⟨_, rfl⟩
  obtain ⟨y, ey⟩ : ∃ y, y = byteI xs (i + 1) := ⟨_, rfl⟩
  rw [← ex, ← ey] at HST; rw [← ex] at hr; rw [← ey] at hr2; have HX : Hid (byteI xs i = x) := ex.symm; have HY : Hid (byteI xs (i + 1) = y) := ey.symm
  have hin : 0 ≤ x → i < n := fun h => by
   rcases Nat.lt_or_ge i xs.length with h' | h'
   ·rw [hln.out]; exact h'
   ·rw [byteI_ge h'] at ex; omega
  clear ex ey; have tok0 : True := trivial; have tok1 : True := trivial
  by_cases t1 : x = qu
  ·subst t1
   have hin' := hin hq0
   by_cases t2 : y = x
   ·subst t2
    have HG : Hid (txtI xs y (pos + 1) [] = txtI xs y (i + 2) (ys ++ [y])) := by show _ = _; rw [HT.out, HST.out]; simp
    have hwp := wrap_u8_in hq0 hq1
    have s2 : (y != y) = false := by simp
    clear HST HT hin; go_wp2_with (first | (go_at_call 67; have _t := tok0; refine (byteAt_any S b n c xs i _ (HV.out).bytes (HV.out).len (by have := (HV.out).small; omega) (by omega) (HV.out).src (HV.out).row).mono ?_; rintro e w' ⟨rfl, rfl⟩; rw [HX.out]; clear tok0) | (go_at_call 67; have _t := tok1; refine (byteAt_any S b n c xs (i + 1) _ (HV.out).bytes (HV.out).len (by have := (HV.out).small; omega) (by omega) (HV.out).src (HV.out).row).mono ?_; rintro e w' ⟨rfl, rfl⟩; rw [HY.out]; clear tok1) | (at_builtin; refine app_bytes _ rfl _ _ rfl (w.heap.size + 1) p m c1 ys [y] 1 rfl rfl (HO.out.alloc _) _ 1 rfl (news1 _ _) (by decide) (by omega) (by simp; omega) ?_; intro g n1 cap1 w1 hown1 hb1 hn1)); go_roundw
    case rel => exact ⟨i + 2, _, _, _, _, rfl, by go_num, by omega, by have := hn1.out; omega, by omega, hown1, (HB.out.alloc hsz _).trans hb1, HG⟩
    case measure => simp [intOf]; omega
   ·have HG : Hid (txtI xs x (pos + 1) [] = some (ys, i + 1)) := by show _ = _; rw [HT.out, HST.out]; simp [t2]
    have s2 : (y != x) = true := by simpa using t2
    clear HST HT hin t2; go_wp2_with (first | (go_at_call 67; have _t := tok0; refine (byteAt_any S b n c xs i _ (HV.out).bytes (HV.out).len (by have := (HV.out).small; omega) (by omega) (HV.out).src (HV.out).row).mono ?_; rintro e w' ⟨rfl, rfl⟩; rw [HX.out]; clear tok0) | (go_at_call 67; have _t := tok1; refine (byteAt_any S b n c xs (i + 1) _ (HV.out).bytes (HV.out).len (by have := (HV.out).small; omega) (by omega) (HV.out).src (HV.out).row).mono ?_; rintro e w' ⟨rfl, rfl⟩; rw [HY.out]; clear tok1)); have HL : Hid (m = ys.length) := HO.out.1
    by_cases hlong : 100 < m
    ·refine (take_long S pos kind (i + 1) p m c1 _ HV.out.at1 HV.out.inH hlong (by omega)).mono ?_
     rintro e w1 ⟨hfa, hb1⟩
     cases hfa
     refine ⟨rfl, tokOut_of ?_ (show quoR xs kind pos = .error 3 by rw [HQR.out, HG.out]; simp only; rw [if_pos (by rw [← HL.out]; exact hlong)])⟩; exact ⟨rfl, grown_of_below (Below.on hB0.out (HBW.out.trans (hb1.mono HBW.out.size))) _⟩
    ·refine (take_fits S pos kind (i + 1) p m c1 _ HV.out.at1 (HV.out.fz 1) HV.out.inH (by omega) (by omega) (by omega)).mono ?_
     rintro e w1 ⟨rfl, M⟩; have HM : Hid (Moved _ w1 S (i + 1)) := M
     have hlt0 : w.heap.size < w1.heap.size := by have := M.grown.size; omega
     have hblk : w1.heap[w.heap.size]? = some tokO := (M.grown.block w.heap.size (by omega) (by have := HS.out; simp; omega)).trans ((HBW.out.block w.heap.size (by simp)).trans (by show (w.heap.push tokO)[w.heap.size]? = _; simp)); obtain ⟨d0, d1, d2, d3, d4⟩ := five w1 w.heap.size hblk; obtain ⟨g0, g1, g2, g3, g4⟩ := fiveF w1 w.heap.size hblk
     have hcast : ((i + 1 : Nat) : Int) - pos = ((i + 1 - pos : Nat) : Int) := by omega
     have hform : ∀ g, p = some ⟨g, 0, none⟩ → w.heap.size + 1 ≤ g := fun g e => by
      rcases HO.out.form with ⟨e', _⟩ | ⟨g', e', h, _⟩
      ·rw [e'] at e; cases e
      ·rw [e'] at e; cases e; exact h
     have hO1 := HO.out.kept M.grown (fun g e e' => by have := hform g e; have := HS.out; simp only [Option.some.injEq] at e'; omega); have hG := grown_set5 w1 w.heap.size (.int .i64 kind) (.int .i64 pos) (.int .i64 (((i + 1 : Nat) : Int) - pos)) (.slice p m c1) (.int .i64 0); have hO2 := hO1.kept hG (fun g e e' => by have := hform g e; simp only [Option.some.injEq] at e'; omega)
     have HO2 : Hid (OwnS _ w.heap.size p m c1 ys) := ⟨hO2.1, hO2.2.1, hO2.2.2.imp id fun ⟨g, c, cur, a1, a2, a3⟩ => ⟨g, c, cur, a1, by omega, a3⟩⟩
     have HMM : Hid (Moved w _ S (i + 1)) := Moved.onto (Below.on hB0.out HBW.out) M (Below.of_grown hG (Nat.le_of_lt hlt0) (fun k e => by cases e; exact Nat.le_refl _)) HS.out; clear M hblk hO1 hO2 hG hform
     go_wp2
     refine bodyPost_ret (v := tokV kind pos (((i + 1 : Nat) : Int) - pos) p m c1 0) (by simp [results, Tryz.results75, go_sem, d0, d1, d2, d3, d4, hlt0]) rfl (tokOut_of ?_ (show quoR xs kind pos = .ok (kind, i + 1 - pos, ys, 0) by rw [HQR.out, HG.out]; simp only; rw [if_neg (by rw [← HL.out]; omega)])); refine ⟨p, m, c1, by rw [hcast], HO2.out, ?_⟩; rw [show pos + (i + 1 - pos) = i + 1 by omega]; exact HMM.out
  have s1 : (x == qu) = false := by simpa using t1
  by_cases t3 : x = 92
  ·subst t3
   have hin' := hin (by decide)
   by_cases t4 : y = 10
   ·subst t4
    have HG : Hid (txtI xs qu (pos + 1) [] = txtI xs qu (i + 2) ys) := by show _ = _; rw [HT.out, HST.out, if_neg t1]; simp
    clear HST HT hin t1; go_wp2_with (first | (go_at_call 67; have _t := tok0; refine (byteAt_any S b n c xs i _ (HV.out).bytes (HV.out).len (by have := (HV.out).small; omega) (by omega) (HV.out).src (HV.out).row).mono ?_; rintro e w' ⟨rfl, rfl⟩; rw [HX.out]; clear tok0) | (go_at_call 67; have _t := tok1; refine (byteAt_any S b n c xs (i + 1) _ (HV.out).bytes (HV.out).len (by have := (HV.out).small; omega) (by omega) (HV.out).src (HV.out).row).mono ?_; rintro e w' ⟨rfl, rfl⟩; rw [HY.out]; clear tok1)); go_roundw
    case rel => exact ⟨i + 2, _, _, _, _, rfl, by go_num, by omega, by omega, by omega, HO, HB, HG⟩
    case measure => simp [intOf]; omega
   ·have s4 : (y == 10) = false := by simpa using t4
    have HH := escape_any S b n c pos xs i wr HV.out (by omega)
    cases hh : escI xs i with
    | none =>
      rw [hh] at HH
      have HG : Hid (txtI xs qu (pos + 1) [] = none) := by show _ = _; rw [HT.out, HST.out, if_neg t1, hh]; simp [t4]
      clear HST HT hin t1 t4 hh; go_wp2_with (first | (go_at_call 67; have _t := tok0; refine (byteAt_any S b n c xs i _ (HV.out).bytes (HV.out).len (by have := (HV.out).small; omega) (by omega) (HV.out).src (HV.out).row).mono ?_; rintro e w' ⟨rfl, rfl⟩; rw [HX.out]; clear tok0) | (go_at_call 67; have _t := tok1; refine (byteAt_any S b n c xs (i + 1) _ (HV.out).bytes (HV.out).len (by have := (HV.out).small; omega) (by omega) (HV.out).src (HV.out).row).mono ?_; rintro e w' ⟨rfl, rfl⟩; rw [HY.out]; clear tok1) | (go_at_call 93; refine HH.mono ?_; rintro e w1 ⟨rfl, hb1⟩)); refine ⟨rfl, tokOut_of ?_ (show quoR xs kind pos = .error 2 by rw [HQR.out, HG.out])⟩; exact ⟨rfl, grown_of_below (Below.on hB0.out (HBW.out.trans (hb1.mono HBW.out.size))) _⟩
    | some r =>
      obtain ⟨v, j⟩ := r; rw [hh] at HH; obtain ⟨r1, r2, r3, r4⟩ := escI_rng hh
      have HG : Hid (txtI xs qu (pos + 1) [] = txtI xs qu j (ys ++ [v % 256])) := by show _ = _; rw [HT.out, HST.out, if_neg t1, hh]; simp [t4]
      have hwp := wrap_byte v r3
      have hj : j ≤ 20010 := by have := hln.out; omega
      clear HST HT hin t1 t4 hh; go_wp2_with (first | (go_at_call 67; have _t := tok0; refine (byteAt_any S b n c xs i _ (HV.out).bytes (HV.out).len (by have := (HV.out).small; omega) (by omega) (HV.out).src (HV.out).row).mono ?_; rintro e w' ⟨rfl, rfl⟩; rw [HX.out]; clear tok0) | (go_at_call 67; have _t := tok1; refine (byteAt_any S b n c xs (i + 1) _ (HV.out).bytes (HV.out).len (by have := (HV.out).small; omega) (by omega) (HV.out).src (HV.out).row).mono ?_; rintro e w' ⟨rfl, rfl⟩; rw [HY.out]; clear tok1) | (go_at_call 93; refine HH.mono ?_; rintro e w1 ⟨rfl, rfl⟩) | (at_builtin; refine app_bytes _ rfl _ _ rfl (w.heap.size + 1) p m c1 ys [v % 256] 1 rfl rfl (HO.out.alloc _) _ 1 rfl (news1 _ _) (by decide) (by omega) (by simp; omega) ?_; intro g n1 cap1 w1 hown1 hb1 hn1)); go_roundw
      case rel => exact ⟨j, _, _, _, _, rfl, rfl, hj, by have := hn1.out; omega, by omega, hown1, (HB.out.alloc hsz _).trans hb1, HG⟩
      case measure => simp [intOf]; omega
  have s3 : (x == 92) = false := by simpa using t3
  by_cases t5 : 32 ≤ x ∧ x ≠ 127
  ·have HG : Hid (txtI xs qu (pos + 1) [] = txtI xs qu (i + 1) (ys ++ [x])) := by show _ = _; rw [HT.out, HST.out, if_neg t1, if_neg t3, if_pos t5]
   have TS : Hid (decide (32 ≤ x ∧ x ≠ 127) = true) := by show _ = _; rw [decide_eq_true_iff]; exact t5
   have hwp := wrap_u8_in (x := x) (by omega) (by omega); have hin' := hin (by omega); clear HST HT hin t1 t3 t5; go_wp2_with (first | (go_at_call 67; have _t := tok0; refine (byteAt_any S b n c xs i _ (HV.out).bytes (HV.out).len (by have := (HV.out).small; omega) (by omega) (HV.out).src (HV.out).row).mono ?_; rintro e w' ⟨rfl, rfl⟩; rw [HX.out]; clear tok0) | (go_at_call 67; have _t := tok1; refine (byteAt_any S b n c xs (i + 1) _ (HV.out).bytes (HV.out).len (by have := (HV.out).small; omega) (by omega) (HV.out).src (HV.out).row).mono ?_; rintro e w' ⟨rfl, rfl⟩; rw [HY.out]; clear tok1) | (go_at_call 94; refine (standsFor_any x _ hr.1 hr.2).mono ?_; rintro e w' ⟨rfl, rfl⟩; rw [TS.out]) | (at_builtin; refine app_bytes _ rfl _ _ rfl (w.heap.size + 1) p m c1 ys [x] 1 rfl rfl (HO.out.alloc _) _ 1 rfl (news1 _ _) (by decide) (by omega) (by simp; omega) ?_; intro g n1 cap1 w1 hown1 hb1 hn1))
   go_roundw
   case rel => exact ⟨i + 1, _, _, _, _, rfl, by go_num, by omega, by have := hn1.out; omega, by omega, hown1, (HB.out.alloc hsz _).trans hb1, HG⟩
   case measure => simp [intOf]; omega
  ·have HG : Hid (txtI xs qu (pos + 1) [] = none) := by show _ = _; rw [HT.out, HST.out, if_neg t1, if_neg t3, if_neg t5]
   have TS : Hid (decide (32 ≤ x ∧ x ≠ 127) = false) := by show _ = _; rw [decide_eq_false_iff_not]; exact t5
   clear HST HT hin t1 t3 t5; go_wp2_with (first | (go_at_call 67; have _t := tok0; refine (byteAt_any S b n c xs i _ (HV.out).bytes (HV.out).len (by have := (HV.out).small; omega) (by omega) (HV.out).src (HV.out).row).mono ?_; rintro e w' ⟨rfl, rfl⟩; rw [HX.out]; clear tok0) | (go_at_call 67; have _t := tok1; refine (byteAt_any S b n c xs (i + 1) _ (HV.out).bytes (HV.out).len (by have := (HV.out).small; omega) (by omega) (HV.out).src (HV.out).row).mono ?_; rintro e w' ⟨rfl, rfl⟩; rw [HY.out]; clear tok1) | (go_at_call 94; refine (standsFor_any x _ hr.1 hr.2).mono ?_; rintro e w' ⟨rfl, rfl⟩; rw [TS.out]) | (go_at_call 77; refine (fault_any S pos 2 _ (HV.out).at1 (HV.out).inH).mono ?_; rintro e w1 ⟨rfl, hb1⟩)); refine ⟨rfl, tokOut_of ?_ (show quoR xs kind pos = .error 2 by rw [HQR.out, HG.out])⟩
   exact ⟨rfl, grown_of_below (Below.on hB0.out (HBW.out.trans (hb1.mono HBW.out.size))) _⟩
end
section
open Go Go.RowKit
def hexS (c : Int) : Int := if 48 ≤ c ∧ c ≤ 57 then c - 48 else if 97 ≤ c ∧ c ≤ 102 then c - 87 else if 65 ≤ c ∧ c ≤ 70 then c - 55 else 99
theorem hex_dig (c : Int) {base : Int} (h : base ≤ 16) : hexS c < base ↔ digI c < base := by unfold hexS digI; repeat' split <;> omega
theorem hex_same {c : Int} (h : digI c < 16) : hexS c = digI c := by unfold hexS; unfold digI at h ⊢; repeat' split <;> first | rfl | omega
theorem hexS_rng {c : Int} (h0 : 0 ≤ c) (h1 : c < 256) : 0 ≤ hexS c ∧ hexS c ≤ 99 := by unfold hexS; repeat' split <;> omega
theorem hex_any (c : Int) (w : World) (h0 : 0 ≤ c) (h1 : c < 256) : Calls Tryz.prog 60 #[.int .u8 c] w fun e w' => e = .returned (.int .i64 (hexS c)) ∧ w' = w := by
 by_cases a : 48 ≤ c ∧ c ≤ 57
 ·have hd : digitB c = true := by simp [digitB, a]
  have HE : Hid (hexS c = c - 48) := by show _ = _; rw [hexS, if_pos a]
  obtain ⟨a0, a1⟩ := a
  go_enter Tryz.func60, Tryz.ntmps60
  go_wp2_with (go_at_call 31; refine (digit_any c _ h0 h1).mono ?_; rintro e w' ⟨rfl, rfl⟩); go_ret; exact ⟨ret_int HE.out.symm, rfl⟩
 have hd : digitB c = false := by simp [digitB]; omega
 by_cases a2 : 97 ≤ c
 ·by_cases a3 : c ≤ 102
  ·have HE : Hid (hexS c = c - 87) := by show _ = _; rw [hexS, if_neg a, if_pos ⟨a2, a3⟩]
   clear a
   go_enter Tryz.func60, Tryz.ntmps60
   go_wp2_with (go_at_call 31; refine (digit_any c _ h0 h1).mono ?_; rintro e w' ⟨rfl, rfl⟩); go_ret; exact ⟨ret_int (by rw [HE.out]; omega), rfl⟩
  ·have HE : Hid (hexS c = 99) := by show _ = _; rw [hexS, if_neg a, if_neg (by omega), if_neg (by omega)]
   have a4 : ¬ c ≤ 70 := by omega
   have a5 : 65 ≤ c := by omega
   clear a
   go_enter Tryz.func60, Tryz.ntmps60
   go_wp2_with (go_at_call 31; refine (digit_any c _ h0 h1).mono ?_; rintro e w' ⟨rfl, rfl⟩); go_ret; exact ⟨ret_int HE.out.symm, rfl⟩
 ·by_cases a4 : 65 ≤ c
  ·by_cases a5 : c ≤ 70
   ·have HE : Hid (hexS c = c - 55) := by show _ = _; rw [hexS, if_neg a, if_neg (by omega), if_pos ⟨a4, a5⟩]
    clear a
    go_enter Tryz.func60, Tryz.ntmps60
    go_wp2_with (go_at_call 31; refine (digit_any c _ h0 h1).mono ?_; rintro e w' ⟨rfl, rfl⟩); go_ret; exact ⟨ret_int (by rw [HE.out]; omega), rfl⟩
   ·have HE : Hid (hexS c = 99) := by show _ = _; rw [hexS, if_neg a, if_neg (by omega), if_neg (by omega)]
    clear a
    go_enter Tryz.func60, Tryz.ntmps60
    go_wp2_with (go_at_call 31; refine (digit_any c _ h0 h1).mono ?_; rintro e w' ⟨rfl, rfl⟩); go_ret; exact ⟨ret_int HE.out.symm, rfl⟩
  ·have HE : Hid (hexS c = 99) := by show _ = _; rw [hexS, if_neg a, if_neg (by omega), if_neg (by omega)]
   clear a
   go_enter Tryz.func60, Tryz.ntmps60
   go_wp2_with (go_at_call 31; refine (digit_any c _ h0 h1).mono ?_; rintro e w' ⟨rfl, rfl⟩); go_ret; exact ⟨ret_int HE.out.symm, rfl⟩
def rawB (c : Int) : Bool := decide (32 ≤ c ∧ c ≠ 127)
theorem raw_any (c : Int) (w : World) (h0 : 0 ≤ c) (h1 : c < 256) : Calls Tryz.prog 62 #[.int .u8 c] w fun e w' => e = .returned (.bool (rawB c)) ∧ w' = w := by
 by_cases a : 32 ≤ c
 ·by_cases b : c = 127
  ·subst b
   go_enter Tryz.func62, Tryz.ntmps62
   go_wp2
   go_ret; exact ⟨by simp [rawB], rfl⟩
  ·have b' : (c != 127) = true := by simpa using b
   have HE : Hid (rawB c = true) := by show _ = _; simp [rawB, a, b]
   go_enter Tryz.func62, Tryz.ntmps62
   go_wp2
   go_ret; exact ⟨ret_bool HE.out.symm, rfl⟩
 ·have HE : Hid (rawB c = false) := by show _ = _; simp [rawB, a]
  go_enter Tryz.func62, Tryz.ntmps62
  go_wp2
  go_ret; exact ⟨ret_bool HE.out.symm, rfl⟩
def blankB (c : Int) : Bool := c == 32 || c == 9 || c == 10 || c == 13
theorem blank_any (c : Int) (w : World) (h0 : 0 ≤ c) (h1 : c < 256) : Calls Tryz.prog 30 #[.int .u8 c] w fun e w' => e = .returned (.bool (blankB c)) ∧ w' = w := by
 cases a : (c == 32) <;> cases b : (c == 9) <;> cases d : (c == 10) <;> cases f : (c == 13)
 all_goals
  have HE : Hid (blankB c = (c == 32 || c == 9 || c == 10 || c == 13)) := rfl; rw [a, b, d, f] at HE
  go_enter Tryz.func30, Tryz.ntmps30
  go_wp2
  go_ret; exact ⟨ret_bool HE.out.symm, rfl⟩
def escS (xs : List Int) (i : Nat) : List Int × Nat :=
 if byteI xs (i + 1) = 10 then ([], 1) else match escI xs i with
  | none => ([], 0)
  | some (v, j) => ([v], j - (i + 1))
theorem one_byte (W : World) (x : Int) : OwnS (W.alloc (.cells #[.int .u8 x] 5)) W.heap.size (some ⟨W.heap.size, 0, none⟩) 1 1 [x] :=
 ⟨rfl, ⟨rfl, .inr ⟨W.heap.size, 1, #[.int .u8 x], rfl, Nat.le_refl _, heap_alloc_new _ _, Nat.le_refl _, by decide, rfl, rfl⟩⟩⟩
theorem no_bytes (W : World) (B : Nat) : OwnS W B none 0 0 [] := ⟨rfl, World.ownsRow_nil _ _ _ _⟩
def EscOut (w : World) (r : List Int × Nat) (e : Ending) (w' : World) : Prop := ∃ p n c, e = .returned (.tuple #[.slice p n c, .int .i64 r.2]) ∧ OwnS w' w.heap.size p n c r.1 ∧ Below w.heap.size w w'
theorem dig_92 : ¬ digI 92 < 16 := by decide
theorem hexI_of {xs : List Int} {a q : Nat} {v : Int} (h : digsB xs 16 xs.length a 0 = (v, q)) : hexI xs a = if q = a ∨ a + 2 < q ∨ byteI xs q ≠ 92 then none else some (v, q + 1) := by simp only [hexI, h]
theorem hexI_cases (xs : List Int) (a : Nat) : hexI xs a =
 if ¬ digI (byteI xs a) < 16 then none
 else if ¬ digI (byteI xs (a + 1)) < 16 then (if byteI xs (a + 1) = 92 then some (digI (byteI xs a), a + 2) else none)
 else if byteI xs (a + 2) = 92 then some (digI (byteI xs a) * 16 + digI (byteI xs (a + 1)), a + 3) else none := by
 have r0 := digI_rng (byteI xs a); have r1 := digI_rng (byteI xs (a + 1))
 by_cases h0 : digI (byteI xs a) < 16
 ·have e1 : min ((0 : Int) * 16 + digI (byteI xs a)) 1000000000000001 = digI (byteI xs a) := by omega
  have s1 := digs_step xs 16 (by decide) a 0 h0; rw [e1] at s1
  by_cases h1 : digI (byteI xs (a + 1)) < 16
  ·have e2 : min (digI (byteI xs a) * 16 + digI (byteI xs (a + 1))) 1000000000000001 = digI (byteI xs a) * 16 + digI (byteI xs (a + 1)) := by omega
   have s2 := s1.trans (digs_step xs 16 (by decide) (a + 1) _ h1); rw [e2] at s2
   by_cases h2 : digI (byteI xs (a + 2)) < 16
   ·have s3 := s2.trans (digs_step xs 16 (by decide) (a + 2) _ h2)
    have h3 := digs_ge xs 16 xs.length (a + 2 + 1) (min ((digI (byteI xs a) * 16 + digI (byteI xs (a + 1))) * 16 + digI (byteI xs (a + 2))) 1000000000000001); rw [← s3] at h3
    have h4 : ¬ byteI xs (a + 2) = 92 := fun e => by rw [e] at h2; exact dig_92 h2
    rw [hexI_of (xs := xs) (a := a) (q := (digsB xs 16 xs.length a 0).2) (v := (digsB xs 16 xs.length a 0).1) rfl]; simp only [h0, h1, h4, not_true, if_false]; rw [if_pos (by omega)]
   ·have s3 := s2.trans (digs_stop xs 16 (a + 2) _ h2)
    rw [hexI_of s3]; simp only [h0, h1, not_true, if_false]
    by_cases h4 : byteI xs (a + 2) = 92
    ·rw [if_neg (by omega), if_pos h4]
    ·rw [if_pos (.inr (.inr h4)), if_neg h4]
  ·have s3 := s1.trans (digs_stop xs 16 (a + 1) _ h1)
   rw [hexI_of s3]; simp only [h0, h1, not_true, not_false_eq_true, if_false, if_true]
   by_cases h4 : byteI xs (a + 1) = 92
   ·rw [if_neg (by omega), if_pos h4]
   ·rw [if_pos (.inr (.inr h4)), if_neg h4]
 ·rw [hexI_of (digs_stop xs 16 a 0 h0), if_pos h0, if_pos (.inl rfl)]
def hexV (xs : List Int) (a : Nat) : Nat → Int
 | 0 => 0
 | j + 1 => hexV xs a j * 16 + digI (byteI xs (a + j))
theorem hexI_stop (xs : List Int) (a j : Nat) (hj : j ≤ 2) (hd : ∀ m, m < j → digI (byteI xs (a + m)) < 16) (hs : j = 2 ∨ ¬ digI (byteI xs (a + j)) < 16) :
 hexI xs a = if j = 0 then none else if byteI xs (a + j) = 92 then some (hexV xs a j, a + j + 1) else none := by
 rw [hexI_cases]
 have h3 : j = 0 ∨ j = 1 ∨ j = 2 := by omega
 rcases h3 with rfl | rfl | rfl
 ·rcases hs with h | h
  ·omega
  ·rw [Nat.add_zero] at h
   simp [h]
 ·have h0 := hd 0 (by omega)
  rw [Nat.add_zero] at h0
  rcases hs with h | h
  ·omega
  ·simp only [h0, h, not_true, not_false_eq_true, if_false, if_true]
   simp [hexV]
 ·have h0 := hd 0 (by omega)
  have h1 := hd 1 (by omega); rw [Nat.add_zero] at h0; simp only [h0, h1, not_true, if_false]
  simp [hexV]
theorem escS_at (xs : List Int) (i : Nat) (x : Int) (h : byteI xs (i + 1) = x) : escS xs i = if x = 10 then ([], 1) else match escF x xs i with
 | none => ([], 0)
 | some (v, j) => ([v], j - (i + 1)) := by rw [escS, escI, h]; try rfl
set_option maxHeartbeats 4000000 in
theorem escapeS_any (b cap i : Nat) (xs : List Int) (w : World) (hb : Bytes xs) (hn : xs.length ≤ 100000) (hi : i ≤ 100000) (hc : ∀ m, m < xs.length → w.cell? ⟨b, m, none⟩ = some (.int .u8 (xs.getD m 0))) :
 Calls Tryz.prog 61 #[.slice (some ⟨b, 0, none⟩) xs.length cap, .int .i64 ((i + 1 : Nat) : Int)] w (EscOut w (escS xs i)) := by
 obtain ⟨n, en⟩ : ∃ n, n = xs.length := ⟨_, rfl⟩
 rw [← en] at hn ⊢; have HN : Hid (n = xs.length) := en
 have HC : Hid (∀ m, m < n → w.cell? ⟨b, m, none⟩ = some (.int .u8 (xs.getD m 0))) := by rw [en]; exact hc
 have HBY : Hid (Bytes xs) := hb
 obtain ⟨a, ea⟩ : ∃ a, a = i + 1 := ⟨_, rfl⟩
 rw [← ea]
 have ha : a ≤ 100001 := by omega
 have HA : Hid (a = i + 1) := ea
 have NOTHING : Hid (∀ (r : List Int × Nat) (k : Nat), r = ([], k) → EscOut w r (.returned (.tuple #[.slice none 0 0, .int .i64 k])) w) := fun r k h => by subst h; exact ⟨none, 0, 0, rfl, no_bytes _ _, Below.refl _ _⟩
 have ONE : Hid (∀ (r : List Int × Nat) (v : Int) (k : Nat), r = ([v], k) → EscOut w r (.returned (.tuple #[.slice (some ⟨w.heap.size, 0, none⟩) 1 1, .int .i64 k])) (w.alloc (.cells #[.int .u8 v] 5))) := fun r v k h => by subst h; exact ⟨some ⟨w.heap.size, 0, none⟩, 1, 1, rfl, one_byte w v, (Below.refl _ _).alloc (Nat.le_refl _) _⟩
 clear hb hc en ea
 by_cases hlt : a < n
 ·have hx := HC.out a hlt
  have hr := HBY.out.at a
  have hbi : byteI xs (i + 1) = xs.getD a 0 := by rw [← HA.out]; exact byteI_lt (by rw [← HN.out]; exact hlt)
  obtain ⟨x, ex⟩ : ∃ x, x = xs.getD a 0 := ⟨_, rfl⟩
  rw [← ex] at hx hr hbi
  have HE : Hid (escS xs i = if x = 10 then ([], 1) else match escF x xs i with
   | none => ([], 0)
   | some (v, j) => ([v], j - (i + 1))) := escS_at xs i x hbi
  clear ex hbi
  have hge : ¬ ((n : Int) ≤ (a : Int)) := by omega
  by_cases h92 : x = 92
  ·have HF : Hid (EscOut w (escS xs i) (.returned (.tuple #[.slice (some ⟨w.heap.size, 0, none⟩) 1 1, .int .i64 1])) (w.alloc (.cells #[.int .u8 92] 5))) := ONE.out _ 92 1 (by rw [HE.out, h92]; simp [escF])
   subst h92; clear HE ONE NOTHING HC HBY
   go_enter Tryz.func61, Tryz.ntmps61
   go_wp2_with fail
   go_ret2
   exact HF.out
  have b92 : (x == 92) = false := by simpa using h92
  by_cases h39 : x = 39
  ·have HF : Hid (EscOut w (escS xs i) (.returned (.tuple #[.slice (some ⟨w.heap.size, 0, none⟩) 1 1, .int .i64 1])) (w.alloc (.cells #[.int .u8 39] 5))) := ONE.out _ 39 1 (by rw [HE.out, h39]; simp [escF])
   subst h39; clear HE ONE NOTHING HC HBY
   go_enter Tryz.func61, Tryz.ntmps61
   go_wp2_with fail
   go_ret2
   exact HF.out
  have b39 : (x == 39) = false := by simpa using h39
  by_cases h34 : x = 34
  ·have HF : Hid (EscOut w (escS xs i) (.returned (.tuple #[.slice (some ⟨w.heap.size, 0, none⟩) 1 1, .int .i64 1])) (w.alloc (.cells #[.int .u8 34] 5))) := ONE.out _ 34 1 (by rw [HE.out, h34]; simp [escF])
   subst h34; clear HE ONE NOTHING HC HBY
   go_enter Tryz.func61, Tryz.ntmps61
   go_wp2_with fail
   go_ret2
   exact HF.out
  have b34 : (x == 34) = false := by simpa using h34
  by_cases h110 : x = 110
  ·have HF : Hid (EscOut w (escS xs i) (.returned (.tuple #[.slice (some ⟨w.heap.size, 0, none⟩) 1 1, .int .i64 1])) (w.alloc (.cells #[.int .u8 10] 5))) := ONE.out _ 10 1 (by rw [HE.out, h110]; simp [escF])
   subst h110; clear HE ONE NOTHING HC HBY
   go_enter Tryz.func61, Tryz.ntmps61
   go_wp2_with fail
   go_ret2
   exact HF.out
  have b110 : (x == 110) = false := by simpa using h110
  by_cases h116 : x = 116
  ·have HF : Hid (EscOut w (escS xs i) (.returned (.tuple #[.slice (some ⟨w.heap.size, 0, none⟩) 1 1, .int .i64 1])) (w.alloc (.cells #[.int .u8 9] 5))) := ONE.out _ 9 1 (by rw [HE.out, h116]; simp [escF])
   subst h116; clear HE ONE NOTHING HC HBY
   go_enter Tryz.func61, Tryz.ntmps61
   go_wp2_with fail
   go_ret2
   exact HF.out
  have b116 : (x == 116) = false := by simpa using h116
  by_cases h114 : x = 114
  ·have HF : Hid (EscOut w (escS xs i) (.returned (.tuple #[.slice (some ⟨w.heap.size, 0, none⟩) 1 1, .int .i64 1])) (w.alloc (.cells #[.int .u8 13] 5))) := ONE.out _ 13 1 (by rw [HE.out, h114]; simp [escF])
   subst h114; clear HE ONE NOTHING HC HBY
   go_enter Tryz.func61, Tryz.ntmps61
   go_wp2_with fail
   go_ret2
   exact HF.out
  have b114 : (x == 114) = false := by simpa using h114
  by_cases h10 : x = 10
  ·have HF : Hid (EscOut w (escS xs i) (.returned (.tuple #[.slice none 0 0, .int .i64 1])) w) := NOTHING.out _ 1 (by rw [HE.out, if_pos h10])
   subst h10; clear HE ONE NOTHING HC HBY
   go_enter Tryz.func61, Tryz.ntmps61
   go_wp2_with fail
   go_ret2
   exact HF.out
  have b10 : (x == 10) = false := by simpa using h10
  by_cases h120 : x = 120
  ·have HX : Hid (escS xs i = match hexI xs (i + 2) with
    | none => ([], 0)
    | some (v, j) => ([v], j - (i + 1))) := by show _ = _; rw [HE.out, h120]; simp [escF]
   subst h120; clear HE h92 b92 h39 b39 h34 b34 h110 b110 h116 b116 h114 b114 h10 b10
   go_enter Tryz.func61, Tryz.ntmps61
   go_wp2_with fail
   go_loopw [7, 8] (fun v j wr => ∃ (k : Nat) (vk : Int), k ≤ 2 ∧ 0 ≤ vk ∧ vk < 256 ∧ (k < 2 → vk < 16) ∧ v = .int .i64 vk ∧ j = .int .i64 k ∧ Hid (wr = w ∧ (k = 0 → vk = 0)) ∧ Hid (vk = hexV xs (i + 2) k) ∧ Hid (∀ m, m < k → digI (byteI xs (i + 2 + m)) < 16)) (fun _ j _ => 2 - (intOf j).toNat)
   case atStart => exact ⟨0, 0, by omega, by omega, by omega, by omega, rfl, rfl, ⟨rfl, fun _ => rfl⟩, rfl, fun m hm => absurd hm (Nat.not_lt_zero _)⟩
   case round =>
    obtain ⟨k, vk, hk, hv0, hv1, hv2, rfl, rfl, HW, HV, HD⟩ := hrel; obtain ⟨hw, hz0⟩ := HW.out; subst hw; clear HW; have HZ0 : Hid (k = 0 → vk = 0) := hz0; clear hz0
    by_cases hin : a + 1 + k < n
    ·have hy := HC.out (a + 1 + k) hin
     have hry := HBY.out.at (a + 1 + k)
     have hby : byteI xs (i + 2 + k) = xs.getD (a + 1 + k) 0 := by rw [show i + 2 + k = a + 1 + k by have := HA.out; omega]; exact byteI_lt (by rw [← HN.out]; exact hin)
     obtain ⟨y, ey⟩ : ∃ y, y = xs.getD (a + 1 + k) 0 := ⟨_, rfl⟩
     rw [← ey] at hy hry hby; have HY : Hid (byteI xs (i + 2 + k) = y) := hby
     have hin' : (a : Int) + 1 + k < n := by omega
     have hge' : ¬ ((n : Int) ≤ (a : Int) + 1 + k) := by omega
     have hxr := hexS_rng hry.1 hry.2; have HH := hex_any y wr hry.1 hry.2
     obtain ⟨z, ez⟩ : ∃ z, z = hexS y := ⟨_, rfl⟩
     rw [← ez] at hxr HH; have HZ : Hid (z = hexS y) := ez; clear ey hby ez
     by_cases hk2 : k < 2
     ·have hk2' : (k : Int) < 2 := by omega
      by_cases hd : z < 16
      ·have hv3 := hv2 hk2
       have HD1 : Hid (∀ m, m < k + 1 → digI (byteI xs (i + 2 + m)) < 16) := fun m hm => by
        by_cases e : m = k
        ·subst e; rw [HY.out]; exact (hex_dig y (by decide)).1 (by rw [← HZ.out]; exact hd)
        ·exact HD.out m (by omega)
       have HV1 : Hid (vk * 16 + z = hexV xs (i + 2) (k + 1)) := by
        show _ = _
        rw [hexV, ← HV.out, HY.out, HZ.out, hex_same ((hex_dig y (by decide)).1 (by rw [← HZ.out]; exact hd))]
       clear HC HBY NOTHING ONE hv2; go_wp2_with (go_at_call 60; refine HH.mono ?_; rintro e w' ⟨rfl, rfl⟩); go_roundw
       case rel => exact ⟨k + 1, vk * 16 + z, by omega, by omega, by omega, by intro h; have := HZ0.out (by omega); omega, by trivial, by go_num, ⟨by trivial, fun h => absurd h (by omega)⟩, HV1, HD1⟩
       case measure => simp [intOf]; omega
      ·have HS : Hid (hexI xs (i + 2) = if k = 0 then none else if byteI xs (i + 2 + k) = 92 then some (hexV xs (i + 2) k, i + 2 + k + 1) else none) := hexI_stop xs (i + 2) k hk HD.out (.inr (fun h => hd (by rw [HZ.out]; exact (hex_dig y (by decide)).2 (by rw [← HY.out]; exact h))))
       by_cases h0 : k = 0
       ·subst h0
        have HF : Hid (EscOut wr (escS xs i) (.returned (.tuple #[.slice none 0 0, .int .i64 0])) wr) := NOTHING.out _ 0 (by rw [HX.out, HS.out, if_pos rfl]); clear HS HC HBY NOTHING ONE hv2; go_wp2_with (go_at_call 60; refine HH.mono ?_; rintro e w' ⟨rfl, rfl⟩)
        go_ret2
        exact HF.out
       ·have h0' : ((k : Int) == 0) = false := by simp; omega
        by_cases hy92 : y = 92
        ·have HF : Hid (EscOut wr (escS xs i) (.returned (.tuple #[.slice (some ⟨wr.heap.size, 0, none⟩) 1 1, .int .i64 ((k + 2 : Nat) : Int)])) (wr.alloc (.cells #[.int .u8 vk] 5))) := ONE.out _ vk (k + 2) (by
          rw [HX.out, HS.out, if_neg h0, HY.out, if_pos hy92, ← HV.out]
          simp only [Prod.mk.injEq, true_and]; omega)
         have hyb : (y != 92) = false := by simpa using hy92
         have hwv : IntKind.u8.wrap vk = vk := wrap_u8_in hv0 hv1; clear HS HC HBY NOTHING ONE hv2 hy92; go_wp2_with (go_at_call 60; refine HH.mono ?_; rintro e w' ⟨rfl, rfl⟩)
         go_ret2
         exact HF.out
        ·have HF : Hid (EscOut wr (escS xs i) (.returned (.tuple #[.slice none 0 0, .int .i64 0])) wr) := NOTHING.out _ 0 (by rw [HX.out, HS.out, if_neg h0, HY.out, if_neg hy92])
         have hyb : (y != 92) = true := by simpa using hy92
         clear HS HC HBY NOTHING ONE hv2 hy92; go_wp2_with (go_at_call 60; refine HH.mono ?_; rintro e w' ⟨rfl, rfl⟩)
         go_ret2
         exact HF.out
     ·have hk2' : ¬ (k : Int) < 2 := by omega
      have hd : True := trivial; have HS : Hid (hexI xs (i + 2) = if k = 0 then none else if byteI xs (i + 2 + k) = 92 then some (hexV xs (i + 2) k, i + 2 + k + 1) else none) := hexI_stop xs (i + 2) k hk HD.out (.inl (by omega))
      by_cases h0 : k = 0
      ·omega
      ·have h0' : ((k : Int) == 0) = false := by simp; omega
       by_cases hy92 : y = 92
       ·have HF : Hid (EscOut wr (escS xs i) (.returned (.tuple #[.slice (some ⟨wr.heap.size, 0, none⟩) 1 1, .int .i64 ((k + 2 : Nat) : Int)])) (wr.alloc (.cells #[.int .u8 vk] 5))) := ONE.out _ vk (k + 2) (by
         rw [HX.out, HS.out, if_neg h0, HY.out, if_pos hy92, ← HV.out]
         simp only [Prod.mk.injEq, true_and]; omega)
        have hyb : (y != 92) = false := by simpa using hy92
        have hwv : IntKind.u8.wrap vk = vk := wrap_u8_in hv0 hv1; clear HS HC HBY NOTHING ONE hv2 hy92; go_wp2_with (go_at_call 60; refine HH.mono ?_; rintro e w' ⟨rfl, rfl⟩)
        go_ret2
        exact HF.out
       ·have HF : Hid (EscOut wr (escS xs i) (.returned (.tuple #[.slice none 0 0, .int .i64 0])) wr) := NOTHING.out _ 0 (by rw [HX.out, HS.out, if_neg h0, HY.out, if_neg hy92])
        have hyb : (y != 92) = true := by simpa using hy92
        clear HS HC HBY NOTHING ONE hv2 hy92; go_wp2_with (go_at_call 60; refine HH.mono ?_; rintro e w' ⟨rfl, rfl⟩)
        go_ret2
        exact HF.out
    ·have hin' : ¬ (a : Int) + 1 + k < n := by omega
     have hge' : (n : Int) ≤ (a : Int) + 1 + k := by omega
     have hby : byteI xs (i + 2 + k) = -1 := byteI_ge (by have := HN.out; have := HA.out; omega); have HS : Hid (hexI xs (i + 2) = if k = 0 then none else if byteI xs (i + 2 + k) = 92 then some (hexV xs (i + 2) k, i + 2 + k + 1) else none) := hexI_stop xs (i + 2) k hk HD.out (.inr (by rw [hby]; decide))
     have HF : Hid (EscOut wr (escS xs i) (.returned (.tuple #[.slice none 0 0, .int .i64 0])) wr) := NOTHING.out _ 0 (by
      rw [HX.out, HS.out, hby]
      by_cases h0 : k = 0
      ·rw [if_pos h0]
      ·rw [if_neg h0, if_neg (by decide)])
     clear HS hby HC HBY NOTHING ONE hv2
     by_cases h0 : k = 0
     ·subst h0
      go_wp2_with fail
      go_ret2
      exact HF.out
     ·have h0' : ((k : Int) == 0) = false := by simp; omega
      go_wp2_with fail
      go_ret2
      exact HF.out
  ·have b120 : (x != 120) = true := by simpa using h120
   have HF : Hid (EscOut w (escS xs i) (.returned (.tuple #[.slice none 0 0, .int .i64 0])) w) := NOTHING.out _ 0 (by rw [HE.out, if_neg h10]; simp [escF, h92, h39, h34, h110, h116, h114, h120]); clear HE ONE NOTHING HC HBY h92 h39 h34 h110 h116 h114 h10 h120
   go_enter Tryz.func61, Tryz.ntmps61
   go_wp2_with fail
   go_ret2
   exact HF.out
 ·have hge : (n : Int) ≤ (a : Int) := by omega
  have HF : Hid (EscOut w (escS xs i) (.returned (.tuple #[.slice none 0 0, .int .i64 0])) w) := NOTHING.out _ 0 (by
   rw [escS_at xs i (-1) (byteI_ge (by have := HN.out; have := HA.out; omega))]; simp [escF])
  clear ONE NOTHING HC HBY
  go_enter Tryz.func61, Tryz.ntmps61
  go_wp2_with fail
  go_ret2
  exact HF.out
end
end Go.Proofs.YtfgmenkoeflhaaaGreatDoor
