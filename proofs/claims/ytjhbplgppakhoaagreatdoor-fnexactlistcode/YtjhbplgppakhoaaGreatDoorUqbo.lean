/- Texts of LcS. Own work of the verifier. -/
import Derived.Test.YtjhbplgppakhoaaGreatDoorUqbn
import Derived.Test.YtjhbplgppakhoaaGreatDoorUqan
namespace Go.Proofs.YtjhbplgppakhoaaGreatDoor
open Go Go.RowKit
set_option linter.unusedVariables false
set_option linter.unusedSimpArgs false
set_option maxRecDepth 100000 in
set_option maxHeartbeats 20000000 in
theorem specLc_any (T : List Cel) (xs : List Iv) (po : Option Addr) (co : Nat) (p : Option Addr) (N pc : Nat) (g : Option Addr) (M gc : Nat) (w : World) (hTb : ∀ i, i < T.length → Byte (T.getD i Cel.none).2.2) (hTl : T.length + tl T ≤ 1000000000) (hT : OIn w po T) (hN : N = xs.length) (hNl : N ≤ 1048576) (hx : IvIn w p xs) (hI : IvOk xs) :
    Calls Tryz.prog 23 #[.slice po T.length co, .agg #[.slice p N pc, .slice g M gc]] w (LcO w T xs) := by
  have HV : Hid (∀ W, Below w.heap.size w W → Calls Tryz.prog 31 #[.slice po T.length co] W fun e w' => e = .returned (.bool (tabB T)) ∧ Below W.heap.size W w') := fun W hW => specTab_any po co T W hTl (hT.below hW)
  have HNIL : Hid (¬ (tabB T = true ∧ xs.length ≤ 20000 ∧ ∀ i, i < xs.length → okI (xs.getD i Iv.zero) = true) → ∀ W, Below w.heap.size w W → LcO w T xs (.returned (.slice none 0 0)) W) := fun h W hW => lc_nil h W hW
  have HB0 : Hid (∀ o, Below w.heap.size w (w.alloc o)) := fun o => (Below.refl _ _).alloc (Nat.le_refl _) _
  have HNX : Hid (N = xs.length ∧ IvOk xs ∧ IvIn w p xs) := ⟨hN, hI, hx⟩
  have HBK : Hid (∀ o, (w.alloc o).heap[w.heap.size]? = some o) := fun o => heap_alloc_new w o
  by_cases h1 : tabB T = true
  · rw [h1] at HV
    have HT1 : Hid (tabB T = true) := h1
    obtain ⟨lt, elt⟩ : ∃ lt, lt = T.length := ⟨_, rfl⟩
    have HWT : Hid (∀ (c : Cel) (tq : Option Addr) (W : World), Byte c.2.2 → cellB c.1 c.2.1 c.2.2.length = true → c.1 ≠ 3 → Below w.heap.size w W → CIn W tq (c :: Fo.nil.cells) → Calls Tryz.prog 8 #[.slice po T.length co, .slice tq 1 1, .slice none 0 0, .bool true] W fun e w' => ∃ p n c2, e = .returned (.slice p n c2) ∧ OwnT w' W.heap.size p n c2 (leafW c) ∧ Below W.heap.size W w') := fun c tq W hb hc h3 hW hcin => by
      refine (specWrite_any T [c] [] true po co tq none 0 W hTb (fun i hi => by obtain rfl : i = 0 := by simpa using hi
                                                                                exact hb) hTl (by simp) (by simp) (fun i hi => by simp at hi) (hT.below hW) hcin (fun h => by simp at h)).mono ?_
      rintro e w' ⟨R, p', n', c', hR, rfl, ho, hbb⟩
      rw [leaf_is h1 hc h3 hR] at ho
      exact ⟨p', n', c', rfl, ho, hbb⟩
    rw [← elt] at HV HWT ⊢
    clear hTb hTl hT hN hx hI h1 elt
    by_cases h2 : N ≤ 20000
    · have hN2 : (N : Int) ≤ 20000 := by omega
      go_enter Tryz.func23, Tryz.ntmps23
      go_wp2_with fail
      refine (HV.out _ (HB0.out _)).mono ?_
      rintro e w1 ⟨rfl, hb1⟩
      have HB1 : Hid (Below w.heap.size w w1) := Below.on (HB0.out _) hb1
      have HX1 : Hid (w1.heap[w.heap.size]? = some (.cells #[.slice p N pc, .slice g M gc] 52)) := (hb1.block w.heap.size (by simp)).trans (HBK.out _)
      have x0 : w1.cell? ⟨w.heap.size, 0, none⟩ = some (.slice p N pc) := by simp [World.cell?, HX1.out]
      clear hb1 HV
      go_wp2_with fail
      have HO1 : Hid (OwnS w1 w1.heap.size none 0 0 []) := OwnS.nil _ _
      go_loopw [5, 6] (fun oo v wr => ∃ (k : Nat) (po' : Option Addr) (no' co' : Nat), k ≤ N ∧ v = .int .i64 k ∧ oo = .slice po' no' co' ∧ Hid (OwnS wr w1.heap.size po' no' co' (lnsT xs k) ∧ (∀ i, i < k → okI (xs.getD i Iv.zero) = true) ∧ Below w1.heap.size w1 wr)) (fun _ v _ => N - (intOf v).toNat)
      case atStart => exact ⟨0, none, 0, 0, Nat.zero_le _, rfl, rfl, HO1.out, fun i h => by omega, Below.refl _ _⟩
      case round =>
        obtain ⟨k, po', no', co', hk, rfl, rfl, HL⟩ := hrel
        obtain ⟨wo, rfl⟩ : ∃ wo, wo = wr := ⟨wr, rfl⟩
        have HBW : Hid (Below w.heap.size w wo) := Below.on HB1.out HL.out.2.2
        have y0 : wo.cell? ⟨w.heap.size, 0, none⟩ = some (.slice p N pc) := (HL.out.2.2.cell (p := ⟨w.heap.size, 0, none⟩) (Array.getElem?_eq_some_iff.1 HX1.out).1).trans x0
        by_cases hlt : k < N
        · have hkl : k < xs.length := by rw [← HNX.out.1]; exact hlt
          obtain ⟨b, o, rfl, hcs⟩ := HNX.out.2.2 (by omega)
          obtain ⟨q, qc, s, sc, u, uc, h0, hq1, _, _⟩ := hcs k hkl
          have hbl : b < w.heap.size := World.block_lt_of_cell? (u := .int .i64 (xs.getD k Iv.zero).op) w ⟨b, o + k * 8 + 0, none⟩ (h0 0 (by omega))
          have d0 : wo.cell? ⟨b, o + k * 8, none⟩ = some (.int .i64 (xs.getD k Iv.zero).op) := (HBW.out.cell (p := ⟨b, _, none⟩) hbl).trans (h0 0 (by omega))
          have d1 : wo.cell? ⟨b, o + k * 8 + 1, none⟩ = some (.int .i64 (xs.getD k Iv.zero).r) := (HBW.out.cell (p := ⟨b, _, none⟩) hbl).trans (h0 1 (by omega))
          have d2 : wo.cell? ⟨b, o + k * 8 + 2, none⟩ = some (.int .i64 (xs.getD k Iv.zero).a) := (HBW.out.cell (p := ⟨b, _, none⟩) hbl).trans (h0 2 (by omega))
          have d3 : wo.cell? ⟨b, o + k * 8 + 3, none⟩ = some (.int .i64 (xs.getD k Iv.zero).c.1) := (HBW.out.cell (p := ⟨b, _, none⟩) hbl).trans (h0 3 (by omega))
          have d4 : wo.cell? ⟨b, o + k * 8 + 4, none⟩ = some (.int .i64 (xs.getD k Iv.zero).c.2.1) := (HBW.out.cell (p := ⟨b, _, none⟩) hbl).trans (h0 4 (by omega))
          have d5 : wo.cell? ⟨b, o + k * 8 + 5, none⟩ = some (.slice q (xs.getD k Iv.zero).c.2.2.length qc) := (HBW.out.cell (p := ⟨b, _, none⟩) hbl).trans (h0 5 (by omega))
          have d6 : wo.cell? ⟨b, o + k * 8 + 6, none⟩ = some (.slice s (xs.getD k Iv.zero).K.length sc) := (HBW.out.cell (p := ⟨b, _, none⟩) hbl).trans (h0 6 (by omega))
          have d7 : wo.cell? ⟨b, o + k * 8 + 7, none⟩ = some (.slice u (xs.getD k Iv.zero).L.length uc) := (HBW.out.cell (p := ⟨b, _, none⟩) hbl).trans (h0 7 (by omega))
          have hio := HNX.out.2.1 k hkl
          obtain ⟨x, ex⟩ : ∃ x, x = xs.getD k Iv.zero := ⟨_, rfl⟩
          rw [← ex] at d0 d1 d2 d3 d4 d5 d6 d7 hq1 hio
          have HX : Hid (x = xs.getD k Iv.zero ∧ IvOne x) := ⟨ex, hio⟩
          have HQ : Hid (∀ W, Below w.heap.size w W → BIn W q x.c.2.2) := fun W hW => hq1.below hW
          obtain ⟨op, Eop⟩ : ∃ y, y = x.op := ⟨_, rfl⟩
          obtain ⟨r, Er⟩ : ∃ y, y = x.r := ⟨_, rfl⟩
          obtain ⟨a, Ea⟩ : ∃ y, y = x.a := ⟨_, rfl⟩
          obtain ⟨kd, Ekd⟩ : ∃ y, y = x.c.1 := ⟨_, rfl⟩
          obtain ⟨cn, Ecn⟩ : ∃ y, y = x.c.2.1 := ⟨_, rfl⟩
          obtain ⟨m, Em⟩ : ∃ y, y = x.c.2.2.length := ⟨_, rfl⟩
          obtain ⟨n, En⟩ : ∃ y, y = x.K.length := ⟨_, rfl⟩
          obtain ⟨l, El⟩ : ∃ y, y = x.L.length := ⟨_, rfl⟩
          have HEQ : Hid (op = x.op ∧ r = x.r ∧ a = x.a ∧ kd = x.c.1 ∧ cn = x.c.2.1 ∧ m = x.c.2.2.length) := ⟨Eop, Er, Ea, Ekd, Ecn, Em⟩
          rw [← Eop] at d0
          rw [← Er] at d1
          rw [← Ea] at d2
          rw [← Ekd] at d3
          rw [← Ecn] at d4
          rw [← Em] at d5
          rw [← En] at d6
          rw [← El] at d7
          have HOK : Hid (okI x = decide (0 ≤ op ∧ op ≤ 32 ∧ cellB kd cn m = true)) := by show _ = _; unfold okI; rw [← Eop, ← Ekd, ← Ecn, ← Em]
          have HBXX : Hid (∀ o, (wo.alloc o).heap[wo.heap.size]? = some o) := fun o => heap_alloc_new wo o
          have HBZ : Hid (∀ W, Below (wo.alloc (.cells #[.int .i64 op, .int .i64 r, .int .i64 a, .int .i64 kd, .int .i64 cn, .slice q m qc, .slice s n sc, .slice u l uc] 93)).heap.size (wo.alloc (.cells #[.int .i64 op, .int .i64 r, .int .i64 a, .int .i64 kd, .int .i64 cn, .slice q m qc, .slice s n sc, .slice u l uc] 93)) W → Below w.heap.size w W) := fun W hW => Below.on (Below.on HBW.out ((Below.refl _ _).alloc (Nat.le_refl _) _)) hW
          have hkN : (k : Int) < (N : Int) := by omega
          have hk0 : (0 : Int) ≤ (k : Int) := by omega
          clear hcs h0 hq1 hio ex Eop Er Ea Ekd Ecn Em En El hbl x0
          have HBAD : Hid (okI x = false → ∀ W, Below w.heap.size w W → LcO w T xs (.returned (.slice none 0 0)) W) := fun hb => HNIL.out (fun h => by have := h.2.2 k hkl; rw [← HX.out.1, hb] at this; cases this)
          by_cases ho1 : op < 0
          · have HR := HBAD.out (by rw [HOK.out]; exact decide_eq_false (by omega)) _ (HBZ.out _ (Below.refl _ _))
            have HRR : Hid _ := HR
            clear HR
            go_wp2_with fail
            go_ret
            exact HRR.out
          · by_cases ho2 : 32 < op
            · have HR := HBAD.out (by rw [HOK.out]; exact decide_eq_false (by omega)) _ (HBZ.out _ (Below.refl _ _))
              have HRR : Hid _ := HR
              clear HR
              go_wp2_with fail
              go_ret
              exact HRR.out
            · have HIC := l9constOK_any kd cn q m qc (wo.alloc (.cells #[.int .i64 op, .int .i64 r, .int .i64 a, .int .i64 kd, .int .i64 cn, .slice q m qc, .slice s n sc, .slice u l uc] 93))
              have ho3 : op < 33 := by omega
              cases hc : cellB kd cn m with
              | false =>
                rw [hc] at HIC
                have HRR : Hid (∀ W, Below w.heap.size w W → LcO w T xs (.returned (.slice none 0 0)) W) := HBAD.out (by rw [HOK.out]; exact decide_eq_false (by rw [hc]; simp))
                clear hc
                go_wp2_with fail
                refine HIC.mono ?_
                rintro e w5 ⟨rfl, hb5⟩
                have HR5 : Hid _ := HRR.out w5 (HBZ.out w5 hb5)
                clear hb5 HIC
                go_wp2_with fail
                go_ret
                exact HR5.out
              | true =>
                rw [hc] at HIC
                have HOT : Hid (okI x = true) := by show _ = _; rw [HOK.out]; exact decide_eq_true ⟨by omega, by omega, hc⟩
                have HCL : Hid (cellB kd cn m = true) := hc
                clear hc HBAD HOK
                obtain ⟨j, ej⟩ : ∃ j : Nat, op = (j : Int) := ⟨op.toNat, by omega⟩
                subst ej
                have hj : j < 33 := by omega
                have HD : Hid (∀ (v : Int) (W : World), -9223372036854775808 ≤ v → v < 9223372036854775808 → Calls Tryz.prog 48 #[.int .i64 v] W fun e w' => e = .returned (.string (strOfNums (decW v))) ∧ Below W.heap.size W w') := fun v W h1 h2 => l3dec64_any v W h1 h2
                obtain ⟨Wd, eWd⟩ : ∃ Wd, Wd = wordT j := ⟨_, rfl⟩
                obtain ⟨fs, efs⟩ : ∃ fs, fs = fldS j := ⟨_, rfl⟩
                have HW : Hid (∀ W, Calls Tryz.prog 47 #[.int .i64 (j : Int)] W fun e w' => e = .returned (.tuple #[.string (strOfNums Wd), .string (strOfNums fs)]) ∧ Below W.heap.size W w') := fun W => by rw [eWd, efs]; exact l9word_any j hj W
                have hwl := (wordT_all j hj).1
                rw [← eWd] at hwl
                have hdl := decW_len (k : Int)
                obtain ⟨sw, esw⟩ : ∃ sw, sw = strOfNums Wd := ⟨_, rfl⟩
                obtain ⟨sf, esf⟩ : ∃ sf, sf = strOfNums fs := ⟨_, rfl⟩
                obtain ⟨sk, esk⟩ : ∃ sk, sk = strOfNums (decW (k : Int)) := ⟨_, rfl⟩
                rw [← esw, ← esf] at HW
                have HDK : Hid (∀ W, Calls Tryz.prog 48 #[.int .i64 (k : Int)] W fun e w' => e = .returned (.string sk) ∧ Below W.heap.size W w') := fun W => by rw [esk]; exact HD.out k W (by omega) (by omega)
                have hs1 : sk.size ≤ 21 := by rw [esk, strOfNums_size]; exact hdl
                have hs2 : sw.size ≤ 10 := by rw [esw, strOfNums_size]; exact hwl
                have HLN : Hid (sk ++ ⟨#[32]⟩ ++ sw = strOfNums (decW (k : Int) ++ [32] ++ Wd)) := by show _ = _; rw [esk, esw]; rw [← str_app, ← str_app]; rfl
                have HFS : Hid (fs.length = (fldI j).length ∧ (∀ i, i < (fldI j).length → (fs.getD i 0 = 70 ∧ (fldI j).getD i 0 = 67 ∧ hfB j = true) ∨ (fs.getD i 0 = (fldI j).getD i 0 ∧ ((fldI j).getD i 0 = 67 → hfB j = false))) ∧ sf = strOfNums fs) := ⟨by rw [efs]; exact (fldS_all j hj).1, by rw [efs]; exact (fldS_all j hj).2, esf⟩
                have HWD : Hid (Wd = wordT j) := eWd
                clear hwl hdl esw esk eWd efs esf
                go_wp2_with fail
                refine HIC.mono ?_
                rintro e w5 ⟨rfl, hb5⟩
                have HBX : Hid (w5.heap[wo.heap.size]? = some (.cells #[.int .i64 (j : Int), .int .i64 r, .int .i64 a, .int .i64 kd, .int .i64 cn, .slice q m qc, .slice s n sc, .slice u l uc] 93)) := (hb5.block wo.heap.size (by simp)).trans (HBXX.out _)
                have HB5 : Hid (Below w.heap.size w w5 ∧ Below wo.heap.size wo w5) := ⟨HBZ.out w5 hb5, Below.on ((Below.refl _ _).alloc (Nat.le_refl _) _) hb5⟩
                have z0 : w5.cell? ⟨wo.heap.size, 0, none⟩ = some (.int .i64 (j : Int)) := by simp [World.cell?, HBX.out]
                clear hb5 HIC
                go_wp2_with fail
                refine (HW.out w5).mono ?_
                rintro e w6 ⟨rfl, hb6⟩
                have HB6 : Hid (Below w5.heap.size w5 w6) := hb6
                clear hb6 z0
                go_wp2_with fail
                refine (HDK.out w6).mono ?_
                rintro e w7 ⟨rfl, hb7⟩
                have HB7 : Hid (Below w5.heap.size w5 w7) := Below.on HB6.out hb7
                clear hb7
                go_wp2_with fail
                have HFL : Hid (fs.length = (fldI j).length ∧ (∀ i, i < (fldI j).length → (fs.getD i 0 = 70 ∧ (fldI j).getD i 0 = 67 ∧ hfB j = true) ∨ (fs.getD i 0 = (fldI j).getD i 0 ∧ ((fldI j).getD i 0 = 67 → hfB j = false))) ∧ sf = strOfNums fs) := HFS.out
                obtain ⟨L, eL⟩ : ∃ L, L = fs.length := ⟨_, rfl⟩
                have hsz : sf.size = L := by rw [HFL.out.2.2, strOfNums_size, eL]
                have HLL : Hid (L = fs.length) := eL
                have hL2 : L ≤ 2 := by have := (wordT_all j hj).2.1; have := HFL.out.1; omega
                clear eL
                go_loopw [10, 11] (fun ln v wr => ∃ (i : Nat) (Ln : List Int), i ≤ L ∧ v = .int .i64 i ∧ ln = .string (strOfNums Ln) ∧ Hid (Ln = decW (k : Int) ++ [32] ++ Wd ++ flT x ((fldI j).take i)) ∧ Hid (Below w5.heap.size w5 wr)) (fun _ v _ => L - (intOf v).toNat)
                case atStart => exact ⟨0, decW (k : Int) ++ [32] ++ Wd, Nat.zero_le _, rfl, by rw [HLN.out], by show _ = _; simp [flT], HB7.out⟩
                case round =>
                  obtain ⟨i, Ln, hi, rfl, rfl, HLx, HB8⟩ := hrel
                  have hLn : Ln.length ≤ 2000 := by rw [HLx.out, HWD.out]; exact ln_len _ _ _ _ hj
                  obtain ⟨sl, esl⟩ : ∃ sl, sl = strOfNums Ln := ⟨_, rfl⟩
                  have hsl : sl.size ≤ 2000 := by rw [esl, strOfNums_size]; exact hLn
                  have HSL : Hid (sl = strOfNums Ln ∧ Ln.length ≤ 2000) := ⟨esl, hLn⟩
                  rw [← esl]
                  clear esl hLn
                  have HBr : Hid (wr.heap[wo.heap.size]? = some (.cells #[.int .i64 (j : Int), .int .i64 r, .int .i64 a, .int .i64 kd, .int .i64 cn, .slice q m qc, .slice s n sc, .slice u l uc] 93)) := (HB8.out.block wo.heap.size (Array.getElem?_eq_some_iff.1 HBX.out).1).trans HBX.out
                  have HBw : Hid (Below w.heap.size w wr) := Below.on HB5.out.1 HB8.out
                  by_cases hil : i < L
                  · have hi0 : (0 : Int) ≤ (i : Int) := by omega
                    have hi1 : (i : Int) < (L : Int) := by omega
                    have his : i < sf.size := by omega
                    have hiF : i < (fldI j).length := by rw [← HFL.out.1, ← HLL.out]; exact hil
                    have HNX2 : Hid (∀ X, fT x ((fldI j).getD i 0) = X → Ln ++ (32 :: X) = decW (k : Int) ++ [32] ++ Wd ++ flT x ((fldI j).take (i + 1))) := fun X hX => by rw [HLx.out, fl_next x _ i hiF, hX]; simp only [List.append_assoc]
                    have HAT : Hid (∀ v : Int, 0 ≤ v → v < 256 → fs.getD i 0 = v → ((sf[i].toNat : Nat) : Int) = v) := fun v h0 h1 hv => letter_at HFL.out.2.2 his v h0 h1 hv
                    have hmem : (fldI j).getD i 0 = 82 ∨ (fldI j).getD i 0 = 65 ∨ (fldI j).getD i 0 = 67 := (wordT_all j hj).2.2.2 _ (by rw [List.getD_eq_getElem?_getD, List.getElem?_eq_getElem hiF]; exact List.getElem_mem hiF)
                    have HIO : Hid (IvOne x) := HX.out.2
                    rcases HFL.out.2.1 i hiF with ⟨el, e2, e3⟩ | ⟨e1, e2⟩
                    · skip
                      have b82 : (((sf[i].toNat : Nat) : Int) == 82) = false := by rw [HAT.out 70 (by omega) (by omega) el]; rfl
                      have b65 : (((sf[i].toNat : Nat) : Int) == 65) = false := by rw [HAT.out 70 (by omega) (by omega) el]; rfl
                      have b70 : (((sf[i].toNat : Nat) : Int) == 70) = true := by rw [HAT.out 70 (by omega) (by omega) el]; rfl
                      have HM : Hid (m ≤ 100 ∧ m = x.c.2.2.length ∧ cn = x.c.2.1) := ⟨by have := HCL.out; simp only [cellB, decide_eq_true_eq] at this; omega, HEQ.out.2.2.2.2.2, HEQ.out.2.2.2.2.1⟩
                      have HQA : Hid (∀ W, Below w.heap.size w W → Calls Tryz.prog 49 #[.slice q m qc] W fun e w' => ∃ p' n' c', e = .returned (.slice p' n' c') ∧ OwnS w' W.heap.size p' n' c' (quoteB x.c.2.2) ∧ Below W.heap.size W w') := fun W hW => by
                        have h1 := HM.out
                        rw [h1.2.1]
                        exact specQuote_in q qc x.c.2.2 W HIO.out.1 (by omega) (HQ.out W hW)
                      obtain ⟨sq, esq⟩ : ∃ sq, sq = strOfNums (quoteB x.c.2.2) := ⟨_, rfl⟩
                      have hsq : sq.size ≤ 601 := by rw [esq, strOfNums_size]; have := quote_lenW x.c.2.2; omega
                      have HSQ : Hid (sq = strOfNums (quoteB x.c.2.2)) := esq
                      obtain ⟨sd, esd⟩ : ∃ sd, sd = strOfNums (decW cn) := ⟨_, rfl⟩
                      have hsd : sd.size ≤ 21 := by rw [esd, strOfNums_size]; exact decW_len _
                      have HDR : Hid (∀ W, Calls Tryz.prog 48 #[.int .i64 cn] W fun e w' => e = .returned (.string sd) ∧ Below W.heap.size W w') := fun W => by rw [esd]; exact HD.out cn W (by rw [HM.out.2.2]; exact HIO.out.2.2.2.1) (by rw [HM.out.2.2]; exact HIO.out.2.2.2.2)
                      have HEND : Hid (sl ++ ((⟨#[32]⟩ ++ sq ++ ⟨#[47]⟩) ++ sd) = strOfNums (Ln ++ (32 :: funT x.c))) := by
                        show _ = _
                        rw [lit_app [32] sq _ esq ⟨#[32]⟩ rfl, lit_app ([32] ++ quoteB x.c.2.2) ⟨#[47]⟩ [47] rfl _ rfl, lit_app (([32] ++ quoteB x.c.2.2) ++ [47]) sd _ esd _ rfl, lit_app Ln _ _ rfl sl HSL.out.1, HM.out.2.2]
                        unfold funT
                        simp
                      have HNXT : Hid (Ln ++ (32 :: funT x.c) = decW (k : Int) ++ [32] ++ Wd ++ flT x ((fldI j).take (i + 1))) := HNX2.out _ (by unfold fT cellT; rw [if_neg (by omega), if_neg (by omega), ← HEQ.out.1, if_pos (.inl e3)])
                      have z3 : wr.cell? ⟨wo.heap.size, 3, none⟩ = some (.int .i64 kd) := by simp [World.cell?, HBr.out]
                      obtain ⟨wd, eD⟩ : ∃ Wd, Wd = World.drew wr := ⟨_, rfl⟩
                      have hbd : Below wr.heap.size wr wd := by rw [eD]; exact (Below.refl _ _).drew
                      have HDe : Hid (World.drew wr = wd) := eD.symm
                      have HBd : Hid (Below w5.heap.size w5 wd) := Below.on HB8.out hbd
                      have HSS : Hid (∀ W, Below w5.heap.size w5 W → W.cell? ⟨wo.heap.size, 5, none⟩ = some (.slice q m qc) ∧ W.cell? ⟨wo.heap.size, 4, none⟩ = some (.int .i64 cn)) := fun W hW => by
                        have := (hW.block wo.heap.size (Array.getElem?_eq_some_iff.1 HBX.out).1).trans HBX.out
                        exact ⟨by simp [World.cell?, this], by simp [World.cell?, this]⟩
                      have HCQ := HQA.out wd (Below.on HBw.out hbd)
                      clear esd esq eD hbd HAT HNX2 hiF el e2 e3 hmem
                      go_wp2_with fail
                      refine wp_region_held_drew (S := (fun W => W.cell? ⟨wo.heap.size, 5, none⟩ = some (.slice q m qc) ∧ W.cell? ⟨wo.heap.size, 4, none⟩ = some (.int .i64 cn))) (by kernel_rfl) ?_ (fun hHeld => ?_)
                      · rw [HDe.out]; exact HSS.out wd HBd.out
                      rw [HDe.out]
                      have hS0 := HSS.out wd HBd.out
                      refine hTake (i := 0) (v := .string sl) (some 105) (by kernel_rfl) (by kernel_rfl) (by kernel_rfl) (by kernel_rfl) (by kernel_rfl) (fun _ _ _ h => h) (fun o ho W hSw => ?y0) (by assumption) ?_
                      case y0 =>
                        cases ho
                        simp [execOp, go_sem, Act.eval]
                      simp only [Act.put, zzA, zzB, zzC]
                      refine hTake (i := 1) (v := .pointer (some ⟨wo.heap.size, 3, none⟩)) (some 106) (by kernel_rfl) (by kernel_rfl) (by kernel_rfl) (by kernel_rfl) (by kernel_rfl) (fun _ _ _ h => h) (fun o ho W hSw => ?y1) (by assumption) ?_
                      case y1 =>
                        cases ho
                        simp [execOp, go_sem, Act.eval]
                      simp only [Act.put, zzA, zzB, zzC]
                      refine hTake (i := 2) (v := .pointer (some ⟨wo.heap.size, 5, none⟩)) (some 107) (by kernel_rfl) (by kernel_rfl) (by kernel_rfl) (by kernel_rfl) (by kernel_rfl) (fun _ _ _ h => h) (fun o ho W hSw => ?y2) (by assumption) ?_
                      case y2 =>
                        cases ho
                        simp [execOp, go_sem, Act.eval]
                      simp only [Act.put, zzA, zzB, zzC]
                      refine hTake (i := 3) (v := .slice q m qc) (some 108) (by kernel_rfl) (by kernel_rfl) (by kernel_rfl) (by kernel_rfl) (by kernel_rfl) (fun _ _ _ h => h) (fun o ho W hSw => ?y3) (by assumption) ?_
                      case y3 =>
                        cases ho
                        obtain ⟨k0, k1⟩ := hSw
                        simp [execOp, go_sem, Act.eval, k0]
                      simp only [Act.put, zzA, zzB, zzC]
                      refine hTake (i := 8) (v := .pointer (some ⟨wo.heap.size, 3, none⟩)) (some 113) (by kernel_rfl) (by kernel_rfl) (by kernel_rfl) (by kernel_rfl) (by kernel_rfl) (fun _ _ _ h => h) (fun o ho W hSw => ?y4) (by assumption) ?_
                      case y4 =>
                        cases ho
                        simp [execOp, go_sem, Act.eval]
                      simp only [Act.put, zzA, zzB, zzC]
                      refine hTake (i := 9) (v := .pointer (some ⟨wo.heap.size, 4, none⟩)) (some 114) (by kernel_rfl) (by kernel_rfl) (by kernel_rfl) (by kernel_rfl) (by kernel_rfl) (fun _ _ _ h => h) (fun o ho W hSw => ?y5) (by assumption) ?_
                      case y5 =>
                        cases ho
                        simp [execOp, go_sem, Act.eval]
                      simp only [Act.put, zzA, zzB, zzC]
                      refine hTake (i := 10) (v := .int .i64 cn) (some 115) (by kernel_rfl) (by kernel_rfl) (by kernel_rfl) (by kernel_rfl) (by kernel_rfl) (fun _ _ _ h => h) (fun o ho W hSw => ?y6) (by assumption) ?_
                      case y6 =>
                        cases ho
                        obtain ⟨k0, k1⟩ := hSw
                        simp [execOp, go_sem, Act.eval, k1]
                      simp only [Act.put, zzA, zzB, zzC]
                      refine hCallE (i := 4) (f := 49) (args := #[.slice q m qc]) (some 109) (by kernel_rfl) (by kernel_rfl) (by kernel_rfl) (fun o ho => ?c7) HCQ ?k7 (fun ch w' hh => by obtain ⟨_, _, _, h, _⟩ := hh; cases h) (fun w' hh => by obtain ⟨_, _, _, h, _⟩ := hh; cases h)
                      case c7 =>
                        cases ho
                        simp [execOp, go_sem, Act.eval]
                      case k7 =>
                        rintro u w9 ⟨p9, n9, c9, hu, ho9, hb9⟩
                        injection hu with hu
                        subst hu
                        have HB9 : Hid (Below w5.heap.size w5 w9) := Below.on HBd.out hb9
                        have hS9 := HSS.out w9 HB9.out
                        have HCV : Hid (∀ W, Below w9.heap.size w9 W → (convert 28 9 (.slice p9 n9 c9)).run Tryz.prog W = .ok (.string sq) W) := fun W hW => by
                          rw [HSQ.out]
                          exact conv_str (ho9.toT.bin.below hW) n9 c9 ho9.1 9 Tryz.underlying9
                        refine ⟨hS9, ?_⟩
                        clear ho9 hb9 HCQ hS0
                        simp only [Act.put, zzA, zzB, zzC]
                        refine hBoth (i := 5) (j := 11) (by kernel_rfl) ?_ ?_
                        · skip
                          have cv := HCV.out w9 (Below.refl _ _)
                          refine opStep (v := .string sq) (w' := w9) (some 110) (by kernel_rfl) (by kernel_rfl) (fun o ho => ?ya) ⟨hS9, ?_⟩
                          case ya => cases ho; simp [execOp, go_sem, Act.eval, cv]
                          simp only [Act.put, zzA, zzB, zzC]
                          refine hTake (i := 6) (v := .string (⟨#[32]⟩ ++ sq)) (some 111) (by kernel_rfl) (by kernel_rfl) (by kernel_rfl) (by kernel_rfl) (by kernel_rfl) (fun _ _ _ h => h) (fun o ho W hSw => ?y8) (by assumption) ?_
                          case y8 =>
                            cases ho
                            simp [execOp, go_sem, Act.eval]
                            omega
                          simp only [Act.put, zzA, zzB, zzC]
                          refine hTake (i := 7) (v := .string (⟨#[32]⟩ ++ sq ++ ⟨#[47]⟩)) (some 112) (by kernel_rfl) (by kernel_rfl) (by kernel_rfl) (by kernel_rfl) (by kernel_rfl) (fun _ _ _ h => h) (fun o ho W hSw => ?y9) (by assumption) ?_
                          case y9 =>
                            cases ho
                            simp [execOp, go_sem, Act.eval]
                            omega
                          simp only [Act.put, zzA, zzB, zzC]
                          refine hCallE (i := 11) (f := 48) (args := #[.int .i64 cn]) (some 116) (by kernel_rfl) (by kernel_rfl) (by kernel_rfl) (fun o ho => ?c10) (HDR.out w9) ?k10 (fun ch w' hh => by cases hh.1) (fun w' hh => by cases hh.1)
                          case c10 =>
                            cases ho
                            simp [execOp, go_sem, Act.eval]
                          case k10 =>
                            rintro u w10 ⟨hu, hb10⟩
                            injection hu with hu
                            subst hu
                            have HBe : Hid (Below w5.heap.size w5 w10) := Below.on HB9.out hb10
                            have hS10 := HSS.out w10 HBe.out
                            refine ⟨hS10, ?_⟩
                            clear hb10 hS9 cv
                            simp only [Act.put, zzA, zzB, zzC]
                            refine hTake (i := 12) (v := .string ((⟨#[32]⟩ ++ sq ++ ⟨#[47]⟩) ++ sd)) (some 117) (by kernel_rfl) (by kernel_rfl) (by kernel_rfl) (by kernel_rfl) (by kernel_rfl) (fun _ _ _ h => h) (fun o ho W hSw => ?y11) (by assumption) ?_
                            case y11 =>
                              cases ho
                              simp [execOp, go_sem, Act.eval]
                              omega
                            simp only [Act.put, zzA, zzB, zzC]
                            refine hTake (i := 13) (v := .string (sl ++ ((⟨#[32]⟩ ++ sq ++ ⟨#[47]⟩) ++ sd))) (some 118) (by kernel_rfl) (by kernel_rfl) (by kernel_rfl) (by kernel_rfl) (by kernel_rfl) (fun _ _ _ h => h) (fun o ho W hSw => ?y12) (by assumption) ?_
                            case y12 =>
                              cases ho
                              simp [execOp, go_sem, Act.eval]
                              omega
                            simp only [Act.put, zzA, zzB, zzC]
                            refine hTake (i := 14) (v := .string (sl ++ ((⟨#[32]⟩ ++ sq ++ ⟨#[47]⟩) ++ sd))) (some 10) (by kernel_rfl) (by kernel_rfl) (by kernel_rfl) (by kernel_rfl) (by kernel_rfl) (fun _ _ _ h => h) (fun o ho W hSw => ?y13) (by assumption) ?_
                            case y13 =>
                              cases ho
                              simp [execOp, go_sem, Act.eval]
                            simp only [Act.put, zzA, zzB, zzC]
                            refine wpAnyH_done (by kernel_rfl) ?_ _
                            go_wp2_with fail
                            go_roundw
                            case rel => exact ⟨i + 1, _, by omega, by go_num, by rw [HEND.out], HNXT.out, HBe.out⟩
                            case measure => simp [intOf]; omega
                        · skip
                          refine opCall (f := 48) (args := #[.int .i64 cn]) (some 116) (by kernel_rfl) (by kernel_rfl) (fun o ho => ?yb) (HDR.out w9) (fun u w10 hu => ?_) (fun ch w' h => by cases h.1) (fun w' h => by cases h.1)
                          case yb => cases ho; simp [execOp, go_sem, Act.eval]
                          obtain ⟨hu, hb10⟩ := hu
                          cases hu
                          have HBe : Hid (Below w5.heap.size w5 w10) := Below.on HB9.out hb10
                          have hS10 := HSS.out w10 HBe.out
                          have cv := HCV.out w10 hb10
                          refine ⟨hS10, ?_⟩
                          clear hb10 hS9
                          simp only [Act.put, zzA, zzB, zzC]
                          refine hStep (i := 5) (v := .string sq) (w' := w10) (some 110) (by kernel_rfl) (by kernel_rfl) (by kernel_rfl) (fun o ho => ?y14) hS10 ?_
                          case y14 =>
                            cases ho
                            simp [execOp, go_sem, Act.eval, cv]
                          simp only [Act.put, zzA, zzB, zzC]
                          refine hTake (i := 6) (v := .string (⟨#[32]⟩ ++ sq)) (some 111) (by kernel_rfl) (by kernel_rfl) (by kernel_rfl) (by kernel_rfl) (by kernel_rfl) (fun _ _ _ h => h) (fun o ho W hSw => ?y15) (by assumption) ?_
                          case y15 =>
                            cases ho
                            simp [execOp, go_sem, Act.eval]
                            omega
                          simp only [Act.put, zzA, zzB, zzC]
                          refine hTake (i := 7) (v := .string (⟨#[32]⟩ ++ sq ++ ⟨#[47]⟩)) (some 112) (by kernel_rfl) (by kernel_rfl) (by kernel_rfl) (by kernel_rfl) (by kernel_rfl) (fun _ _ _ h => h) (fun o ho W hSw => ?y16) (by assumption) ?_
                          case y16 =>
                            cases ho
                            simp [execOp, go_sem, Act.eval]
                            omega
                          simp only [Act.put, zzA, zzB, zzC]
                          refine hTake (i := 12) (v := .string ((⟨#[32]⟩ ++ sq ++ ⟨#[47]⟩) ++ sd)) (some 117) (by kernel_rfl) (by kernel_rfl) (by kernel_rfl) (by kernel_rfl) (by kernel_rfl) (fun _ _ _ h => h) (fun o ho W hSw => ?y17) (by assumption) ?_
                          case y17 =>
                            cases ho
                            simp [execOp, go_sem, Act.eval]
                            omega
                          simp only [Act.put, zzA, zzB, zzC]
                          refine hTake (i := 13) (v := .string (sl ++ ((⟨#[32]⟩ ++ sq ++ ⟨#[47]⟩) ++ sd))) (some 118) (by kernel_rfl) (by kernel_rfl) (by kernel_rfl) (by kernel_rfl) (by kernel_rfl) (fun _ _ _ h => h) (fun o ho W hSw => ?y18) (by assumption) ?_
                          case y18 =>
                            cases ho
                            simp [execOp, go_sem, Act.eval]
                            omega
                          simp only [Act.put, zzA, zzB, zzC]
                          refine hTake (i := 14) (v := .string (sl ++ ((⟨#[32]⟩ ++ sq ++ ⟨#[47]⟩) ++ sd))) (some 10) (by kernel_rfl) (by kernel_rfl) (by kernel_rfl) (by kernel_rfl) (by kernel_rfl) (fun _ _ _ h => h) (fun o ho W hSw => ?y19) (by assumption) ?_
                          case y19 =>
                            cases ho
                            simp [execOp, go_sem, Act.eval]
                          simp only [Act.put, zzA, zzB, zzC]
                          refine wpAnyH_done (by kernel_rfl) ?_ _
                          go_wp2_with fail
                          go_roundw
                          case rel => exact ⟨i + 1, _, by omega, by go_num, by rw [HEND.out], HNXT.out, HBe.out⟩
                          case measure => simp [intOf]; omega
                    · rcases hmem with h82 | h65 | h67
                      · have el : fs.getD i 0 = 82 := e1.trans h82
                        have b82 : (((sf[i].toNat : Nat) : Int) == 82) = true := by rw [HAT.out 82 (by omega) (by omega) el]; rfl
                        by_cases hr0 : 0 ≤ r
                        · skip
                          have z : wr.cell? ⟨wo.heap.size, 1, none⟩ = some (.int .i64 r) := by simp [World.cell?, HBr.out]
                          obtain ⟨sd, esd⟩ : ∃ sd, sd = strOfNums (decW r) := ⟨_, rfl⟩
                          have hsd : sd.size ≤ 21 := by rw [esd, strOfNums_size]; exact decW_len _
                          have HDR : Calls Tryz.prog 48 #[.int .i64 r] wr fun e w' => e = .returned (.string sd) ∧ Below wr.heap.size wr w' := by rw [esd]; exact HD.out r wr (by omega) (by rw [HEQ.out.2.1]; exact HIO.out.2.1.2)
                          have HEND : Hid (sl ++ (⟨#[32, 120]⟩ ++ sd) = strOfNums (Ln ++ (32 :: (120 :: decW r)))) := lit_app _ _ _ (lit_app [32, 120] sd _ esd ⟨#[32, 120]⟩ rfl) sl HSL.out.1
                          have HNXT : Hid (Ln ++ (32 :: (120 :: decW r)) = decW (k : Int) ++ [32] ++ Wd ++ flT x ((fldI j).take (i + 1))) := HNX2.out _ (by rw [h82]; unfold fT regT; rw [if_pos rfl, ← HEQ.out.2.1, if_neg (by omega)])
                          clear esd HAT HNX2 hiF el e1 e2 h82
                          go_wp2_with fail
                          refine HDR.mono ?_
                          rintro e w9 ⟨rfl, hb9⟩
                          have HB9 : Hid (Below w5.heap.size w5 w9) := Below.on HB8.out hb9
                          clear hb9 HDR z
                          go_wp2_with fail
                          go_roundw
                          case rel => exact ⟨i + 1, _, by omega, by go_num, by rw [HEND.out], HNXT.out, HB9.out⟩
                          case measure => simp [intOf]; omega
                        · skip
                          have z : wr.cell? ⟨wo.heap.size, 1, none⟩ = some (.int .i64 r) := by simp [World.cell?, HBr.out]
                          obtain ⟨d, hd⟩ : ∃ d : Int, d = -1 - r := ⟨_, rfl⟩
                          obtain ⟨nr, hnr, hw1, hw2⟩ : ∃ nr : Int, True ∧ IntKind.i64.wrap (-r) = nr ∧ IntKind.i64.wrap (nr - 1) = d := ⟨_, trivial, rfl, by rw [hd]; exact neg_pred r (by rw [HEQ.out.2.1]; exact HIO.out.2.1.1) (by omega)⟩
                          have hr1 : r < 0 := by omega
                          obtain ⟨sd, esd⟩ : ∃ sd, sd = strOfNums (decW d) := ⟨_, rfl⟩
                          have hsd : sd.size ≤ 21 := by rw [esd, strOfNums_size]; exact decW_len _
                          have HDR : Calls Tryz.prog 48 #[.int .i64 d] wr fun e w' => e = .returned (.string sd) ∧ Below wr.heap.size wr w' := by rw [esd]; exact HD.out d wr (by omega) (by have := HIO.out.2.1.1; rw [← HEQ.out.2.1] at this; omega)
                          have HEND : Hid (sl ++ (⟨#[32, 121]⟩ ++ sd) = strOfNums (Ln ++ (32 :: (121 :: decW d)))) := lit_app _ _ _ (lit_app [32, 121] sd _ esd ⟨#[32, 121]⟩ rfl) sl HSL.out.1
                          have HNXT : Hid (Ln ++ (32 :: (121 :: decW d)) = decW (k : Int) ++ [32] ++ Wd ++ flT x ((fldI j).take (i + 1))) := HNX2.out _ (by rw [h82, hd]; unfold fT regT; rw [if_pos rfl, ← HEQ.out.2.1, if_pos (by omega)])
                          clear esd HAT HNX2 hiF el e1 e2 h82 hd hnr
                          go_wp2_with fail
                          refine HDR.mono ?_
                          rintro e w9 ⟨rfl, hb9⟩
                          have HB9 : Hid (Below w5.heap.size w5 w9) := Below.on HB8.out hb9
                          clear hb9 HDR z
                          go_wp2_with fail
                          go_roundw
                          case rel => exact ⟨i + 1, _, by omega, by go_num, by rw [HEND.out], HNXT.out, HB9.out⟩
                          case measure => simp [intOf]; omega
                      · have el : fs.getD i 0 = 65 := e1.trans h65
                        have b82 : (((sf[i].toNat : Nat) : Int) == 82) = false := by rw [HAT.out 65 (by omega) (by omega) el]; rfl
                        have b65 : (((sf[i].toNat : Nat) : Int) == 65) = true := by rw [HAT.out 65 (by omega) (by omega) el]; rfl
                        have z : wr.cell? ⟨wo.heap.size, 2, none⟩ = some (.int .i64 a) := by simp [World.cell?, HBr.out]
                        obtain ⟨sd, esd⟩ : ∃ sd, sd = strOfNums (decW a) := ⟨_, rfl⟩
                        have hsd : sd.size ≤ 21 := by rw [esd, strOfNums_size]; exact decW_len _
                        have HDR : Calls Tryz.prog 48 #[.int .i64 a] wr fun e w' => e = .returned (.string sd) ∧ Below wr.heap.size wr w' := by rw [esd]; exact HD.out a wr (by rw [HEQ.out.2.2.1]; exact HIO.out.2.2.1.1) (by rw [HEQ.out.2.2.1]; exact HIO.out.2.2.1.2)
                        have HEND : Hid (sl ++ (⟨#[32, 97]⟩ ++ sd) = strOfNums (Ln ++ (32 :: (97 :: decW a)))) := lit_app _ _ _ (lit_app [32, 97] sd _ esd ⟨#[32, 97]⟩ rfl) sl HSL.out.1
                        have HNXT : Hid (Ln ++ (32 :: (97 :: decW a)) = decW (k : Int) ++ [32] ++ Wd ++ flT x ((fldI j).take (i + 1))) := HNX2.out _ (by rw [h65]; unfold fT; rw [if_neg (by omega), if_pos rfl, ← HEQ.out.2.2.1])
                        clear esd HAT HNX2 hiF el e1 e2 h65
                        go_wp2_with fail
                        refine HDR.mono ?_
                        rintro e w9 ⟨rfl, hb9⟩
                        have HB9 : Hid (Below w5.heap.size w5 w9) := Below.on HB8.out hb9
                        clear hb9 HDR z
                        go_wp2_with fail
                        go_roundw
                        case rel => exact ⟨i + 1, _, by omega, by go_num, by rw [HEND.out], HNXT.out, HB9.out⟩
                        case measure => simp [intOf]; omega
                      · have el : fs.getD i 0 = 67 := e1.trans h67
                        have b82 : (((sf[i].toNat : Nat) : Int) == 82) = false := by rw [HAT.out 67 (by omega) (by omega) el]; rfl
                        have b65 : (((sf[i].toNat : Nat) : Int) == 65) = false := by rw [HAT.out 67 (by omega) (by omega) el]; rfl
                        have b70 : (((sf[i].toNat : Nat) : Int) == 70) = false := by rw [HAT.out 67 (by omega) (by omega) el]; rfl
                        have hno := e2 h67
                        by_cases hk3 : kd = 3
                        · have bk : ((kd == 3)) = true := by simp [hk3]
                          have HM : Hid (m ≤ 100 ∧ m = x.c.2.2.length ∧ cn = x.c.2.1) := ⟨by have := HCL.out; simp only [cellB, decide_eq_true_eq] at this; omega, HEQ.out.2.2.2.2.2, HEQ.out.2.2.2.2.1⟩
                          have HQA : Hid (∀ W, Below w.heap.size w W → Calls Tryz.prog 49 #[.slice q m qc] W fun e w' => ∃ p' n' c', e = .returned (.slice p' n' c') ∧ OwnS w' W.heap.size p' n' c' (quoteB x.c.2.2) ∧ Below W.heap.size W w') := fun W hW => by
                            have h1 := HM.out
                            rw [h1.2.1]
                            exact specQuote_in q qc x.c.2.2 W HIO.out.1 (by omega) (HQ.out W hW)
                          obtain ⟨sq, esq⟩ : ∃ sq, sq = strOfNums (quoteB x.c.2.2) := ⟨_, rfl⟩
                          have hsq : sq.size ≤ 601 := by rw [esq, strOfNums_size]; have := quote_lenW x.c.2.2; omega
                          have HSQ : Hid (sq = strOfNums (quoteB x.c.2.2)) := esq
                          obtain ⟨sd, esd⟩ : ∃ sd, sd = strOfNums (decW cn) := ⟨_, rfl⟩
                          have hsd : sd.size ≤ 21 := by rw [esd, strOfNums_size]; exact decW_len _
                          have HDR : Hid (∀ W, Calls Tryz.prog 48 #[.int .i64 cn] W fun e w' => e = .returned (.string sd) ∧ Below W.heap.size W w') := fun W => by rw [esd]; exact HD.out cn W (by rw [HM.out.2.2]; exact HIO.out.2.2.2.1) (by rw [HM.out.2.2]; exact HIO.out.2.2.2.2)
                          have HEND : Hid (sl ++ ((⟨#[32]⟩ ++ sq ++ ⟨#[47]⟩) ++ sd) = strOfNums (Ln ++ (32 :: funT x.c))) := by
                            show _ = _
                            rw [lit_app [32] sq _ esq ⟨#[32]⟩ rfl, lit_app ([32] ++ quoteB x.c.2.2) ⟨#[47]⟩ [47] rfl _ rfl, lit_app (([32] ++ quoteB x.c.2.2) ++ [47]) sd _ esd _ rfl, lit_app Ln _ _ rfl sl HSL.out.1, HM.out.2.2]
                            unfold funT
                            simp
                          have HNXT : Hid (Ln ++ (32 :: funT x.c) = decW (k : Int) ++ [32] ++ Wd ++ flT x ((fldI j).take (i + 1))) := HNX2.out _ (by rw [h67]; unfold fT cellT; rw [if_neg (by omega), if_neg (by omega), if_pos (.inr (by rw [← HEQ.out.2.2.2.1]; exact hk3))])
                          have z3 : wr.cell? ⟨wo.heap.size, 3, none⟩ = some (.int .i64 kd) := by simp [World.cell?, HBr.out]
                          obtain ⟨wd, eD⟩ : ∃ Wd, Wd = World.drew wr := ⟨_, rfl⟩
                          have hbd : Below wr.heap.size wr wd := by rw [eD]; exact (Below.refl _ _).drew
                          have HDe : Hid (World.drew wr = wd) := eD.symm
                          have HBd : Hid (Below w5.heap.size w5 wd) := Below.on HB8.out hbd
                          have HSS : Hid (∀ W, Below w5.heap.size w5 W → W.cell? ⟨wo.heap.size, 5, none⟩ = some (.slice q m qc) ∧ W.cell? ⟨wo.heap.size, 4, none⟩ = some (.int .i64 cn)) := fun W hW => by
                            have := (hW.block wo.heap.size (Array.getElem?_eq_some_iff.1 HBX.out).1).trans HBX.out
                            exact ⟨by simp [World.cell?, this], by simp [World.cell?, this]⟩
                          have HCQ := HQA.out wd (Below.on HBw.out hbd)
                          clear esd esq eD hbd HAT HNX2 hiF el e1 e2 h67 hno hk3
                          go_wp2_with fail
                          refine wp_region_held_drew (S := (fun W => W.cell? ⟨wo.heap.size, 5, none⟩ = some (.slice q m qc) ∧ W.cell? ⟨wo.heap.size, 4, none⟩ = some (.int .i64 cn))) (by kernel_rfl) ?_ (fun hHeld => ?_)
                          · rw [HDe.out]; exact HSS.out wd HBd.out
                          rw [HDe.out]
                          have hS0 := HSS.out wd HBd.out
                          refine hTake (i := 0) (v := .string sl) (some 123) (by kernel_rfl) (by kernel_rfl) (by kernel_rfl) (by kernel_rfl) (by kernel_rfl) (fun _ _ _ h => h) (fun o ho W hSw => ?y0) (by assumption) ?_
                          case y0 =>
                            cases ho
                            simp [execOp, go_sem, Act.eval]
                          simp only [Act.put, zzA, zzB, zzC]
                          refine hTake (i := 1) (v := .pointer (some ⟨wo.heap.size, 3, none⟩)) (some 124) (by kernel_rfl) (by kernel_rfl) (by kernel_rfl) (by kernel_rfl) (by kernel_rfl) (fun _ _ _ h => h) (fun o ho W hSw => ?y1) (by assumption) ?_
                          case y1 =>
                            cases ho
                            simp [execOp, go_sem, Act.eval]
                          simp only [Act.put, zzA, zzB, zzC]
                          refine hTake (i := 2) (v := .pointer (some ⟨wo.heap.size, 5, none⟩)) (some 125) (by kernel_rfl) (by kernel_rfl) (by kernel_rfl) (by kernel_rfl) (by kernel_rfl) (fun _ _ _ h => h) (fun o ho W hSw => ?y2) (by assumption) ?_
                          case y2 =>
                            cases ho
                            simp [execOp, go_sem, Act.eval]
                          simp only [Act.put, zzA, zzB, zzC]
                          refine hTake (i := 3) (v := .slice q m qc) (some 126) (by kernel_rfl) (by kernel_rfl) (by kernel_rfl) (by kernel_rfl) (by kernel_rfl) (fun _ _ _ h => h) (fun o ho W hSw => ?y3) (by assumption) ?_
                          case y3 =>
                            cases ho
                            obtain ⟨k0, k1⟩ := hSw
                            simp [execOp, go_sem, Act.eval, k0]
                          simp only [Act.put, zzA, zzB, zzC]
                          refine hTake (i := 8) (v := .pointer (some ⟨wo.heap.size, 3, none⟩)) (some 131) (by kernel_rfl) (by kernel_rfl) (by kernel_rfl) (by kernel_rfl) (by kernel_rfl) (fun _ _ _ h => h) (fun o ho W hSw => ?y4) (by assumption) ?_
                          case y4 =>
                            cases ho
                            simp [execOp, go_sem, Act.eval]
                          simp only [Act.put, zzA, zzB, zzC]
                          refine hTake (i := 9) (v := .pointer (some ⟨wo.heap.size, 4, none⟩)) (some 132) (by kernel_rfl) (by kernel_rfl) (by kernel_rfl) (by kernel_rfl) (by kernel_rfl) (fun _ _ _ h => h) (fun o ho W hSw => ?y5) (by assumption) ?_
                          case y5 =>
                            cases ho
                            simp [execOp, go_sem, Act.eval]
                          simp only [Act.put, zzA, zzB, zzC]
                          refine hTake (i := 10) (v := .int .i64 cn) (some 133) (by kernel_rfl) (by kernel_rfl) (by kernel_rfl) (by kernel_rfl) (by kernel_rfl) (fun _ _ _ h => h) (fun o ho W hSw => ?y6) (by assumption) ?_
                          case y6 =>
                            cases ho
                            obtain ⟨k0, k1⟩ := hSw
                            simp [execOp, go_sem, Act.eval, k1]
                          simp only [Act.put, zzA, zzB, zzC]
                          refine hCallE (i := 4) (f := 49) (args := #[.slice q m qc]) (some 127) (by kernel_rfl) (by kernel_rfl) (by kernel_rfl) (fun o ho => ?c7) HCQ ?k7 (fun ch w' hh => by obtain ⟨_, _, _, h, _⟩ := hh; cases h) (fun w' hh => by obtain ⟨_, _, _, h, _⟩ := hh; cases h)
                          case c7 =>
                            cases ho
                            simp [execOp, go_sem, Act.eval]
                          case k7 =>
                            rintro u w9 ⟨p9, n9, c9, hu, ho9, hb9⟩
                            injection hu with hu
                            subst hu
                            have HB9 : Hid (Below w5.heap.size w5 w9) := Below.on HBd.out hb9
                            have hS9 := HSS.out w9 HB9.out
                            have HCV : Hid (∀ W, Below w9.heap.size w9 W → (convert 28 9 (.slice p9 n9 c9)).run Tryz.prog W = .ok (.string sq) W) := fun W hW => by
                              rw [HSQ.out]
                              exact conv_str (ho9.toT.bin.below hW) n9 c9 ho9.1 9 Tryz.underlying9
                            refine ⟨hS9, ?_⟩
                            clear ho9 hb9 HCQ hS0
                            simp only [Act.put, zzA, zzB, zzC]
                            refine hBoth (i := 5) (j := 11) (by kernel_rfl) ?_ ?_
                            · skip
                              have cv := HCV.out w9 (Below.refl _ _)
                              refine opStep (v := .string sq) (w' := w9) (some 128) (by kernel_rfl) (by kernel_rfl) (fun o ho => ?ya) ⟨hS9, ?_⟩
                              case ya => cases ho; simp [execOp, go_sem, Act.eval, cv]
                              simp only [Act.put, zzA, zzB, zzC]
                              refine hTake (i := 6) (v := .string (⟨#[32]⟩ ++ sq)) (some 129) (by kernel_rfl) (by kernel_rfl) (by kernel_rfl) (by kernel_rfl) (by kernel_rfl) (fun _ _ _ h => h) (fun o ho W hSw => ?y8) (by assumption) ?_
                              case y8 =>
                                cases ho
                                simp [execOp, go_sem, Act.eval]
                                omega
                              simp only [Act.put, zzA, zzB, zzC]
                              refine hTake (i := 7) (v := .string (⟨#[32]⟩ ++ sq ++ ⟨#[47]⟩)) (some 130) (by kernel_rfl) (by kernel_rfl) (by kernel_rfl) (by kernel_rfl) (by kernel_rfl) (fun _ _ _ h => h) (fun o ho W hSw => ?y9) (by assumption) ?_
                              case y9 =>
                                cases ho
                                simp [execOp, go_sem, Act.eval]
                                omega
                              simp only [Act.put, zzA, zzB, zzC]
                              refine hCallE (i := 11) (f := 48) (args := #[.int .i64 cn]) (some 134) (by kernel_rfl) (by kernel_rfl) (by kernel_rfl) (fun o ho => ?c10) (HDR.out w9) ?k10 (fun ch w' hh => by cases hh.1) (fun w' hh => by cases hh.1)
                              case c10 =>
                                cases ho
                                simp [execOp, go_sem, Act.eval]
                              case k10 =>
                                rintro u w10 ⟨hu, hb10⟩
                                injection hu with hu
                                subst hu
                                have HBe : Hid (Below w5.heap.size w5 w10) := Below.on HB9.out hb10
                                have hS10 := HSS.out w10 HBe.out
                                refine ⟨hS10, ?_⟩
                                clear hb10 hS9 cv
                                simp only [Act.put, zzA, zzB, zzC]
                                refine hTake (i := 12) (v := .string ((⟨#[32]⟩ ++ sq ++ ⟨#[47]⟩) ++ sd)) (some 135) (by kernel_rfl) (by kernel_rfl) (by kernel_rfl) (by kernel_rfl) (by kernel_rfl) (fun _ _ _ h => h) (fun o ho W hSw => ?y11) (by assumption) ?_
                                case y11 =>
                                  cases ho
                                  simp [execOp, go_sem, Act.eval]
                                  omega
                                simp only [Act.put, zzA, zzB, zzC]
                                refine hTake (i := 13) (v := .string (sl ++ ((⟨#[32]⟩ ++ sq ++ ⟨#[47]⟩) ++ sd))) (some 136) (by kernel_rfl) (by kernel_rfl) (by kernel_rfl) (by kernel_rfl) (by kernel_rfl) (fun _ _ _ h => h) (fun o ho W hSw => ?y12) (by assumption) ?_
                                case y12 =>
                                  cases ho
                                  simp [execOp, go_sem, Act.eval]
                                  omega
                                simp only [Act.put, zzA, zzB, zzC]
                                refine hTake (i := 14) (v := .string (sl ++ ((⟨#[32]⟩ ++ sq ++ ⟨#[47]⟩) ++ sd))) (some 10) (by kernel_rfl) (by kernel_rfl) (by kernel_rfl) (by kernel_rfl) (by kernel_rfl) (fun _ _ _ h => h) (fun o ho W hSw => ?y13) (by assumption) ?_
                                case y13 =>
                                  cases ho
                                  simp [execOp, go_sem, Act.eval]
                                simp only [Act.put, zzA, zzB, zzC]
                                refine wpAnyH_done (by kernel_rfl) ?_ _
                                go_wp2_with fail
                                go_roundw
                                case rel => exact ⟨i + 1, _, by omega, by go_num, by rw [HEND.out], HNXT.out, HBe.out⟩
                                case measure => simp [intOf]; omega
                            · skip
                              refine opCall (f := 48) (args := #[.int .i64 cn]) (some 134) (by kernel_rfl) (by kernel_rfl) (fun o ho => ?yb) (HDR.out w9) (fun u w10 hu => ?_) (fun ch w' h => by cases h.1) (fun w' h => by cases h.1)
                              case yb => cases ho; simp [execOp, go_sem, Act.eval]
                              obtain ⟨hu, hb10⟩ := hu
                              cases hu
                              have HBe : Hid (Below w5.heap.size w5 w10) := Below.on HB9.out hb10
                              have hS10 := HSS.out w10 HBe.out
                              have cv := HCV.out w10 hb10
                              refine ⟨hS10, ?_⟩
                              clear hb10 hS9
                              simp only [Act.put, zzA, zzB, zzC]
                              refine hStep (i := 5) (v := .string sq) (w' := w10) (some 128) (by kernel_rfl) (by kernel_rfl) (by kernel_rfl) (fun o ho => ?y14) hS10 ?_
                              case y14 =>
                                cases ho
                                simp [execOp, go_sem, Act.eval, cv]
                              simp only [Act.put, zzA, zzB, zzC]
                              refine hTake (i := 6) (v := .string (⟨#[32]⟩ ++ sq)) (some 129) (by kernel_rfl) (by kernel_rfl) (by kernel_rfl) (by kernel_rfl) (by kernel_rfl) (fun _ _ _ h => h) (fun o ho W hSw => ?y15) (by assumption) ?_
                              case y15 =>
                                cases ho
                                simp [execOp, go_sem, Act.eval]
                                omega
                              simp only [Act.put, zzA, zzB, zzC]
                              refine hTake (i := 7) (v := .string (⟨#[32]⟩ ++ sq ++ ⟨#[47]⟩)) (some 130) (by kernel_rfl) (by kernel_rfl) (by kernel_rfl) (by kernel_rfl) (by kernel_rfl) (fun _ _ _ h => h) (fun o ho W hSw => ?y16) (by assumption) ?_
                              case y16 =>
                                cases ho
                                simp [execOp, go_sem, Act.eval]
                                omega
                              simp only [Act.put, zzA, zzB, zzC]
                              refine hTake (i := 12) (v := .string ((⟨#[32]⟩ ++ sq ++ ⟨#[47]⟩) ++ sd)) (some 135) (by kernel_rfl) (by kernel_rfl) (by kernel_rfl) (by kernel_rfl) (by kernel_rfl) (fun _ _ _ h => h) (fun o ho W hSw => ?y17) (by assumption) ?_
                              case y17 =>
                                cases ho
                                simp [execOp, go_sem, Act.eval]
                                omega
                              simp only [Act.put, zzA, zzB, zzC]
                              refine hTake (i := 13) (v := .string (sl ++ ((⟨#[32]⟩ ++ sq ++ ⟨#[47]⟩) ++ sd))) (some 136) (by kernel_rfl) (by kernel_rfl) (by kernel_rfl) (by kernel_rfl) (by kernel_rfl) (fun _ _ _ h => h) (fun o ho W hSw => ?y18) (by assumption) ?_
                              case y18 =>
                                cases ho
                                simp [execOp, go_sem, Act.eval]
                                omega
                              simp only [Act.put, zzA, zzB, zzC]
                              refine hTake (i := 14) (v := .string (sl ++ ((⟨#[32]⟩ ++ sq ++ ⟨#[47]⟩) ++ sd))) (some 10) (by kernel_rfl) (by kernel_rfl) (by kernel_rfl) (by kernel_rfl) (by kernel_rfl) (fun _ _ _ h => h) (fun o ho W hSw => ?y19) (by assumption) ?_
                              case y19 =>
                                cases ho
                                simp [execOp, go_sem, Act.eval]
                              simp only [Act.put, zzA, zzB, zzC]
                              refine wpAnyH_done (by kernel_rfl) ?_ _
                              go_wp2_with fail
                              go_roundw
                              case rel => exact ⟨i + 1, _, by omega, by go_num, by rw [HEND.out], HNXT.out, HBe.out⟩
                              case measure => simp [intOf]; omega
                        · have bk : ((kd == 3)) = false := by simp [hk3]
                          have HC3 : Hid (x.c.1 ≠ 3 ∧ cellB x.c.1 x.c.2.1 x.c.2.2.length = true) := ⟨by rw [← HEQ.out.2.2.2.1]; exact hk3, by rw [← HEQ.out.2.2.2.1, ← HEQ.out.2.2.2.2.1, ← HEQ.out.2.2.2.2.2]; exact HCL.out⟩
                          have HNXT : Hid (Ln ++ (32 :: leafW x.c) = decW (k : Int) ++ [32] ++ Wd ++ flT x ((fldI j).take (i + 1))) := HNX2.out _ (by rw [h67]; unfold fT cellT; rw [if_neg (by omega), if_neg (by omega), ← HEQ.out.1, if_neg (fun h => h.elim (fun h => by rw [hno] at h; cases h) (fun h => HC3.out.1 h))])
                          obtain ⟨sq, esq⟩ : ∃ sq, sq = strOfNums (leafW x.c) := ⟨_, rfl⟩
                          have hsq : sq.size ≤ 601 := by rw [esq, strOfNums_size]; exact leafW_len _
                          have HEND : Hid (sl ++ (⟨#[32]⟩ ++ sq) = strOfNums (Ln ++ (32 :: leafW x.c))) := lit_app _ _ _ (lit_app [32] sq _ esq ⟨#[32]⟩ rfl) sl HSL.out.1
                          have z3 : wr.cell? ⟨wo.heap.size, 3, none⟩ = some (.int .i64 kd) := by simp [World.cell?, HBr.out]
                          have z4 : wr.cell? ⟨wo.heap.size, 3 + 1, none⟩ = some (.int .i64 cn) := by simp [World.cell?, HBr.out]
                          have z5 : wr.cell? ⟨wo.heap.size, 3 + 2, none⟩ = some (.slice q m qc) := by simp [World.cell?, HBr.out]
                          obtain ⟨cb, ecb⟩ : ∃ cb : Obj, cb = .cells #[.int .i64 kd, .int .i64 cn, .slice q m qc] 71 := ⟨_, rfl⟩
                          have HCB : Hid (.cells #[.int .i64 kd, .int .i64 cn, .slice q m qc] 71 = cb) := ecb.symm
                          have hba : Below wr.heap.size wr (wr.alloc cb) := (Below.refl _ _).alloc (Nat.le_refl _) _
                          have HBa : Hid (Below w5.heap.size w5 (wr.alloc cb)) := Below.on HB8.out hba
                          have HWC := HWT.out x.c (some ⟨wr.heap.size, 0, none⟩) (wr.alloc cb) HIO.out.1 HC3.out.2 HC3.out.1 (Below.on HBw.out hba) (cin_one HEQ.out.2.2.2.1 HEQ.out.2.2.2.2.1 HEQ.out.2.2.2.2.2 (by rw [heap_alloc_new, ecb]) (HQ.out _ (Below.on HBw.out hba)))
                          have HSQ : Hid (sq = strOfNums (leafW x.c)) := esq
                          clear esq ecb hba HAT HNX2 hiF el h67 hno e1 e2 hk3
                          go_wp2_with fail
                          rw [HCB.out]
                          refine HWC.mono ?_
                          rintro e w9 ⟨p9, n9, c9, rfl, ho9, hb9⟩
                          have HB9 : Hid (Below w5.heap.size w5 w9) := Below.on HBa.out hb9
                          have cv : (convert 28 9 (.slice p9 n9 c9)).run Tryz.prog w9 = .ok (.string sq) w9 := by
                            rw [HSQ.out]
                            exact conv_str ho9.bin n9 c9 ho9.1 9 Tryz.underlying9
                          clear ho9 hb9 HWC z3 z4 z5
                          go_wp2_with fail
                          go_roundw
                          case rel => exact ⟨i + 1, _, by omega, by go_num, by rw [HEND.out], HNXT.out, HB9.out⟩
                          case measure => simp [intOf]; omega
                  · obtain rfl : i = L := by omega
                    have HO2 : Hid (OwnS wr w1.heap.size po' no' co' (lnsT xs k)) := HL.out.1.below (Below.on HB5.out.2 HB8.out)
                    have HB1r : Hid (Below w1.heap.size w1 wr) := Below.on HL.out.2.2 (Below.on HB5.out.2 HB8.out)
                    have HOK1 : Hid (0 ≤ x.op ∧ x.op ≤ 32) := by have := HOT.out; simp only [okI, decide_eq_true_eq] at this; exact ⟨this.1, this.2.1⟩
                    have hxj : x.op.toNat = j := by rw [← HEQ.out.1]; rfl
                    have HLNE : Hid ((lnsT xs k ++ Ln) ++ [10] = lnsT xs (k + 1)) := by
                      show _ = _
                      rw [lnsT, ← HX.out.1, lineT, hxj, HLx.out, HWD.out, HLL.out, HFL.out.1, List.take_length]
                      simp only [List.append_assoc]
                    have HLB : Hid (Byte Ln) := by
                      show Byte _
                      rw [HLx.out, HWD.out]
                      exact byte_app (byte_app (byte_app (decW_byte _) (byte_one (by decide) (by decide))) (byte_of_mem (wordT_all j hj).2.2.1)) (flT_byte HX.out.2.1 _)
                    have HNO : Hid (no' ≤ 26000000) := by
                      have h1 := HO2.out.1
                      have h2 := lnsT_len xs k (by omega) HL.out.2.1
                      show _ ≤ _
                      omega
                    have HOKS : Hid (∀ i, i < k + 1 → okI (xs.getD i Iv.zero) = true) := fun i hi => by
                      rcases Nat.lt_or_ge i k with h | h
                      · exact HL.out.2.1 i h
                      · obtain rfl : i = k := by omega
                        rw [← HX.out.1]; exact HOT.out
                    have hii : ¬ ((i : Int) < (i : Int)) := by omega
                    have tok1 : True := trivial
                    go_wp2_with (at_builtin; first
                      | (have _t := tok1; refine app_strL _ rfl _ _ rfl w1.heap.size po' no' co' (lnsT xs k) Ln HLB.out rfl HO2.out sl HSL.out.1 rfl (by have h1 := HNO.out; have h2 := HSL.out.2; omega) HB1r.out.size ?_; intro p9 n9 c9 w9 ho9 hg9
                         have HB9 : Hid (Below w1.heap.size w1 w9) := own_belowL HB1r.out HO2.out hg9
                         have HO9 : Hid (OwnS w9 w1.heap.size p9 n9 c9 (lnsT xs k ++ Ln)) := ho9
                         have hs9 : w1.heap.size ≤ w9.heap.size := HB9.out.size
                         have HN9 : Hid (n9 ≤ 27000000) := by have h1 := ho9.1; have h2 := HNO.out; have h3 := HSL.out.2; have h4 := HO2.out.1; rw [List.length_append] at h1; show _ ≤ _; omega
                         clear tok1 ho9 hg9
                         have tok2 : True := trivial)
                      | (have _t := tok2; refine app_bytes _ rfl _ _ rfl w1.heap.size p9 n9 c9 _ [10] 1 rfl rfl (HO9.out.alloc _) ⟨w9.heap.size, 0, none⟩ 1 rfl (one_newsL w9 10) (by omega) (by have := HN9.out; omega) (by simp; omega) ?_; intro g10 n10 c10 w10 ho10 hb10 hn10
                         have HB10 : Hid (Below w1.heap.size w1 w10) := (HB9.out.alloc hs9 _).trans hb10
                         have HO10 : Hid (OwnS w10 w1.heap.size (some ⟨g10, 0, none⟩) n10 c10 (lnsT xs (k + 1))) := by rw [HLNE.out] at ho10; exact ho10
                         clear tok2 ho10 hb10 hn10))
                    go_roundw
                    case rel => exact ⟨k + 1, _, _, _, by omega, by go_num, rfl, HO10.out, HOKS.out, HB10.out⟩
                    case measure => simp [intOf]; omega
        · obtain rfl : k = N := by omega
          have HO : Hid (LcO w T xs (.returned (.slice po' no' co')) wo) := ⟨po', no', co', rfl, by
            have e : lcT T xs = lnsT xs k := by unfold lcT; rw [if_pos ⟨HT1.out, by rw [← HNX.out.1]; exact h2, fun i hi => HL.out.2.1 i (by rw [HNX.out.1]; exact hi)⟩, HNX.out.1]
            rw [e]
            exact (HL.out.1.toT).mono HB1.out.size, HBW.out⟩
          go_wp2_with fail
          go_ret
          exact HO.out
    · have HR : Hid (∀ W, Below w.heap.size w W → LcO w T xs (.returned (.slice none 0 0)) W) := HNIL.out (fun h => h2 (by rw [HNX.out.1]; exact h.2.1))
      have hN2 : 20000 < (N : Int) := by omega
      clear h2
      go_enter Tryz.func23, Tryz.ntmps23
      go_wp2_with fail
      refine (HV.out _ (HB0.out _)).mono ?_
      rintro e w1 ⟨rfl, hb1⟩
      have HR1 : Hid _ := HR.out w1 (Below.on (HB0.out _) hb1)
      have HX1 : Hid (w1.heap[w.heap.size]? = some (.cells #[.slice p N pc, .slice g M gc] 52)) := (hb1.block w.heap.size (by simp)).trans (HBK.out _)
      have x0 : w1.cell? ⟨w.heap.size, 0, none⟩ = some (.slice p N pc) := by simp [World.cell?, HX1.out]
      clear hb1 HV
      go_wp2_with fail
      go_ret
      exact HR1.out
  · have h1' : tabB T = false := by simpa using h1
    rw [h1'] at HV
    have HR : Hid (∀ W, Below w.heap.size w W → LcO w T xs (.returned (.slice none 0 0)) W) := HNIL.out (fun h => h1 h.1)
    obtain ⟨lt, elt⟩ : ∃ lt, lt = T.length := ⟨_, rfl⟩
    rw [← elt] at HV ⊢
    clear hTb hTl hT hN hx hI h1 h1' elt
    go_enter Tryz.func23, Tryz.ntmps23
    go_wp2_with fail
    refine (HV.out _ (HB0.out _)).mono ?_
    rintro e w1 ⟨rfl, hb1⟩
    have HR1 : Hid _ := HR.out w1 (Below.on (HB0.out _) hb1)
    clear hb1 HV
    go_wp2_with fail
    go_ret
    exact HR1.out
end Go.Proofs.YtjhbplgppakhoaaGreatDoor

