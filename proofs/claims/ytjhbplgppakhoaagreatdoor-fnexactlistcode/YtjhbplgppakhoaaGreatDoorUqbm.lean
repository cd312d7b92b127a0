/- Texts of LcM, LcN, LcO. Own work of the verifier. -/
import Derived.Test.YtjhbplgppakhoaaGreatDoorUqbl
namespace Go.Proofs.YtjhbplgppakhoaaGreatDoor
open Go Go.RowKit
set_option linter.unusedVariables false
def Bas.now (B : Bas) (W : World) (p : Option Addr) (n c : Nat) : Bas := ⟨W, B.lo, Value.ownBlock (.slice p n c), B.x⟩
theorem ws_turn {B : Bas} {W : World} {wb : Nat} {K : WK} {p : Option Addr} {n c : Nat} {R : List Int} {k : Nat} (h : WS B W wb K p n c R k) : WS (B.now W p n c) W wb K p n c R k :=
  ⟨⟨rfl, rfl, rfl, h.gr.size, Nat.le_refl _, fun _ _ _ _ => rfl⟩, h.hwb, h.blk, h.c0, h.c1, h.c2, h.c3, h.c4, h.fr, h.own, fun j hj => .inl hj.symm, h.cx⟩
theorem gr_back {B : Bas} {W W' : World} {wb : Nat} {K : WK} {p : Option Addr} {n c : Nat} {R : List Int} {k : Nat} (h : WS B W wb K p n c R k) (hg : (B.now W p n c).grownBy W' (some wb)) : B.grownBy W' (some wb) := by
  refine ⟨hg.os.trans h.gr.os, hg.tape.trans h.gr.tape, hg.output.trans h.gr.output, hg.size, Nat.le_trans h.gr.tsize hg.tsize, fun j hj h1 h2 => ?_⟩
  refine (hg.block j (Nat.lt_of_lt_of_le hj h.gr.tsize) h1 (fun e => ?_)).trans (h.gr.block j hj h1 h2)
  rcases h.apart j e.symm with h3 | h3
  · exact h2 h3
  · omega
theorem ws_back {B : Bas} {W W' : World} {wb : Nat} {K : WK} {p p' : Option Addr} {n c n' c' : Nat} {R R' : List Int} {k k' : Nat} (h : WS B W wb K p n c R k) (h' : WS (B.now W p n c) W' wb K p' n' c' R' k') : WS B W' wb K p' n' c' R' k' := by
  refine ⟨gr_back h h'.gr, h'.hwb, h'.blk, h'.c0, h'.c1, h'.c2, h'.c3, h'.c4, h'.fr, h'.own, fun j hj => ?_, h'.cx⟩
  rcases h'.apart j hj with h3 | h3
  · exact h.apart j h3.symm
  · exact .inr (Nat.le_trans h.gr.tsize h3)
theorem row_now {B : Bas} {W W' : World} {wb : Nat} {K : WK} {p : Option Addr} {n c : Nat} {R : List Int} {k : Nat} (h : WS B W wb K p n c R k) (hg : (B.now W p n c).grownBy W' (some wb)) (g : Nat) (hlt : g < W.heap.size) (hne : g ≠ wb) (hnt : Value.ownBlock (.slice p n c) ≠ some g) : W'.heap[g]? = W.heap[g]? :=
  hg.block g hlt (fun e => hne (Option.some.inj e)) (fun e => hnt e.symm)
theorem TabsK.now {B : Bas} {W : World} {wb : Nat} {K : WK} {p : Option Addr} {n c : Nat} {R : List Int} {k : Nat} (hK : TabsK B wb) (h : WS B W wb K p n c R k) : TabsK (B.now W p n c) wb := ⟨fun W' hg => hK.tab _ (gr_back h hg), fun W' hg => hK.pow _ (gr_back h hg)⟩
theorem NamesK.now {B : Bas} {W : World} {wb : Nat} {K : WK} {N : List (List Int)} {p : Option Addr} {n c : Nat} {R : List Int} {k : Nat} (hN : NamesK B wb K N) (h : WS B W wb K p n c R k) : NamesK (B.now W p n c) wb K N := ⟨fun W' hg => hN.1 _ (gr_back h hg), hN.2⟩
end Go.Proofs.YtjhbplgppakhoaaGreatDoor

namespace Go.Proofs.YtjhbplgppakhoaaGreatDoor
open Go Go.RowKit
set_option linter.unusedVariables false
set_option linter.unusedSimpArgs false
def FormsK (B : Bas) (wb fb : Nat) : Prop := B.x 5 = some (.slice (some ⟨fb, 0, none⟩) 33 33) ∧ ∀ W, B.grownBy W (some wb) → ∀ i, i < 33 → W.cell? ⟨fb, i * 2, none⟩ = some (.string (strOfNums (wordT i))) ∧ W.cell? ⟨fb, i * 2 + 1, none⟩ = some (.string (strOfNums (fldI i)))
structure LnS (B : Bas) (wb : Nat) (K : WK) (w : World) (bx : Nat) (o : Obj) (R : List Int) (W : World) : Prop where
  blk : W.heap[bx]? = some o
  ws : ∃ k p n c, WS B W wb K p n c R k
  kept : Kept w W wb
theorem LnS.gr {B : Bas} {wb : Nat} {K : WK} {w : World} {bx : Nat} {o : Obj} {R : List Int} {W : World} (h : LnS B wb K w bx o R W) : B.grownBy W (some wb) := by obtain ⟨_, _, _, _, h⟩ := h.ws; exact h.gr
theorem LnS.put {B : Bas} {wb : Nat} {K : WK} {w : World} {bx : Nat} {o : Obj} {R R' : List Int} {W W' : World} {e : Ending} (h : LnS B wb K w bx o R W) (hp : PutOut B W wb K R' 0 e W') (hb : bx ≠ wb) (ho : ∀ cur fr, o ≠ .cells cur 5 fr) : CS B wb K w bx o R' W' :=
  ⟨hp.2.2.blk bx o h.blk hb ho, hp.2.1, h.kept.trans hp.2.2⟩
theorem CS.ln {B : Bas} {wb : Nat} {K : WK} {w : World} {bx : Nat} {o : Obj} {R : List Int} {W : World} (h : CS B wb K w bx o R W) : LnS B wb K w bx o R W := ⟨h.blk, by obtain ⟨p, n, c, h⟩ := h.ws; exact ⟨0, p, n, c, h⟩, h.kept⟩
theorem CS.cell {B : Bas} {wb : Nat} {K : WK} {w : World} {bx : Nat} {o : Obj} {R R' : List Int} {W W' : World} {e : Ending} (h : CS B wb K w bx o R W) (hp : CellOut B W wb K R' e W') (hb : bx ≠ wb) (ho : ∀ cur fr, o ≠ .cells cur 5 fr) : LnS B wb K w bx o R' W' :=
  ⟨hp.2.2.blk bx o h.blk hb ho, hp.2.1, h.kept.trans hp.2.2⟩
theorem take_getD (fs : List Int) (k : Nat) (h : k < fs.length) : fs.take (k + 1) = fs.take k ++ [fs.getD k 0] := by
  rw [List.take_add_one]; simp [List.getD, h]
theorem fT_R (x : Iv) : fT x 82 = regT x.r := rfl
theorem fT_A (x : Iv) : fT x 65 = 97 :: decW x.a := rfl
theorem fT_C (x : Iv) : fT x 67 = cellT (hfB x.op) x.c := rfl
set_option maxRecDepth 100000 in
set_option maxHeartbeats 4000000 in
theorem line_any {B : Bas} {wb fb : Nat} {K : WK} (hK : TabsK B wb) (hN : NamesK B wb K []) (hq : K.2.2.2.2 = true) (hF : FormsK B wb fb) (x : Iv) (j : Nat) (hj : j < 33) (r a kd cn : Int) (q : Option Addr) (m qc : Nat) (s : Option Addr) (n sc : Nat) (u : Option Addr) (l uc : Nat) (eop : (j : Int) = x.op) (er : r = x.r) (ea : a = x.a) (ekd : kd = x.c.1) (ecn : cn = x.c.2.1) (em : m = x.c.2.2.length) (hcell : cellB x.c.1 x.c.2.1 x.c.2.2.length = true) (hby : Byte x.c.2.2) (hbi : ∀ W, B.grownBy W (some wb) → BIn W q x.c.2.2) (hwi : (-9223372036854775808 ≤ r ∧ r < 9223372036854775808) ∧ (-9223372036854775808 ≤ a ∧ a < 9223372036854775808) ∧ (-9223372036854775808 ≤ cn ∧ cn < 9223372036854775808)) (i : Nat) (hi : i ≤ 20000) (w : World) (R : List Int) (hR : Byte R) (hl : R.length ≤ 80000000) (hs : ∃ p n c, WS B w wb K p n c R 0) :
    Calls Tryz.prog 54 #[.pointer (some ⟨wb, 0, none⟩), .int .i64 i, .agg #[.int .i64 (j : Int), .int .i64 r, .int .i64 a, .int .i64 kd, .int .i64 cn, .slice q m qc, .slice s n sc, .slice u l uc]] w (PutOut B w wb K (R ++ lineT i x) 0) := by
  have HNE : Hid (w.heap.size ≠ wb ∧ w.heap.size + 1 ≠ wb) := by obtain ⟨_, _, _, h⟩ := hs; have := h.hwb; have := h.gr.size; exact ⟨by omega, by omega⟩
  have hblk := heap_alloc_new w (.cells #[.int .i64 (j : Int), .int .i64 r, .int .i64 a, .int .i64 kd, .int .i64 cn, .slice q m qc, .slice s n sc, .slice u l uc] 93)
  have hb0 : Below w.heap.size w (w.alloc (.cells #[.int .i64 (j : Int), .int .i64 r, .int .i64 a, .int .i64 kd, .int .i64 cn, .slice q m qc, .slice s n sc, .slice u l uc] 93)) := (Below.refl _ _).alloc (Nat.le_refl _) _
  have HCS : Hid (CS B wb K w w.heap.size (.cells #[.int .i64 (j : Int), .int .i64 r, .int .i64 a, .int .i64 kd, .int .i64 cn, .slice q m qc, .slice s n sc, .slice u l uc] 93) R (w.alloc (.cells #[.int .i64 (j : Int), .int .i64 r, .int .i64 a, .int .i64 kd, .int .i64 cn, .slice q m qc, .slice s n sc, .slice u l uc] 93))) := ⟨hblk, by obtain ⟨p', n', c', h⟩ := hs; exact ⟨p', n', c', h.below hb0⟩, Kept.below hb0⟩
  have c5 : (w.alloc (.cells #[.int .i64 (j : Int), .int .i64 r, .int .i64 a, .int .i64 kd, .int .i64 cn, .slice q m qc, .slice s n sc, .slice u l uc] 93)).cell? ⟨wb, 5, none⟩ = some (.slice (some ⟨fb, 0, none⟩) 33 33) := by obtain ⟨p', n', c', h⟩ := HCS.out.ws; exact (h.cx 5 (Nat.le_refl _)).trans hF.1
  obtain ⟨f0, f1⟩ := hF.2 (w.alloc (.cells #[.int .i64 (j : Int), .int .i64 r, .int .i64 a, .int .i64 kd, .int .i64 cn, .slice q m qc, .slice s n sc, .slice u l uc] 93)) HCS.out.gr j hj
  have cb0 : (w.alloc (.cells #[.int .i64 (j : Int), .int .i64 r, .int .i64 a, .int .i64 kd, .int .i64 cn, .slice q m qc, .slice s n sc, .slice u l uc] 93)).cell? ⟨w.heap.size, 0, none⟩ = some (.int .i64 (j : Int)) := by simp only [World.cell?]; rw [hblk]; rfl
  obtain ⟨hw1, hw2, hw3, hw4⟩ := wordT_all j hj
  obtain ⟨Wd, eWd⟩ : ∃ Wd, Wd = wordT j := ⟨_, rfl⟩
  obtain ⟨fs, efs⟩ : ∃ fs, fs = fldI j := ⟨_, rfl⟩
  rw [← eWd] at f0 hw1 hw3
  rw [← efs] at f1 hw2 hw4
  have HWD : Hid (Byte Wd ∧ Wd.length ≤ 10) := ⟨fun c hc => hw3 c hc, hw1⟩
  have HFS : Hid (Byte fs ∧ fs.length ≤ 2 ∧ ∀ c ∈ fs, c = 82 ∨ c = 65 ∨ c = 67) := ⟨fun c hc => by have := hw4 c hc; omega, hw2, hw4⟩
  have HLT : Hid (lineT i x = (decW i ++ [32] ++ Wd) ++ flT x fs ++ [10]) := by show _ = _; unfold lineT; rw [← eop, Int.toNat_natCast, ← eWd, ← efs]
  have HIT : Hid (∀ (v : Int) (W : World), -9223372036854775808 ≤ v → v < 9223372036854775808 → B.grownBy W (some wb) → Calls Tryz.prog 71 #[.int .i64 v] W fun e w' => e = .returned (.string (strOfNums (decW v))) ∧ Below W.heap.size W w') := fun v W h1 h2 hW => itoa64_any v h1 h2 W (hK.pow _ hW)
  have hdl := decW_len i
  have HP0 : Hid (∀ W, (∃ p n c, WS B W wb K p n c R 0) → Calls Tryz.prog 69 #[.pointer (some ⟨wb, 0, none⟩), .string (strOfNums (decW i))] W (PutOut B W wb K (R ++ decW i) 0)) := fun W hW => put0 hK W R _ hR (decW_byte _) (by omega) hW
  have HP1 : Hid (∀ W, (∃ p n c, WS B W wb K p n c (R ++ decW i) 0) → Calls Tryz.prog 69 #[.pointer (some ⟨wb, 0, none⟩), .string ⟨#[32]⟩] W (PutOut B W wb K (R ++ decW i ++ [32]) 0)) := fun W hW => put0 hK W _ [32] (byte_app hR (decW_byte _)) (byte_one (by decide) (by decide)) (by simp; omega) hW
  have HP2 : Hid (∀ W, (∃ p n c, WS B W wb K p n c (R ++ decW i ++ [32]) 0) → Calls Tryz.prog 69 #[.pointer (some ⟨wb, 0, none⟩), .string (strOfNums Wd)] W (PutOut B W wb K (R ++ decW i ++ [32] ++ Wd) 0)) := fun W hW => put0 hK W _ _ (byte_app (byte_app hR (decW_byte _)) (byte_one (by decide) (by decide))) HWD.out.1 (by simp; omega) hW
  obtain ⟨sw, esw⟩ : ∃ sw, sw = strOfNums Wd := ⟨_, rfl⟩
  obtain ⟨sf, esf⟩ : ∃ sf, sf = strOfNums fs := ⟨_, rfl⟩
  rw [← esw] at f0 HP2
  rw [← esf] at f1
  have HSF : Hid (sf = strOfNums fs) := esf
  obtain ⟨R1, eR1⟩ : ∃ R1, R1 = R ++ decW i ++ [32] ++ Wd := ⟨_, rfl⟩
  rw [← eR1] at HP2
  have HR1 : Hid (R1 = R ++ decW i ++ [32] ++ Wd ∧ Byte R1 ∧ R1.length ≤ 80001000) := ⟨eR1, by rw [eR1]; exact byte_app (byte_app (byte_app hR (decW_byte _)) (byte_one (by decide) (by decide))) HWD.out.1, by rw [eR1]; simp; omega⟩
  obtain ⟨si, esi⟩ : ∃ si, si = strOfNums (decW i) := ⟨_, rfl⟩
  have HI0 : Hid (∀ W, B.grownBy W (some wb) → Calls Tryz.prog 71 #[.int .i64 (i : Int)] W fun e w' => e = .returned (.string si) ∧ Below W.heap.size W w') := fun W hW => by rw [esi]; exact HIT.out i W (by omega) (by omega) hW
  rw [← esi] at HP0
  have HK : Hid (TabsK B wb ∧ NamesK B wb K [] ∧ K.2.2.2.2 = true) := ⟨hK, hN, hq⟩
  have HXC : Hid (cellB x.c.1 x.c.2.1 x.c.2.2.length = true ∧ Byte x.c.2.2 ∧ (∀ W, B.grownBy W (some wb) → BIn W q x.c.2.2)) := ⟨hcell, hby, hbi⟩
  have HEQ : Hid ((j : Int) = x.op ∧ r = x.r ∧ a = x.a ∧ kd = x.c.1 ∧ cn = x.c.2.1 ∧ m = x.c.2.2.length) := ⟨eop, er, ea, ekd, ecn, em⟩
  have HWI : Hid ((-9223372036854775808 ≤ r ∧ r < 9223372036854775808) ∧ (-9223372036854775808 ≤ a ∧ a < 9223372036854775808) ∧ (-9223372036854775808 ≤ cn ∧ cn < 9223372036854775808)) := hwi
  have hj0 : (0 : Int) ≤ (j : Int) := by omega
  have hj1 : (j : Int) < 33 := by omega
  clear eop er ea ekd ecn em hb0 hblk eWd efs esw esf esi eR1 hw1 hw2 hw3 hw4 hdl hs hR hl hK hN hq hcell hby hbi hF hwi
  go_enter Tryz.func54, Tryz.ntmps54
  go_wp2_with fail
  go_region_held3 (fun W => W.cell? ⟨wb, 5, none⟩ = some (.slice (some ⟨fb, 0, none⟩) 33 33) ∧ W.cell? ⟨w.heap.size, 0, none⟩ = some (.int .i64 (j : Int)) ∧ W.cell? ⟨fb, j * 2, none⟩ = some (.string sw) ∧ W.cell? ⟨fb, j * 2 + 1, none⟩ = some (.string sf)) (first | go_keep) (fail)
  have hba : Below (w.alloc (.cells #[.int .i64 (j : Int), .int .i64 r, .int .i64 a, .int .i64 kd, .int .i64 cn, .slice q m qc, .slice s n sc, .slice u l uc] 93)).heap.size (w.alloc (.cells #[.int .i64 (j : Int), .int .i64 r, .int .i64 a, .int .i64 kd, .int .i64 cn, .slice q m qc, .slice s n sc, .slice u l uc] 93)) ((w.alloc (.cells #[.int .i64 (j : Int), .int .i64 r, .int .i64 a, .int .i64 kd, .int .i64 cn, .slice q m qc, .slice s n sc, .slice u l uc] 93)).alloc (.cells #[.string sw, .string sf] 146)).drew := ((Below.refl _ _).alloc (Nat.le_refl _) _).drew
  have hfx : ((w.alloc (.cells #[.int .i64 (j : Int), .int .i64 r, .int .i64 a, .int .i64 kd, .int .i64 cn, .slice q m qc, .slice s n sc, .slice u l uc] 93)).alloc (.cells #[.string sw, .string sf] 146)).drew.heap[w.heap.size + 1]? = some (.cells #[.string sw, .string sf] 146) := by have := heap_alloc_new (w.alloc (.cells #[.int .i64 (j : Int), .int .i64 r, .int .i64 a, .int .i64 kd, .int .i64 cn, .slice q m qc, .slice s n sc, .slice u l uc] 93)) (.cells #[.string sw, .string sf] 146); rw [World.size_alloc] at this; exact this
  obtain ⟨W2, eW2⟩ : ∃ W2, W2 = ((w.alloc (.cells #[.int .i64 (j : Int), .int .i64 r, .int .i64 a, .int .i64 kd, .int .i64 cn, .slice q m qc, .slice s n sc, .slice u l uc] 93)).alloc (.cells #[.string sw, .string sf] 146)).drew := ⟨_, rfl⟩
  rw [← eW2] at hba hfx ⊢
  have HA2 : Hid (CS B wb K w w.heap.size (.cells #[.int .i64 (j : Int), .int .i64 r, .int .i64 a, .int .i64 kd, .int .i64 cn, .slice q m qc, .slice s n sc, .slice u l uc] 93) R W2) := HCS.out.below hba
  have HF2 : Hid (CS B wb K w (w.heap.size + 1) (.cells #[.string sw, .string sf] 146) R W2) := ⟨hfx, HA2.out.ws, HA2.out.kept⟩
  have HNU : Hid ((∀ cur fr, (.cells #[.int .i64 (j : Int), .int .i64 r, .int .i64 a, .int .i64 kd, .int .i64 cn, .slice q m qc, .slice s n sc, .slice u l uc] 93 : Obj) ≠ .cells cur 5 fr) ∧ (∀ cur fr, (.cells #[.string sw, .string sf] 146 : Obj) ≠ .cells cur 5 fr)) := ⟨fun cur fr e => by simp at e, fun cur fr e => by simp at e⟩
  clear hba hfx eW2 HCS c5 f0 f1 cb0
  go_wp2_with fail
  refine wp_region_held_drew (S := fun _ => True) (by kernel_rfl) trivial (fun hHeld => ?_)
  have hS0 : True := trivial
  refine hTake (i := 0) (v := .pointer (some ⟨wb, 0, none⟩)) (some 17) (by kernel_rfl) (by kernel_rfl) (by kernel_rfl) (by kernel_rfl) (by kernel_rfl) (fun _ _ _ h => h) (fun o ho W hSw => ?y0) (by assumption) ?_
  case y0 =>
    cases ho
    simp [execOp, go_sem, Act.eval]
  simp only [Act.put, zzA, zzB, zzC]
  refine hTake (i := 1) (v := .pointer (some ⟨wb, 0, none⟩)) (some 18) (by kernel_rfl) (by kernel_rfl) (by kernel_rfl) (by kernel_rfl) (by kernel_rfl) (fun _ _ _ h => h) (fun o ho W hSw => ?y1) (by assumption) ?_
  case y1 =>
    cases ho
    simp [execOp, go_sem, Act.eval]
  simp only [Act.put, zzA, zzB, zzC]
  refine hTake (i := 2) (v := .pointer (some ⟨wb, 0, none⟩)) (some 19) (by kernel_rfl) (by kernel_rfl) (by kernel_rfl) (by kernel_rfl) (by kernel_rfl) (fun _ _ _ h => h) (fun o ho W hSw => ?y2) (by assumption) ?_
  case y2 =>
    cases ho
    simp [execOp, go_sem, Act.eval]
  simp only [Act.put, zzA, zzB, zzC]
  refine hTake (i := 3) (v := .pointer (some ⟨wb, 0, none⟩)) (some 20) (by kernel_rfl) (by kernel_rfl) (by kernel_rfl) (by kernel_rfl) (by kernel_rfl) (fun _ _ _ h => h) (fun o ho W hSw => ?y3) (by assumption) ?_
  case y3 =>
    cases ho
    simp [execOp, go_sem, Act.eval]
  simp only [Act.put, zzA, zzB, zzC]
  refine hTake (i := 4) (v := .int .i64 (i : Int)) (some 21) (by kernel_rfl) (by kernel_rfl) (by kernel_rfl) (by kernel_rfl) (by kernel_rfl) (fun _ _ _ h => h) (fun o ho W hSw => ?y4) (by assumption) ?_
  case y4 =>
    cases ho
    simp [execOp, go_sem, Act.eval]
  simp only [Act.put, zzA, zzB, zzC]
  refine hCallE (i := 5) (some 22) (by kernel_rfl) (by kernel_rfl) (by kernel_rfl) (fun o ho => ?y5) (HI0.out W2.drew HA2.out.drew.gr) ?_ (fun ch w' h => by obtain ⟨h, _⟩ := h; simp at h) (fun w' h => by obtain ⟨h, _⟩ := h; simp at h)
  case y5 =>
    cases ho
    simp [execOp, go_sem, Act.eval]
  rintro rv w3 ⟨hu, hb3⟩
  cases hu
  have HA3 : Hid _ := HA2.out.drew.below hb3
  have HF3 : Hid _ := HF2.out.drew.below hb3
  clear hb3
  refine ⟨trivial, ?_⟩
  simp only [Act.put, zzA, zzB, zzC]
  refine hCallE (i := 6) (some 23) (by kernel_rfl) (by kernel_rfl) (by kernel_rfl) (fun o ho => ?y6) (HP0.out w3 HA3.out.ws) ?_ (fun ch w' h => by obtain ⟨h, _⟩ := h; simp at h) (fun w' h => by obtain ⟨h, _⟩ := h; simp at h)
  case y6 =>
    cases ho
    simp [execOp, go_sem, Act.eval]
  rintro rv w4 hout
  have HA4 : Hid _ := HA3.out.put hout HNE.out.1 HNU.out.1
  have HF4 : Hid _ := HF3.out.put hout HNE.out.2 HNU.out.2
  obtain ⟨hu, _, _⟩ := hout
  cases hu
  refine ⟨trivial, ?_⟩
  simp only [Act.put, zzA, zzB, zzC]
  refine wpAnyH_done (by kernel_rfl) ?_ _
  clear HA2 HF2 HA3 HF3 HI0 HP0
  go_wp2_with fail
  refine (HP1.out w4 HA4.out.ws).mono ?_
  rintro e w5 hout5
  have HA5 : Hid _ := HA4.out.put hout5 HNE.out.1 HNU.out.1
  have HF5 : Hid _ := HF4.out.put hout5 HNE.out.2 HNU.out.2
  obtain ⟨rfl, _, _⟩ := hout5
  clear HA4 HF4 HP1
  go_wp2_with fail
  refine wp_region_held_drew (S := CSs B wb (w.heap.size + 1) (.cells #[.string sw, .string sf] 146)) (by kernel_rfl) (HF5.out.drew.s) (fun hHeld => ?_)
  refine hTake (i := 0) (v := .pointer (some ⟨wb, 0, none⟩)) (some 29) (by kernel_rfl) (by kernel_rfl) (by kernel_rfl) (by kernel_rfl) (by kernel_rfl) (fun _ _ _ h => h) (fun o ho W hSw => ?y40) (HF5.out.drew.s) ?_
  case y40 =>
    cases ho
    simp [execOp, go_sem, Act.eval]
  simp only [Act.put, zzA, zzB, zzC]
  refine hTake (i := 1) (v := .pointer (some ⟨wb, 0, none⟩)) (some 30) (by kernel_rfl) (by kernel_rfl) (by kernel_rfl) (by kernel_rfl) (by kernel_rfl) (fun _ _ _ h => h) (fun o ho W hSw => ?y41) (HF5.out.drew.s) ?_
  case y41 =>
    cases ho
    simp [execOp, go_sem, Act.eval]
  simp only [Act.put, zzA, zzB, zzC]
  refine hTake (i := 2) (v := .pointer (some ⟨wb, 0, none⟩)) (some 31) (by kernel_rfl) (by kernel_rfl) (by kernel_rfl) (by kernel_rfl) (by kernel_rfl) (fun _ _ _ h => h) (fun o ho W hSw => ?y42) (HF5.out.drew.s) ?_
  case y42 =>
    cases ho
    simp [execOp, go_sem, Act.eval]
  simp only [Act.put, zzA, zzB, zzC]
  refine hTake (i := 3) (v := .pointer (some ⟨wb, 0, none⟩)) (some 32) (by kernel_rfl) (by kernel_rfl) (by kernel_rfl) (by kernel_rfl) (by kernel_rfl) (fun _ _ _ h => h) (fun o ho W hSw => ?y43) (HF5.out.drew.s) ?_
  case y43 =>
    cases ho
    simp [execOp, go_sem, Act.eval]
  simp only [Act.put, zzA, zzB, zzC]
  refine hTake (i := 4) (v := .pointer (some ⟨w.heap.size + 1, 0, none⟩)) (some 33) (by kernel_rfl) (by kernel_rfl) (by kernel_rfl) (by kernel_rfl) (by kernel_rfl) (fun _ _ _ h => h) (fun o ho W hSw => ?y44) (HF5.out.drew.s) ?_
  case y44 =>
    cases ho
    simp [execOp, go_sem, Act.eval]
  simp only [Act.put, zzA, zzB, zzC]
  refine hTake (i := 5) (v := .string sw) (some 34) (by kernel_rfl) (by kernel_rfl) (by kernel_rfl) (by kernel_rfl) (by kernel_rfl) (fun _ _ _ h => h) (fun o ho W hSw => ?yw) (HF5.out.drew.s) ?_
  case yw =>
    cases ho
    have x0 : W.cell? ⟨w.heap.size + 1, 0, none⟩ = some (.string sw) := by simp [World.cell?, hSw.1]
    simp [execOp, go_sem, Act.eval, x0]
  simp only [Act.put, zzA, zzB, zzC]
  refine hCallE (i := 6) (some 35) (by kernel_rfl) (by kernel_rfl) (by kernel_rfl) (fun o ho => ?y45) (HP2.out w5.drew HA5.out.drew.ws) ?_ (fun ch w' h => by obtain ⟨h, _⟩ := h; simp at h) (fun w' h => by obtain ⟨h, _⟩ := h; simp at h)
  case y45 =>
    cases ho
    simp [execOp, go_sem, Act.eval]
  rintro rv w6 hout
  have HA6 : Hid (CS B wb K w w.heap.size (.cells #[.int .i64 (j : Int), .int .i64 r, .int .i64 a, .int .i64 kd, .int .i64 cn, .slice q m qc, .slice s n sc, .slice u l uc] 93) R1 w6) := HA5.out.drew.put hout HNE.out.1 HNU.out.1
  have HF6 : Hid (CS B wb K w (w.heap.size + 1) (.cells #[.string sw, .string sf] 146) R1 w6) := HF5.out.drew.put hout HNE.out.2 HNU.out.2
  obtain ⟨hu, _, _⟩ := hout
  cases hu
  refine ⟨HF6.out.s, ?_⟩
  simp only [Act.put, zzA, zzB, zzC]
  refine wpAnyH_done (by kernel_rfl) ?_ _
  clear HA5 HF5 HP2
  have e1 : w6.cell? ⟨w.heap.size + 1, 1, none⟩ = some (.string sf) := by simp [World.cell?, HF6.out.blk]
  obtain ⟨w7, cap7, hcv, hb7, hrow, hcap⟩ := convW w6 fs HFS.out.1
  rw [← HSF.out] at hcv
  obtain ⟨L, eL⟩ : ∃ L, L = fs.length := ⟨_, rfl⟩
  obtain ⟨g, eg⟩ : ∃ g, g = w6.heap.size := ⟨_, rfl⟩
  rw [← eL, ← eg] at hcv
  rw [← eg] at hrow
  have hL : L ≤ 2 := by have := HFS.out.2.1; omega
  obtain ⟨p6, n6, c6, h6⟩ := HA6.out.ws
  have h7 := h6.below hb7
  have HA7 := HA6.out.below hb7
  obtain ⟨Bn, eBn⟩ : ∃ Bn, Bn = B.now w7 p6 n6 c6 := ⟨_, rfl⟩
  have hgw : g ≠ wb := by have := h6.hwb; have := h6.gr.size; omega
  have hnt : Value.ownBlock (.slice p6 n6 c6) ≠ some g := fun e => by have := (h6.own.2.lt g e).2; omega
  have HROW : Hid (∀ W, Bn.grownBy W (some wb) → Row W g fs) := fun W hW => by
    rw [eBn] at hW
    have hbk := row_now h7 hW g hrow.1 hgw hnt
    exact ⟨Nat.lt_of_lt_of_le hrow.1 hW.tsize, fun i hi => (World.cell?_of_block (w := w7) (a := ⟨g, i, none⟩) hbk).trans (hrow.2 i hi)⟩
  have HBN : Hid (TabsK Bn wb ∧ NamesK Bn wb K [] ∧ ∀ W, Bn.grownBy W (some wb) → BIn W q x.c.2.2) := by rw [eBn]; exact ⟨TabsK.now HK.out.1 h7, NamesK.now HK.out.2.1 h7, fun W hW => HXC.out.2.2 W (gr_back h7 hW)⟩
  have HBK : Hid (∀ W R', (∃ p n c, WS Bn W wb K p n c R' 0) → ∃ p n c, WS B W wb K p n c R' 0) := fun W R' hW => by
    obtain ⟨p, n, c, h⟩ := hW
    rw [eBn] at h
    exact ⟨p, n, c, ws_back h7 h⟩
  have HS7 : Hid (LnS Bn wb K w w.heap.size (.cells #[.int .i64 (j : Int), .int .i64 r, .int .i64 a, .int .i64 kd, .int .i64 cn, .slice q m qc, .slice s n sc, .slice u l uc] 93) R1 w7) := ⟨HA7.blk, by rw [eBn]; exact ⟨0, p6, n6, c6, ws_turn h7⟩, HA7.kept⟩
  have HLF : Hid (L = fs.length) := eL
  have HLL : Hid (∀ k, k ≤ L → (R1 ++ flT x (fs.take k)).length ≤ 80003000 ∧ Byte (R1 ++ flT x (fs.take k))) := fun k hk => by
    have h1 := flT_len x (fs.take k)
    have h2 := HR1.out.2.2
    have h3 : (fs.take k).length ≤ 2 := by simp; omega
    exact ⟨by simp only [List.length_append]; omega, byte_app HR1.out.2.1 (flT_byte HXC.out.2.1 _)⟩
  clear h6 h7 HA7 hb7 hrow hcap hgw hnt eL eg eBn HA6 HF6
  go_wp2_with fail
  go_loopw [40] (fun v wr => ∃ k : Nat, k ≤ L ∧ v = .int .i64 k ∧ Hid (LnS Bn wb K w w.heap.size (.cells #[.int .i64 (j : Int), .int .i64 r, .int .i64 a, .int .i64 kd, .int .i64 cn, .slice q m qc, .slice s n sc, .slice u l uc] 93) (R1 ++ flT x (fs.take k)) wr)) (fun v _ => L - (intOf v).toNat)
  case atStart => exact ⟨0, Nat.zero_le _, rfl, by show LnS _ _ _ _ _ _ _ _; rw [List.take_zero]; simp only [flT, List.append_nil]; exact HS7.out⟩
  case round =>
    obtain ⟨k, hk, rfl, HL⟩ := hrel
    have hll := HLL.out k hk
    by_cases hlt : k < L
    · have hkl : k < fs.length := by rw [← HLF.out]; exact hlt
      have hd := (HROW.out wr HL.out.gr).2 k hkl
      have hmem : fs.getD k 0 ∈ fs := by simp [List.getD, hkl]
      have hcs := HFS.out.2.2 _ hmem
      have HTK : Hid (R1 ++ flT x (fs.take (k + 1)) = R1 ++ flT x (fs.take k) ++ [32] ++ fT x (fs.getD k 0)) := by show _ = _; rw [take_getD fs k hkl, flT_snoc]; simp
      have HSP := put1 HBN.out.1 wr _ 32 (.inl rfl) hll.2 (by omega) HL.out.ws
      rw [show strOfNums [32] = ⟨#[32]⟩ from rfl] at HSP
      have HRB : Hid (Byte (R1 ++ flT x (fs.take k) ++ [32]) ∧ (R1 ++ flT x (fs.take k) ++ [32]).length ≤ 80004000) := ⟨byte_app hll.2 (byte_one (by decide) (by decide)), by have := hll.1; simp at this ⊢; omega⟩
      obtain ⟨f, ef⟩ : ∃ f, f = fs.getD k 0 := ⟨_, rfl⟩
      rw [← ef] at hd hcs HTK
      obtain ⟨Rk, eRk⟩ : ∃ Rk, Rk = R1 ++ flT x (fs.take k) ++ [32] := ⟨_, rfl⟩
      rw [← eRk] at HSP HTK HRB
      have HST : Hid (startB Rk 0) := by show startB _ _; rw [eRk]; exact start_behind rfl 0
      have hkL : (k : Int) < (L : Int) := by omega
      have hk0 : (0 : Int) ≤ (k : Int) := by omega
      clear ef eRk hmem hll HS7 hcv
      rcases hcs with rfl | rfl | rfl
      · go_wp2_with fail
        refine HSP.mono ?_
        rintro e w8 hout
        have HC8 : Hid (CS Bn wb K w w.heap.size (.cells #[.int .i64 (j : Int), .int .i64 r, .int .i64 a, .int .i64 kd, .int .i64 cn, .slice q m qc, .slice s n sc, .slice u l uc] 93) Rk w8) := HL.out.put hout HNE.out.1 HNU.out.1
        obtain ⟨rfl, _, _⟩ := hout
        have z1 : w8.cell? ⟨w.heap.size, 1, none⟩ = some (.int .i64 r) := by simp [World.cell?, HC8.out.blk]
        have HG := register_any HBN.out.1 r HWI.out.1.1 HWI.out.1.2 w8 Rk HRB.out.1 (by have := HRB.out.2; omega) HC8.out.ws
        clear HSP hd
        go_wp2_with fail
        refine HG.mono ?_
        rintro e w9 hout
        have HN9 : Hid (LnS Bn wb K w w.heap.size (.cells #[.int .i64 (j : Int), .int .i64 r, .int .i64 a, .int .i64 kd, .int .i64 cn, .slice q m qc, .slice s n sc, .slice u l uc] 93) (R1 ++ flT x (fs.take (k + 1))) w9) := by
          have h := (HC8.out.put hout HNE.out.1 HNU.out.1).ln
          show LnS _ _ _ _ _ _ _ _
          rw [HTK.out, fT_R, ← HEQ.out.2.1]
          exact h
        obtain ⟨rfl, _, _⟩ := hout
        clear HG z1
        go_wp2_with fail
        go_roundw
        case rel => exact ⟨k + 1, by omega, by go_num, HN9⟩
        case measure => simp [intOf]; omega
      · have HPA : Hid (∀ W, (∃ p n c, WS Bn W wb K p n c Rk 0) → Calls Tryz.prog 69 #[.pointer (some ⟨wb, 0, none⟩), .string ⟨#[97]⟩] W (PutOut Bn W wb K (Rk ++ [97]) 0)) := fun W hW => put0 HBN.out.1 W Rk [97] HRB.out.1 (byte_one (by decide) (by decide)) (by have := HRB.out.2; simp; omega) hW
        have HPB : Hid (∀ W, (∃ p n c, WS Bn W wb K p n c (Rk ++ [97]) 0) → Calls Tryz.prog 69 #[.pointer (some ⟨wb, 0, none⟩), .string (strOfNums (decW a))] W (PutOut Bn W wb K (Rk ++ [97] ++ decW a) 0)) := fun W hW => put0 HBN.out.1 W (Rk ++ [97]) _ (byte_app HRB.out.1 (byte_one (by decide) (by decide))) (decW_byte _) (by have := HRB.out.2; have := decW_len a; simp; omega) hW
        have HIA : Hid (∀ W, Bn.grownBy W (some wb) → Calls Tryz.prog 71 #[.int .i64 a] W fun e w' => e = .returned (.string (strOfNums (decW a))) ∧ Below W.heap.size W w') := fun W hW => itoa64_any a HWI.out.2.1.1 HWI.out.2.1.2 W (HBN.out.1.pow _ hW)
        obtain ⟨sa, esa⟩ : ∃ sa, sa = strOfNums (decW a) := ⟨_, rfl⟩
        rw [← esa] at HPB HIA
        clear esa
        go_wp2_with fail
        refine HSP.mono ?_
        rintro e w8 hout
        have HC8 : Hid (CS Bn wb K w w.heap.size (.cells #[.int .i64 (j : Int), .int .i64 r, .int .i64 a, .int .i64 kd, .int .i64 cn, .slice q m qc, .slice s n sc, .slice u l uc] 93) Rk w8) := HL.out.put hout HNE.out.1 HNU.out.1
        obtain ⟨rfl, _, _⟩ := hout
        clear HSP hd
        go_wp2_with fail
        refine (HPA.out w8 HC8.out.ws).mono ?_
        rintro e w9 hout
        have HC9 : Hid (CS Bn wb K w w.heap.size (.cells #[.int .i64 (j : Int), .int .i64 r, .int .i64 a, .int .i64 kd, .int .i64 cn, .slice q m qc, .slice s n sc, .slice u l uc] 93) (Rk ++ [97]) w9) := HC8.out.put hout HNE.out.1 HNU.out.1
        obtain ⟨rfl, _, _⟩ := hout
        go_wp2_with fail
        refine wp_region_held_drew (S := CSs Bn wb w.heap.size (.cells #[.int .i64 (j : Int), .int .i64 r, .int .i64 a, .int .i64 kd, .int .i64 cn, .slice q m qc, .slice s n sc, .slice u l uc] 93)) (by kernel_rfl) (HC9.out.drew.s) (fun hHeld => ?_)
        refine hTake (i := 0) (v := .pointer (some ⟨wb, 0, none⟩)) (some 63) (by kernel_rfl) (by kernel_rfl) (by kernel_rfl) (by kernel_rfl) (by kernel_rfl) (fun _ _ _ h => h) (fun o ho W hSw => ?y60) (HC9.out.drew.s) ?_
        case y60 =>
          cases ho
          simp [execOp, go_sem, Act.eval]
        simp only [Act.put, zzA, zzB, zzC]
        refine hTake (i := 1) (v := .pointer (some ⟨wb, 0, none⟩)) (some 64) (by kernel_rfl) (by kernel_rfl) (by kernel_rfl) (by kernel_rfl) (by kernel_rfl) (fun _ _ _ h => h) (fun o ho W hSw => ?y61) (HC9.out.drew.s) ?_
        case y61 =>
          cases ho
          simp [execOp, go_sem, Act.eval]
        simp only [Act.put, zzA, zzB, zzC]
        refine hTake (i := 2) (v := .pointer (some ⟨wb, 0, none⟩)) (some 65) (by kernel_rfl) (by kernel_rfl) (by kernel_rfl) (by kernel_rfl) (by kernel_rfl) (fun _ _ _ h => h) (fun o ho W hSw => ?y62) (HC9.out.drew.s) ?_
        case y62 =>
          cases ho
          simp [execOp, go_sem, Act.eval]
        simp only [Act.put, zzA, zzB, zzC]
        refine hTake (i := 3) (v := .pointer (some ⟨wb, 0, none⟩)) (some 66) (by kernel_rfl) (by kernel_rfl) (by kernel_rfl) (by kernel_rfl) (by kernel_rfl) (fun _ _ _ h => h) (fun o ho W hSw => ?y63) (HC9.out.drew.s) ?_
        case y63 =>
          cases ho
          simp [execOp, go_sem, Act.eval]
        simp only [Act.put, zzA, zzB, zzC]
        refine hTake (i := 4) (v := .pointer (some ⟨w.heap.size, 2, none⟩)) (some 67) (by kernel_rfl) (by kernel_rfl) (by kernel_rfl) (by kernel_rfl) (by kernel_rfl) (fun _ _ _ h => h) (fun o ho W hSw => ?y64) (HC9.out.drew.s) ?_
        case y64 =>
          cases ho
          simp [execOp, go_sem, Act.eval]
        simp only [Act.put, zzA, zzB, zzC]
        refine hTake (i := 5) (v := .int .i64 a) (some 68) (by kernel_rfl) (by kernel_rfl) (by kernel_rfl) (by kernel_rfl) (by kernel_rfl) (fun _ _ _ h => h) (fun o ho W hSw => ?yA) (HC9.out.drew.s) ?_
        case yA =>
          cases ho
          have x2 : W.cell? ⟨w.heap.size, 2, none⟩ = some (.int .i64 a) := by simp [World.cell?, hSw.1]
          simp [execOp, go_sem, Act.eval, x2]
        simp only [Act.put, zzA, zzB, zzC]
        refine hCallE (i := 6) (some 69) (by kernel_rfl) (by kernel_rfl) (by kernel_rfl) (fun o ho => ?y65) (HIA.out w9.drew HC9.out.drew.gr) ?_ (fun ch w' h => by obtain ⟨h, _⟩ := h; simp at h) (fun w' h => by obtain ⟨h, _⟩ := h; simp at h)
        case y65 =>
          cases ho
          simp [execOp, go_sem, Act.eval]
        rintro rv w10 ⟨hu, hb10⟩
        cases hu
        have HC10 : Hid _ := HC9.out.drew.below hb10
        clear hb10
        refine ⟨HC10.out.s, ?_⟩
        simp only [Act.put, zzA, zzB, zzC]
        refine hCallE (i := 7) (some 70) (by kernel_rfl) (by kernel_rfl) (by kernel_rfl) (fun o ho => ?y66) (HPB.out w10 HC10.out.ws) ?_ (fun ch w' h => by obtain ⟨h, _⟩ := h; simp at h) (fun w' h => by obtain ⟨h, _⟩ := h; simp at h)
        case y66 =>
          cases ho
          simp [execOp, go_sem, Act.eval]
        rintro rv w11 hout
        have HC11 : Hid (CS Bn wb K w w.heap.size (.cells #[.int .i64 (j : Int), .int .i64 r, .int .i64 a, .int .i64 kd, .int .i64 cn, .slice q m qc, .slice s n sc, .slice u l uc] 93) (Rk ++ [97] ++ decW a) w11) := HC10.out.put hout HNE.out.1 HNU.out.1
        obtain ⟨hu, _, _⟩ := hout
        cases hu
        refine ⟨HC11.out.s, ?_⟩
        simp only [Act.put, zzA, zzB, zzC]
        refine wpAnyH_done (by kernel_rfl) ?_ _
        have HN9 : Hid (LnS Bn wb K w w.heap.size (.cells #[.int .i64 (j : Int), .int .i64 r, .int .i64 a, .int .i64 kd, .int .i64 cn, .slice q m qc, .slice s n sc, .slice u l uc] 93) (R1 ++ flT x (fs.take (k + 1))) w11) := by
          have h := HC11.out.ln
          show LnS _ _ _ _ _ _ _ _
          rw [HTK.out, fT_A, ← HEQ.out.2.2.1]
          simp only [List.append_assoc, List.singleton_append] at h ⊢
          exact h
        clear HC11
        go_wp2_with fail
        go_roundw
        case rel => exact ⟨k + 1, by omega, by go_num, HN9⟩
        case measure => simp [intOf]; omega
      · go_wp2_with fail
        refine HSP.mono ?_
        rintro e w8 hout
        have HC8 : Hid (CS Bn wb K w w.heap.size (.cells #[.int .i64 (j : Int), .int .i64 r, .int .i64 a, .int .i64 kd, .int .i64 cn, .slice q m qc, .slice s n sc, .slice u l uc] 93) Rk w8) := HL.out.put hout HNE.out.1 HNU.out.1
        obtain ⟨rfl, _, _⟩ := hout
        have z0 : w8.cell? ⟨w.heap.size, 0, none⟩ = some (.int .i64 (j : Int)) := by simp [World.cell?, HC8.out.blk]
        have z1 : w8.cell? ⟨w.heap.size, 1, none⟩ = some (.int .i64 r) := by simp [World.cell?, HC8.out.blk]
        have z2 : w8.cell? ⟨w.heap.size, 2, none⟩ = some (.int .i64 a) := by simp [World.cell?, HC8.out.blk]
        have z3 : w8.cell? ⟨w.heap.size, 3, none⟩ = some (.int .i64 kd) := by simp [World.cell?, HC8.out.blk]
        have z4 : w8.cell? ⟨w.heap.size, 4, none⟩ = some (.int .i64 cn) := by simp [World.cell?, HC8.out.blk]
        have z5 : w8.cell? ⟨w.heap.size, 5, none⟩ = some (.slice q m qc) := by simp [World.cell?, HC8.out.blk]
        have z6 : w8.cell? ⟨w.heap.size, 6, none⟩ = some (.slice s n sc) := by simp [World.cell?, HC8.out.blk]
        have z7 : w8.cell? ⟨w.heap.size, 7, none⟩ = some (.slice u l uc) := by simp [World.cell?, HC8.out.blk]
        have HG := cellL_any HBN.out.1 HBN.out.2.1 HK.out.2.2 x (j : Int) r a kd cn q m qc s n sc u l uc HEQ.out.1 HEQ.out.2.2.2.1 HEQ.out.2.2.2.2.1 HEQ.out.2.2.2.2.2 HXC.out.1 HXC.out.2.1 HBN.out.2.2 HWI.out.2.2 w8 Rk HRB.out.1 (by have := HRB.out.2; omega) HST.out HC8.out.ws
        clear HSP hd
        go_wp2_with fail
        refine HG.mono ?_
        rintro e w9 hout
        have HN9 : Hid (LnS Bn wb K w w.heap.size (.cells #[.int .i64 (j : Int), .int .i64 r, .int .i64 a, .int .i64 kd, .int .i64 cn, .slice q m qc, .slice s n sc, .slice u l uc] 93) (R1 ++ flT x (fs.take (k + 1))) w9) := by
          have h := HC8.out.cell hout HNE.out.1 HNU.out.1
          show LnS _ _ _ _ _ _ _ _
          rw [HTK.out, fT_C]
          exact h
        obtain ⟨rfl, _, _⟩ := hout
        clear HG z0 z1 z2 z3 z4 z5 z6 z7
        go_wp2_with fail
        go_roundw
        case rel => exact ⟨k + 1, by omega, by go_num, HN9⟩
        case measure => simp [intOf]; omega
    · obtain rfl : k = L := by omega
      have HSP := put1 HBN.out.1 wr _ 10 (.inr rfl) hll.2 (by omega) HL.out.ws
      rw [show strOfNums [10] = ⟨#[10]⟩ from rfl] at HSP
      clear hll hcv
      go_wp2_with fail
      refine HSP.mono ?_
      rintro e w8 hout
      have HO : Hid (PutOut B w wb K (R ++ lineT i x) 0 (.returned (.tuple #[])) w8) := by
        obtain ⟨_, h2, h3⟩ := hout
        have e : R ++ lineT i x = R1 ++ flT x (fs.take k) ++ [10] := by rw [HLT.out, HR1.out.1, HLF.out, List.take_length]; simp
        show PutOut _ _ _ _ _ _ _ _
        rw [e]
        exact ⟨rfl, HBK.out w8 _ h2, HL.out.kept.trans h3⟩
      obtain ⟨rfl, _, _⟩ := hout
      clear HSP
      go_wp2_with fail
      exact bodyPost_end (v := .tuple #[]) (by simp [results, Tryz.results54, go_sem]) rfl HO.out
end Go.Proofs.YtjhbplgppakhoaaGreatDoor

namespace Go.Proofs.YtjhbplgppakhoaaGreatDoor
open Go Go.RowKit
set_option linter.unusedVariables false
def formA : Array Value := #[.string ⟨#[103, 101, 116, 118, 97, 114]⟩, .string ⟨#[82, 65]⟩, .string ⟨#[103, 101, 116, 118, 97, 108]⟩, .string ⟨#[82, 65]⟩, .string ⟨#[103, 101, 116, 99, 111, 110, 115, 116]⟩, .string ⟨#[67, 65]⟩, .string ⟨#[103, 101, 116, 115, 116, 114, 117, 99, 116]⟩, .string ⟨#[67, 65]⟩, .string ⟨#[117, 110, 105, 102, 121, 118, 97, 114]⟩, .string ⟨#[82]⟩, .string ⟨#[117, 110, 105, 102, 121, 118, 97, 108]⟩, .string ⟨#[82]⟩, .string ⟨#[117, 110, 105, 102, 121, 99, 111, 110, 115, 116]⟩, .string ⟨#[67]⟩, .string ⟨#[117, 110, 105, 102, 121, 118, 111, 105, 100]⟩, .string ⟨#[]⟩, .string ⟨#[112, 117, 116, 118, 97, 114]⟩, .string ⟨#[82, 65]⟩, .string ⟨#[112, 117, 116, 118, 97, 108]⟩, .string ⟨#[82, 65]⟩, .string ⟨#[112, 117, 116, 99, 111, 110, 115, 116]⟩, .string ⟨#[67, 65]⟩, .string ⟨#[112, 117, 116, 118, 111, 105, 100]⟩, .string ⟨#[65]⟩, .string ⟨#[112, 117, 116, 115, 116, 114, 117, 99, 116]⟩, .string ⟨#[67, 82]⟩, .string ⟨#[115, 101, 116, 118, 97, 114]⟩, .string ⟨#[82]⟩, .string ⟨#[115, 101, 116, 118, 97, 108]⟩, .string ⟨#[82]⟩, .string ⟨#[115, 101, 116, 99, 111, 110, 115, 116]⟩, .string ⟨#[67]⟩, .string ⟨#[115, 101, 116, 118, 111, 105, 100]⟩, .string ⟨#[]⟩, .string ⟨#[97, 108, 108, 111, 99, 97, 116, 101]⟩, .string ⟨#[65]⟩, .string ⟨#[100, 101, 97, 108, 108, 111, 99, 97, 116, 101]⟩, .string ⟨#[]⟩, .string ⟨#[99, 97, 108, 108]⟩, .string ⟨#[67]⟩, .string ⟨#[101, 120, 101, 99, 117, 116, 101]⟩, .string ⟨#[67]⟩, .string ⟨#[112, 114, 111, 99, 101, 101, 100]⟩, .string ⟨#[]⟩, .string ⟨#[98, 117, 105, 108, 116, 105, 110]⟩, .string ⟨#[67]⟩, .string ⟨#[108, 101, 118, 101, 108]⟩, .string ⟨#[82]⟩, .string ⟨#[109, 97, 114, 107]⟩, .string ⟨#[82]⟩, .string ⟨#[99, 117, 116]⟩, .string ⟨#[82]⟩, .string ⟨#[102, 97, 105, 108]⟩, .string ⟨#[]⟩, .string ⟨#[115, 116, 111, 112]⟩, .string ⟨#[]⟩, .string ⟨#[117, 110, 99, 97, 116, 99, 104]⟩, .string ⟨#[]⟩, .string ⟨#[116, 114, 121]⟩, .string ⟨#[65]⟩, .string ⟨#[114, 101, 116, 114, 121]⟩, .string ⟨#[65]⟩, .string ⟨#[116, 114, 117, 115, 116]⟩, .string ⟨#[65]⟩, .string ⟨#[115, 119, 105, 116, 99, 104]⟩, .string ⟨#[65]⟩]
theorem formA_at : ∀ i, i < 33 → formA[i * 2]? = some (.string (strOfNums (wordT i))) ∧ formA[i * 2 + 1]? = some (.string (strOfNums (fldI i))) := fun i hi => by
  match i, hi with
  | 0, _ => exact ⟨rfl, rfl⟩
  | 1, _ => exact ⟨rfl, rfl⟩
  | 2, _ => exact ⟨rfl, rfl⟩
  | 3, _ => exact ⟨rfl, rfl⟩
  | 4, _ => exact ⟨rfl, rfl⟩
  | 5, _ => exact ⟨rfl, rfl⟩
  | 6, _ => exact ⟨rfl, rfl⟩
  | 7, _ => exact ⟨rfl, rfl⟩
  | 8, _ => exact ⟨rfl, rfl⟩
  | 9, _ => exact ⟨rfl, rfl⟩
  | 10, _ => exact ⟨rfl, rfl⟩
  | 11, _ => exact ⟨rfl, rfl⟩
  | 12, _ => exact ⟨rfl, rfl⟩
  | 13, _ => exact ⟨rfl, rfl⟩
  | 14, _ => exact ⟨rfl, rfl⟩
  | 15, _ => exact ⟨rfl, rfl⟩
  | 16, _ => exact ⟨rfl, rfl⟩
  | 17, _ => exact ⟨rfl, rfl⟩
  | 18, _ => exact ⟨rfl, rfl⟩
  | 19, _ => exact ⟨rfl, rfl⟩
  | 20, _ => exact ⟨rfl, rfl⟩
  | 21, _ => exact ⟨rfl, rfl⟩
  | 22, _ => exact ⟨rfl, rfl⟩
  | 23, _ => exact ⟨rfl, rfl⟩
  | 24, _ => exact ⟨rfl, rfl⟩
  | 25, _ => exact ⟨rfl, rfl⟩
  | 26, _ => exact ⟨rfl, rfl⟩
  | 27, _ => exact ⟨rfl, rfl⟩
  | 28, _ => exact ⟨rfl, rfl⟩
  | 29, _ => exact ⟨rfl, rfl⟩
  | 30, _ => exact ⟨rfl, rfl⟩
  | 31, _ => exact ⟨rfl, rfl⟩
  | 32, _ => exact ⟨rfl, rfl⟩
  | n + 33, h => omega
set_option maxRecDepth 100000 in
set_option maxHeartbeats 2000000 in
theorem insForms_any (w : World) :
    Calls Tryz.prog 52 #[] w fun e w' => e = .returned (.slice (some ⟨w.heap.size, 0, none⟩) 33 33) ∧ (∀ i, i < 33 → w'.cell? ⟨w.heap.size, i * 2, none⟩ = some (.string (strOfNums (wordT i))) ∧ w'.cell? ⟨w.heap.size, i * 2 + 1, none⟩ = some (.string (strOfNums (fldI i)))) ∧ Below w.heap.size w w' := by
  have HF : Hid (∀ i, i < 33 → (w.alloc (.cells formA 146)).cell? ⟨w.heap.size, i * 2, none⟩ = some (.string (strOfNums (wordT i))) ∧ (w.alloc (.cells formA 146)).cell? ⟨w.heap.size, i * 2 + 1, none⟩ = some (.string (strOfNums (fldI i)))) := fun i hi => by
    have hb := heap_alloc_new w (.cells formA 146)
    obtain ⟨a, b⟩ := formA_at i hi
    exact ⟨by simp only [World.cell?]; rw [hb]; exact a, by simp only [World.cell?]; rw [hb]; exact b⟩
  have HB : Hid (∀ o, Below w.heap.size w (w.alloc o)) := fun o => (Below.refl _ _).alloc (Nat.le_refl _) _
  go_enter Tryz.func52, Tryz.ntmps52
  go_wp2_with fail
  go_ret
  exact ⟨rfl, HF.out, HB.out _⟩
def lsO (mb fb : Nat) : Obj := .cells #[.slice none 0 0, .nilFunc, .map (some mb), .slice none 0 0, .bool true, .slice (some ⟨fb, 0, none⟩) 33 33] 103
def lsB (w3 : World) (mb fb : Nat) : Bas := ⟨w3.alloc (lsO mb fb), w3.heap.size + 1, none, fun o => (w3.alloc (lsO mb fb)).cell? ⟨w3.heap.size, o, none⟩⟩
theorem lsB_below {w3 W : World} {mb fb : Nat} (h : (lsB w3 mb fb).grownBy W (some w3.heap.size)) : Below w3.heap.size w3 W :=
  below_bas h ((Below.refl _ _).alloc (Nat.le_refl _) _) (Nat.le_refl _) (fun k hk => by cases hk)
theorem ls_env {w3 : World} {mb fb : Nat} (hT : Tab w3) (hP : TabP w3) (hF : ∀ i, i < 33 → w3.cell? ⟨fb, i * 2, none⟩ = some (.string (strOfNums (wordT i))) ∧ w3.cell? ⟨fb, i * 2 + 1, none⟩ = some (.string (strOfNums (fldI i)))) :
    TabsK (lsB w3 mb fb) w3.heap.size ∧ NamesK (lsB w3 mb fb) w3.heap.size (mb, none, 0, 0, true) [] ∧ FormsK (lsB w3 mb fb) w3.heap.size fb ∧ WS (lsB w3 mb fb) (w3.alloc (lsO mb fb)) w3.heap.size (mb, none, 0, 0, true) none 0 0 [] 0 := by
  have hblk := heap_alloc_new w3 (lsO mb fb)
  have hc : ∀ o, (w3.alloc (lsO mb fb)).cell? ⟨w3.heap.size, o, none⟩ = (#[.slice none 0 0, .nilFunc, .map (some mb), .slice none 0 0, .bool true, .slice (some ⟨fb, 0, none⟩) 33 33] : Array Value)[o]? := fun o => by simp only [World.cell?]; rw [hblk]; rfl
  refine ⟨⟨fun W h => hT.below (lsB_below h), fun W h => hP.below (lsB_below h)⟩, ⟨fun W h => fun h0 => by simp at h0, rfl, by decide, fun i hi => by simp at hi⟩, ⟨hc 5, fun W h i hi => ?_⟩, ?_⟩
  · obtain ⟨a, b⟩ := hF i hi
    have hlt := World.block_lt_of_cell? _ _ a
    have hb := lsB_below h
    exact ⟨(hb.cell (p := ⟨fb, _, none⟩) hlt).trans a, (hb.cell (p := ⟨fb, i * 2 + 1, none⟩) (show fb < _ from hlt)).trans b⟩
  · exact ⟨⟨rfl, rfl, rfl, by simp [lsB], Nat.le_refl _, fun _ _ _ _ => rfl⟩, Nat.lt_succ_self _, ⟨_, _, _, hblk⟩, hc 0, hc 1, hc 2, hc 3, hc 4, fun o => frozen_of_row _ _ _ _ _ hblk, OwnS.nil _ _, (fun k hk => by cases hk), fun o _ => rfl⟩
end Go.Proofs.YtjhbplgppakhoaaGreatDoor

