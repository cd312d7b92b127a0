/- Texts of EvS5, EvS6, EvS7, EvS8, LawEval. Own work of the verifier. -/
import Derived.Test.YtpcmfdbcjegbcaaGreatDoorEvP
import Derived.Test.YtpcmfdbcjegbcaaGreatDoorStrI
import Derived.Test.YtpcmfdbcjegbcaaGreatDoorNextG
import Derived.Test.YtpcmfdbcjegbcaaGreatDoorEvMb
import Derived.Test.YtpcmfdbcjegbcaaGreatDoorEvMd
import Derived.Test.YtpcmfdbcjegbcaaGreatDoorTermG
import Derived.Test.YtpcmfdbcjegbcaaGreatDoorCArg
import Derived.Test.YtpcmfdbcjegbcaaGreatDoorMarkC
namespace Go.Proofs.YtpcmfdbcjegbcaaGreatDoor
open Go Go.RowKit
set_option linter.unusedVariables false
set_option linter.unusedSimpArgs false

theorem list_byte {l : List (List Int)} (h : (l.all fun s => s.all fun x => decide (0 ≤ x) && decide (x < 256)) = true) (j : Nat) (hj : j < l.length) : Byte (l.getD j []) := fun x hx => by
  have hm : l.getD j [] ∈ l := by
    rw [List.getD_eq_getElem?_getD, List.getElem?_eq_getElem hj]
    exact List.getElem_mem _
  have := List.all_eq_true.1 (List.all_eq_true.1 h _ hm) x hx
  simpa using this
theorem mem_getD {l : List (List Int)} {s : List Int} : s ∈ l ↔ ∃ j, j < l.length ∧ l.getD j [] = s := by
  constructor
  · intro h
    obtain ⟨j, hj, e⟩ := List.mem_iff_getElem.1 h
    exact ⟨j, hj, by simp [List.getD, hj, e]⟩
  · rintro ⟨j, hj, rfl⟩
    rw [List.getD_eq_getElem?_getD, List.getElem?_eq_getElem hj]
    exact List.getElem_mem _
def knW (w : World) : World := (w.alloc (Obj.cells #[Value.string { data := #[45] }, Value.string { data := #[43] }, Value.string { data := #[97, 98, 115] }, Value.string { data := #[115, 105, 103, 110] }, Value.string { data := #[92] }] 9)).alloc (Obj.cells #[Value.string { data := #[43] }, Value.string { data := #[45] }, Value.string { data := #[42] }, Value.string { data := #[109, 105, 110] }, Value.string { data := #[109, 97, 120] }, Value.string { data := #[47, 47] }, Value.string { data := #[114, 101, 109] }, Value.string { data := #[109, 111, 100] }, Value.string { data := #[62, 62] }, Value.string { data := #[60, 60] }, Value.string { data := #[47, 92] }, Value.string { data := #[92, 47] }, Value.string { data := #[120, 111, 114] }, Value.string { data := #[42, 42] }, Value.string { data := #[94] }] 9)
theorem knW_below (w : World) : Below w.heap.size w (knW w) :=
  ((Below.refl _ _).alloc (Nat.le_refl _) _).alloc (by rw [World.size_alloc]; omega) _
theorem knW_ones (w : World) (j : Nat) (hj : j < 5) : (knW w).cell? ⟨w.heap.size, j, none⟩ = some (.string (strOfNums (ones.getD j []))) := by
  have hcases : j = 0 ∨ j = 1 ∨ j = 2 ∨ j = 3 ∨ j = 4 := by omega
  rcases hcases with rfl | rfl | rfl | rfl | rfl
  all_goals (refine (World.cell?_alloc_lt _ _ _ (by rw [World.size_alloc]; exact Nat.lt_succ_self _)).trans ?_; simp <;> rfl)
theorem knW_twos (w : World) (j : Nat) (hj : j < 15) : (knW w).cell? ⟨w.heap.size + 1, j, none⟩ = some (.string (strOfNums (twos.getD j []))) := by
  have hcases : j = 0 ∨ j = 1 ∨ j = 2 ∨ j = 3 ∨ j = 4 ∨ j = 5 ∨ j = 6 ∨ j = 7 ∨ j = 8 ∨ j = 9 ∨ j = 10 ∨ j = 11 ∨ j = 12 ∨ j = 13 ∨ j = 14 := by omega
  rcases hcases with rfl | rfl | rfl | rfl | rfl | rfl | rfl | rfl | rfl | rfl | rfl | rfl | rfl | rfl | rfl
  all_goals (unfold knW; rw [show w.heap.size + 1 = (w.alloc (Obj.cells #[Value.string { data := #[45] }, Value.string { data := #[43] }, Value.string { data := #[97, 98, 115] }, Value.string { data := #[115, 105, 103, 110] }, Value.string { data := #[92] }] 9)).heap.size from (World.size_alloc _ _).symm]; simp <;> rfl)
set_option maxRecDepth 100000 in
set_option maxHeartbeats 1200000 in
theorem l6known_any (s : List Int) (hs : Byte s) (n : Int) (w : World) (h1 : 1 ≤ n) (h2 : n ≤ 20) : Calls Tryz.prog 27 #[.string (strOfNums s), .int .i64 n] w fun e w' => e = .returned (.bool (knownB s n)) ∧ Below w.heap.size w w' := by
  have HS : Hid (Byte s) := hs
  obtain ⟨str, es⟩ : ∃ str, str = strOfNums s := ⟨_, rfl⟩
  have HES : Hid (str = strOfNums s) := es
  rw [← es]
  clear hs es
  by_cases hn : n = 1
  · subst hn
    go_enter Tryz.func27, Tryz.ntmps27
    go_wp2_with fail
    change Code.wp _ _ _ _ (knW w)
    have HC := knW_ones w
    have HCH : Hid (∀ j, j < 5 → (knW w).cell? ⟨w.heap.size, j, none⟩ = some (.string (strOfNums (ones.getD j [])))) := HC
    clear HC
    have HBW : Hid (Below w.heap.size w (knW w)) := knW_below w
    obtain ⟨W, eW⟩ : ∃ W, W = knW w := ⟨_, rfl⟩
    rw [← eW] at HCH HBW ⊢
    clear eW
    obtain ⟨b, eb⟩ : ∃ b, b = w.heap.size := ⟨_, rfl⟩
    have HEB : Hid (b = w.heap.size) := eb
    rw [← eb] at HCH HBW ⊢
    clear eb
    go_loop [8] (fun a => ∃ j : Nat, j ≤ 5 ∧ a = .int .i64 j ∧ Hid (∀ k, k < j → ones.getD k [] ≠ s)) (fun a => 5 - (intOf a).toNat)
    case atStart => exact ⟨0, by omega, rfl, fun k hk => by omega⟩
    case round =>
      obtain ⟨j, hjl, rfl, HJ⟩ := hrel
      by_cases hlt : j < 5
      · have hc := HCH.out j hlt
        have hj0 : (0 : Int) ≤ (j : Int) := by omega
        have hjn : (j : Int) < 5 := by omega
        have HBJ : Hid (Byte (ones.getD j [])) := list_byte (by decide) j hlt
        by_cases he : ones.getD j [] = s
        · have HR : Hid (knownB s 1 = true) := by
            show knownB s 1 = true
            have hm : s ∈ ones := mem_getD.2 ⟨j, hlt, he⟩
            simp [knownB, hm]
          have HE : Hid (ones.getD j [] = s) := he
          rw [he, ← HES.out] at hc
          clear he
          go_wp2_with fail
          go_ret
          exact ⟨ret_bool HR.out.symm, by rw [← HEB.out]; exact HBW.out⟩
        · have HJ2 : Hid (∀ k, k < j + 1 → ones.getD k [] ≠ s) := fun k hk => by
            rcases Nat.lt_or_ge k j with h' | h'
            · exact HJ.out k h'
            · have e : k = j := by omega
              rw [e]; exact he
          have hbn : ¬ strOfNums (ones.getD j []) = str := fun h => he (str_ne HBJ.out HS.out (h.trans HES.out))
          obtain ⟨sj, ej⟩ : ∃ sj, sj = strOfNums (ones.getD j []) := ⟨_, rfl⟩
          rw [← ej] at hc hbn
          have hbl : (sj.toList == str.toList) = false := by
            rw [beq_eq_false_iff_ne]
            intro h
            rw [ByteArray.toList_eq, ByteArray.toList_eq] at h
            exact hbn (ByteArray.ext (Array.toList_inj.1 h))
          clear he ej hbn
          go_wp2_with fail
          go_round
          case rel => exact ⟨j + 1, by omega, by go_num, HJ2⟩
          case measure => simp [intOf]; omega
      · have hjl' : j = 5 := by omega
        subst hjl'
        have HR : Hid (knownB s 1 = false) := by
          show knownB s 1 = false
          have hm : s ∉ ones := fun h => by
            obtain ⟨k, hk, e⟩ := mem_getD.1 h
            exact HJ.out k hk e
          simp only [knownB, hm, decide_false]
          simp
        go_wp2_with fail
        go_ret
        exact ⟨ret_bool HR.out.symm, by rw [← HEB.out]; exact HBW.out⟩
  · have hnb : (n == 1) = false := by simp [hn]
    go_enter Tryz.func27, Tryz.ntmps27
    go_wp2_with fail
    change Code.wp _ _ _ _ (knW w)
    have HC := knW_twos w
    have HCH : Hid (∀ j, j < 15 → (knW w).cell? ⟨w.heap.size + 1, j, none⟩ = some (.string (strOfNums (twos.getD j [])))) := HC
    clear HC
    have HBW : Hid (Below w.heap.size w (knW w)) := knW_below w
    obtain ⟨W, eW⟩ : ∃ W, W = knW w := ⟨_, rfl⟩
    rw [← eW] at HCH HBW ⊢
    clear eW
    obtain ⟨b, eb⟩ : ∃ b, b = w.heap.size := ⟨_, rfl⟩
    have HEB : Hid (b = w.heap.size) := eb
    rw [← eb] at HCH HBW ⊢
    clear eb
    go_loop [8] (fun a => ∃ j : Nat, j ≤ 15 ∧ a = .int .i64 j ∧ Hid (∀ k, k < j → twos.getD k [] ≠ s)) (fun a => 15 - (intOf a).toNat)
    case atStart => exact ⟨0, by omega, rfl, fun k hk => by omega⟩
    case round =>
      obtain ⟨j, hjl, rfl, HJ⟩ := hrel
      by_cases hlt : j < 15
      · have hc := HCH.out j hlt
        have hj0 : (0 : Int) ≤ (j : Int) := by omega
        have hjn : (j : Int) < 15 := by omega
        have HBJ : Hid (Byte (twos.getD j [])) := list_byte (by decide) j hlt
        by_cases he : twos.getD j [] = s
        · have HR : Hid (knownB s n = decide (n = 2)) := by
            show knownB s n = decide (n = 2)
            have hm : s ∈ twos := mem_getD.2 ⟨j, hlt, he⟩
            simp [knownB, hm, hn]
          have HE : Hid (twos.getD j [] = s) := he
          rw [he, ← HES.out] at hc
          clear he
          go_wp2_with fail
          go_ret
          exact ⟨ret_bool HR.out.symm, by rw [← HEB.out]; exact HBW.out⟩
        · have HJ2 : Hid (∀ k, k < j + 1 → twos.getD k [] ≠ s) := fun k hk => by
            rcases Nat.lt_or_ge k j with h' | h'
            · exact HJ.out k h'
            · have e : k = j := by omega
              rw [e]; exact he
          have hbn : ¬ strOfNums (twos.getD j []) = str := fun h => he (str_ne HBJ.out HS.out (h.trans HES.out))
          obtain ⟨sj, ej⟩ : ∃ sj, sj = strOfNums (twos.getD j []) := ⟨_, rfl⟩
          rw [← ej] at hc hbn
          have hbl : (sj.toList == str.toList) = false := by
            rw [beq_eq_false_iff_ne]
            intro h
            rw [ByteArray.toList_eq, ByteArray.toList_eq] at h
            exact hbn (ByteArray.ext (Array.toList_inj.1 h))
          clear he ej hbn
          go_wp2_with fail
          go_round
          case rel => exact ⟨j + 1, by omega, by go_num, HJ2⟩
          case measure => simp [intOf]; omega
      · have hjl' : j = 15 := by omega
        subst hjl'
        have HR : Hid (knownB s n = false) := by
          show knownB s n = false
          have hm : s ∉ twos := fun h => by
            obtain ⟨k, hk, e⟩ := mem_getD.1 h
            exact HJ.out k hk e
          simp only [knownB, hm, hn, decide_false]
          simp
        go_wp2_with fail
        go_ret
        exact ⟨ret_bool HR.out.symm, by rw [← HEB.out]; exact HBW.out⟩

end Go.Proofs.YtpcmfdbcjegbcaaGreatDoor

namespace Go.Proofs.YtpcmfdbcjegbcaaGreatDoor
open Go Go.RowKit
set_option linter.unusedVariables false
set_option linter.unusedSimpArgs false

def trsF : Fo → List Tr
  | .nil => []
  | .node c k r => (c, k) :: trsF r
theorem trsF_len : ∀ F : Fo, (trsF F).length = F.count
  | .nil => rfl
  | .node _ _ r => by simp [trsF, Fo.count, trsF_len r]
/-- Slices of cells, each a tree. -/
def ArgRow (w : World) : List (Option Addr × Nat × Nat) → List Tr → Prop
  | [], [] => True
  | r :: rs, t :: ts => r.2.1 = 1 + t.2.cells.length ∧ r.2.1 ≤ r.2.2 ∧ r.2.2 ≤ 1000000000 ∧ CIn w r.1 (t.1 :: t.2.cells) ∧ ArgRow w rs ts
  | [], _ :: _ => False
  | _ :: _, [] => False
theorem ArgRow.snoc {w : World} {r : Option Addr × Nat × Nat} {t : Tr} (h1 : r.2.1 = 1 + t.2.cells.length) (h2 : r.2.1 ≤ r.2.2) (h3 : r.2.2 ≤ 1000000000) (h4 : CIn w r.1 (t.1 :: t.2.cells)) : ∀ {rs : List (Option Addr × Nat × Nat)} {ts : List Tr}, ArgRow w rs ts → ArgRow w (rs ++ [r]) (ts ++ [t])
  | [], [], _ => ⟨h1, h2, h3, h4, trivial⟩
  | _ :: _, _ :: _, h => ⟨h.1, h.2.1, h.2.2.1, h.2.2.2.1, ArgRow.snoc h1 h2 h3 h4 h.2.2.2.2⟩
  | [], _ :: _, h => h.elim
  | _ :: _, [], h => h.elim
/-- What l2args has done: D, what is left: G. -/
structure ArgSt (w wr : World) (cs : List Cel) (k : Fo) (a : Nat) (D : List Tr) (G : Fo) (pt : Option Addr) (nt ct : Nat) (rs : List (Option Addr × Nat × Nat)) : Prop where
  gd : cs.drop a = G.cells
  gok : G.ok
  all : D ++ trsF G = trsF k
  cnt : nt = D.length
  row : wr.ownsRow w.heap.size 24 1 (.slice pt nt ct) nt (rs.map slV)
  arg : ArgRow w rs D
  low : Below w.heap.size w wr
def ArgsOut (w : World) (k : Fo) (e : Ending) (w' : World) : Prop := ∃ q m mc rs, e = .returned (.slice q m mc) ∧ m = k.count ∧ w'.ownsRow w.heap.size 24 1 (.slice q m mc) m (rs.map slV) ∧ ArgRow w rs (trsF k) ∧ Below w.heap.size w w'

set_option maxRecDepth 100000 in
set_option maxHeartbeats 2000000 in
theorem l2args_any (c : Cel) (k : Fo) (p : Option Addr) (n cap : Nat) (w : World) (h3 : c.1 = 3) (hok : (Fo.node c k .nil).ok) (hn : n = (c :: k.cells).length) (hnm : n ≤ 2000) (hcap : n ≤ cap) (hcm : cap ≤ 1000000000) (hin : CIn w p (c :: k.cells)) :
    Calls Tryz.prog 30 #[.slice p n cap] w (ArgsOut w k) := by
  obtain ⟨b, o, rfl, hcs⟩ := hin (by simp)
  have HK : Hid (∀ wr, Below w.heap.size w wr → wr.cell? ⟨b, o, none⟩ = some (.int .i64 3) ∧ wr.cell? ⟨b, o + 1, none⟩ = some (.int .i64 k.count)) := fun wr hb => by
    obtain ⟨p0, q0, d0, d1, _, _⟩ := (hcs 0 (by simp)).below hb
    simp only [List.getD_cons_zero, Nat.zero_mul, Nat.add_zero] at d0 d1
    rw [h3] at d0
    rw [hok.2.2.1 h3] at d1
    exact ⟨d0, d1⟩
  obtain ⟨d0, d1⟩ := HK.out w (Below.refl _ _)
  have hb20 : k.count ≤ 20 := by
    have h := hok.1
    rw [h3] at h
    have := cellB_comp h
    have := hok.2.2.1 h3
    omega
  have HST : Hid (ArgSt w w (c :: k.cells) k 1 [] k none 0 0 []) := ⟨rfl, hok.2.2.2.2.1, rfl, rfl, World.ownsRow_nil _ _ _ _, trivial, Below.refl _ _⟩
  have HGL : Hid (1 + k.cells.length = n) := by show _ = _; rw [hn]; simp; omega
  obtain ⟨cs, ecs⟩ : ∃ cs, cs = c :: k.cells := ⟨_, rfl⟩
  rw [← ecs] at hcs hn HST hin
  have HX : Hid (∀ i, i < cs.length → CAt w b (o + i * 3) (cs.getD i Cel.none)) := hcs
  have HIN : Hid (CIn w (some ⟨b, o, none⟩) cs) := hin
  have HN : Hid (n = cs.length) := hn
  obtain ⟨M, eM⟩ : ∃ M, M = k.count := ⟨_, rfl⟩
  have HM : Hid (M = k.count) := eM
  rw [← eM] at HK d1 hb20
  have hn0 : 0 < n := by have := HGL.out; omega
  have hn00 : ((n : Int) == 0) = false := by rw [beq_eq_false_iff_ne]; omega
  clear hcs hin hn ecs eM h3 hok
  go_enter Tryz.func30, Tryz.ntmps30
  go_wp2_with fail
  clear d0 d1
  go_loopw [3, 4, 5] (fun s3 s4 s5 wr => ∃ (a : Nat) (D : List Tr) (G : Fo) (pt : Option Addr) (nt ct : Nat) (rs : List (Option Addr × Nat × Nat)), a ≤ n ∧ nt ≤ M ∧ s3 = .slice pt nt ct ∧ s4 = .int .i64 a ∧ s5 = .int .i64 nt ∧ Hid (a + G.cells.length = n) ∧ Hid (ArgSt w wr cs k a D G pt nt ct rs)) (fun _ _ i _ => M - (intOf i).toNat)
  case atStart => exact ⟨1, [], k, none, 0, 0, [], by omega, Nat.zero_le _, rfl, rfl, rfl, HGL.out, HST.out⟩
  case round =>
    obtain ⟨a, D, G, pt, nt, ct, rs, ha, hnt, rfl, rfl, rfl, HL, HS⟩ := hrel
    obtain ⟨d0, d1⟩ := HK.out wr HS.out.low
    by_cases hlt : nt < M
    · obtain ⟨c1, k1, r1, rfl⟩ : ∃ c k r, G = .node c k r := by
        cases G with
        | nil =>
          have h1 := HS.out.all
          have h2 := congrArg List.length h1
          have h3 := HS.out.cnt
          have h4 := HM.out
          simp [trsF, trsF_len] at h2
          omega
        | node c k r => exact ⟨c, k, r, rfl⟩
      have hgd : cs.drop a = c1 :: (k1.cells ++ r1.cells) := HS.out.gd
      have HO : Hid (Fo.node c1 k1 r1).ok := HS.out.gok
      have HT : Hid (Fo.node c1 k1 .nil).ok := ⟨HO.out.1, HO.out.2.1, HO.out.2.2.1, HO.out.2.2.2.1, HO.out.2.2.2.2.1, trivial⟩
      have HNX := l2next_any (some ⟨b, o, none⟩) n cap cs a c1 k1 r1.cells wr HN.out (by omega) hgd HT.out (HIN.out.below HS.out.low)
      have HPT : Hid (CIn w (some ⟨b, o + a * 3, none⟩) (c1 :: k1.cells)) := CIn.part HX.out a (by rw [hgd]; exact ⟨r1.cells, by simp⟩)
      obtain ⟨L, eL⟩ : ∃ L, L = 1 + k1.cells.length := ⟨_, rfl⟩
      have HEL : Hid (L = 1 + k1.cells.length) := eL
      have hnx : a + 1 + k1.cells.length = a + L := by omega
      have HDR : Hid (cs.drop (a + L) = r1.cells) := by
        show _ = _
        rw [← hnx, show a + 1 + k1.cells.length = (a + 1) + k1.cells.length by omega, ← List.drop_drop, (drop_cell hgd).2.2]; simp
      have hle : a + L ≤ n := by have := HL.out; simp [Fo.cells] at this; omega
      rw [hnx] at HNX
      have HLL : Hid (a + L + r1.cells.length = n) := by show _ = _; have := HL.out; simp [Fo.cells] at this; omega
      have hL1 : 1 ≤ L := by omega
      have hma : (0 : Int) < (cap : Int) - (a : Int) := by omega
      have hL2 : (a : Int) ≤ (a : Int) + (L : Int) := by omega
      have hL3 : (a : Int) + (L : Int) ≤ (n : Int) := by omega
      have hL4 : (a : Int) + (L : Int) ≤ (cap : Int) := by omega
      have hcap1 : ¬ cap = a := by omega
      have hcap2 : ¬ cap - a = 0 := by omega
      have hltI : (nt : Int) < (M : Int) := by omega
      clear hgd eL hnx
      go_wp2_with fail
      refine HNX.mono ?_
      rintro e w3 ⟨rfl, rfl⟩
      clear HNX
      go_wp2_with (at_builtin; refine app_sl _ rfl _ _ rfl w.heap.size pt nt ct rs (some ⟨b, o + a * 3, none⟩) L (cap - a) rfl HS.out.row rfl (by omega) HS.out.low.size ?_; intro g6 cap6 w6 hown6 hg6)
      have hbal := HS.out.low.alloc HS.out.low.size (.cells #[.slice (some ⟨b, o + a * 3, none⟩) L (cap - a)] 24)
      have HS6 : Hid (ArgSt w w6 cs k (a + L) (D ++ [(c1, k1)]) r1 (some ⟨g6, 0, none⟩) (nt + 1) cap6 (rs ++ [(some ⟨b, o + a * 3, none⟩, L, cap - a)])) :=
        ⟨HDR.out, HO.out.2.2.2.2.2, by rw [← HS.out.all]; simp [trsF], by rw [HS.out.cnt]; simp, hown6, ArgRow.snoc HEL.out (by simp only; omega) (by simp only; omega) HPT.out HS.out.arg, hbal.grown hg6 hbal.size (fun k e => (HS.out.row.lt k e).1)⟩
      clear hown6 hg6 hbal
      go_roundw
      case rel => exact ⟨a + L, D ++ [(c1, k1)], r1, some ⟨g6, 0, none⟩, nt + 1, cap6, _, by omega, by omega, rfl, by go_num, by go_num, HLL.out, HS6⟩
      case measure => simp [intOf]; omega
    · obtain rfl : nt = M := by omega
      have HF : Hid (ArgRow w rs (trsF k)) := by
        show ArgRow w rs (trsF k)
        have h1 := HS.out.all
        have h2 := congrArg List.length h1
        have h3 := HS.out.cnt
        have h4 := HM.out
        simp [trsF_len] at h2
        have h5 : trsF G = [] := List.length_eq_zero_iff.1 (by rw [trsF_len]; omega)
        rw [h5, List.append_nil] at h1
        rw [← h1]; exact HS.out.arg
      go_wp2_with fail
      go_ret
      exact ⟨pt, _, ct, rs, rfl, HM.out, HS.out.row, HF.out, HS.out.low⟩

end Go.Proofs.YtpcmfdbcjegbcaaGreatDoor

namespace Go.Proofs.YtpcmfdbcjegbcaaGreatDoor
open Go Go.RowKit
set_option linter.unusedVariables false
set_option linter.unusedSimpArgs false

/-- What l6value leaves. -/
def SV (w : World) (r : ER) (e : Ending) (w' : World) : Prop := (match r with
  | .ok v => e = .returned (.tuple #[.int .i64 v, .slice none 0 0])
  | .error t => ∃ q m c2, e = .returned (.tuple #[.int .i64 0, .slice q m c2]) ∧ m = (t.1 :: t.2.cells).length ∧ CIn w' q (t.1 :: t.2.cells)) ∧ Below w.heap.size w w'
def SpOk (M : Nat) : Prop := ∀ (c : Cel) (k : Fo) (p : Option Addr) (n cap : Nat) (w : World), k.cells.length ≤ M → (Fo.node c k .nil).ok → n = (c :: k.cells).length → n ≤ 2000 → n ≤ cap → cap ≤ 1000000000 → CIn w p (c :: k.cells) → Calls Tryz.prog 13 #[.slice p n cap] w (SV w (evT (c, k)))
theorem byte_of' {s : List Int} (h : (s.all fun x => decide (0 ≤ x) && decide (x < 256)) = true) : Byte s := fun x hx => by
  have := List.all_eq_true.1 h x hx
  simpa using this
theorem one_any {s : List Int} (hs : s ∈ ones) (x : Int) (w : World) (hx : InB x) : Calls Tryz.prog 31 #[.string (strOfNums s), .int .i64 x] w (OneOut w (op1 s x)) := by
  simp only [ones, List.mem_cons, List.not_mem_nil, or_false] at hs
  rcases hs with rfl | rfl | rfl | rfl | rfl
  · exact one0 x w hx
  · exact one1 x w hx
  · exact one2 x w hx
  · exact one3 x w hx
  · exact one4 x w hx
theorem two_any {s : List Int} (hs : s ∈ twos) (x y : Int) (w : World) (hx : InB x) (hy : InB y) : Calls Tryz.prog 32 #[.string (strOfNums s), .int .i64 x, .int .i64 y] w (TwoOut w (op2 s x y)) := by
  simp only [twos, List.mem_cons, List.not_mem_nil, or_false] at hs
  rcases hs with rfl | rfl | rfl | rfl | rfl | rfl | rfl | rfl | rfl | rfl | rfl | rfl | rfl | rfl | rfl
  · exact two0 x y w hx hy
  · exact two1 x y w hx hy
  · exact two2 x y w hx hy
  · exact two3 x y w hx hy
  · exact two4 x y w hx hy
  · exact two5 x y w hx hy
  · exact two6 x y w hx hy
  · exact two7 x y w hx hy
  · exact two8 x y w hx hy
  · exact two9 x y w hx hy
  · exact two10 x y w hx hy
  · exact two11 x y w hx hy
  · exact two12 x y w hx hy
  · exact two13 x y w hx hy
  · exact two14 x y w hx hy
set_option maxRecDepth 100000 in
set_option maxHeartbeats 1000000 in
/-- Numbers and variables. -/
theorem value_leaf (c : Cel) (k : Fo) (p : Option Addr) (n cap : Nat) (w : World) (h3 : c.1 = 1 ∨ c.1 = 0) (hn : n = (c :: k.cells).length) (hnm : n ≤ 2000) (hin : CIn w p (c :: k.cells)) : Calls Tryz.prog 13 #[.slice p n cap] w (SV w (evT (c, k))) := by
  obtain ⟨b, o, rfl, hcs⟩ := hin (by simp)
  obtain ⟨p0, q0, d0, d1, d2, _⟩ := hcs 0 (by simp)
  simp only [List.getD_cons_zero, Nat.zero_mul, Nat.add_zero] at d0 d1 d2
  have hn0 : 0 < n := by rw [hn]; simp
  obtain ⟨l, el⟩ : ∃ l, l = c.2.2.length := ⟨_, rfl⟩
  rw [← el] at d2
  have hev : evT (c, k) = if c.1 = 1 then .ok c.2.1 else if c.1 = 0 then .error instT else evT (c, k) := by
    unfold evT evC
    rcases h3 with h | h <;> simp [h]
  obtain ⟨N, eN⟩ : ∃ N, N = c.2.1 := ⟨_, rfl⟩
  rw [← eN] at d1 hev
  rcases h3 with h | h
  · rw [if_pos h] at hev
    rw [hev]
    rw [h] at d0
    clear hcs hin hn el hev eN h
    go_enter Tryz.func13, Tryz.ntmps13
    go_wp2_with fail
    go_ret2
    exact ⟨rfl, (Below.refl _ _).alloc (Nat.le_refl _) _⟩
  · rw [if_neg (by rw [h]; decide), if_pos h] at hev
    rw [hev]
    rw [h] at d0
    have HI := l6inst_any (w.alloc (.cells #[.int .i64 0, .int .i64 N, .slice p0 l q0] 39))
    have HV : Hid (Below w.heap.size w (w.alloc (.cells #[.int .i64 0, .int .i64 N, .slice p0 l q0] 39))) := (Below.refl _ _).alloc (Nat.le_refl _) _
    clear hcs hin hn el hev eN h
    go_enter Tryz.func13, Tryz.ntmps13
    go_wp2_with fail
    refine HI.mono ?_
    rintro e w1 ⟨p1, rfl, hc1, hb1⟩
    have HC : Hid _ := hc1
    have HB : Hid (Below w.heap.size w w1) := Below.on HV.out hb1
    clear hc1 hb1 HI HV
    go_wp2_with fail
    go_ret2
    exact ⟨⟨p1, 1, 1, rfl, rfl, HC.out⟩, HB.out⟩
theorem ind_small {s : List Int} (hl : s.length ≤ 100) (n : Int) : ((indT s n).1 :: (indT s n).2.cells).length + tl ((indT s n).1 :: (indT s n).2.cells) ≤ 100000 := by
  simp [indT, Fo.cells, tl]; omega
set_option maxRecDepth 100000 in
set_option maxHeartbeats 1000000 in
theorem value_atom (c : Cel) (k : Fo) (p : Option Addr) (n cap : Nat) (w : World) (h3 : c.1 = 2) (hok : (Fo.node c k .nil).ok) (hn : n = (c :: k.cells).length) (hnm : n ≤ 2000) (hin : CIn w p (c :: k.cells)) : Calls Tryz.prog 13 #[.slice p n cap] w (SV w (evT (c, k))) := by
  obtain ⟨b, o, rfl, hcs⟩ := hin (by simp)
  obtain ⟨p0, q0, d0, d1, d2, d3⟩ := hcs 0 (by simp)
  simp only [List.getD_cons_zero, Nat.zero_mul, Nat.add_zero] at d0 d1 d2 d3
  have hn0 : 0 < n := by rw [hn]; simp
  have hcb := hok.1
  simp only [cellB, decide_eq_true_eq] at hcb
  have hby := hok.2.1
  have hev : evT (c, k) = .error (evbT c.2.2 c.2.1) := by
    unfold evT evC
    simp [h3]
  rw [hev]
  obtain ⟨N, eN⟩ : ∃ N, N = c.2.1 := ⟨_, rfl⟩
  obtain ⟨s, es⟩ : ∃ s, s = c.2.2 := ⟨_, rfl⟩
  obtain ⟨l, el⟩ : ∃ l, l = s.length := ⟨_, rfl⟩
  rw [← eN] at d1 ⊢
  rw [← es] at d2 d3 hby hcb ⊢
  have hsl : s.length ≤ 100 := by omega
  rw [← el] at d2
  rw [h3] at d0
  have HV : Hid (Below w.heap.size w (w.alloc (.cells #[.int .i64 2, .int .i64 N, .slice p0 l q0] 39))) := (Below.refl _ _).alloc (Nat.le_refl _) _
  have HSL := l6slash_any s hsl N p0 l q0 (w.alloc (.cells #[.int .i64 2, .int .i64 N, .slice p0 l q0] 39)) el (BIn.below d3 HV.out)
  have HTY : Hid (∀ W q m c2, m = ((indT s N).1 :: (indT s N).2.cells).length → CIn W q ((indT s N).1 :: (indT s N).2.cells) → Calls Tryz.prog 28 #[.string (strOfNums sEvb), .slice q m c2] W (MadeT W (typeT sEvb (indT s N)))) := fun W q m c2 hm hc => l6type_any sEvb (byte_of' (by decide)) (by decide) (indT s N) q m c2 W hm hc (by rw [hm]; exact ind_small hsl N)
  clear hcs hin hn hok hcb hby hev eN es el h3 hsl d3
  go_enter Tryz.func13, Tryz.ntmps13
  go_wp2_with fail
  refine HSL.mono ?_
  rintro e w1 ⟨q, m, c2, rfl, ho, hb1⟩
  have HT := HTY.out w1 q m c2 ho.1 ho.cin
  have HB : Hid (Below w.heap.size w w1) := Below.on HV.out hb1
  clear ho hb1 HSL HV HTY
  go_wp2_with fail
  refine HT.mono ?_
  rintro e w2 ⟨q2, m2, c22, rfl, ho, hb2⟩
  have HO : Hid (m2 = _ ∧ CIn w2 q2 _) := ⟨ho.1, ho.cin⟩
  have HB2 : Hid (Below w.heap.size w w2) := Below.on HB.out hb2
  clear ho hb2 HT HB
  go_wp2_with fail
  go_ret2
  exact ⟨⟨q2, m2, c22, rfl, HO.out.1, HO.out.2⟩, HB2.out⟩
theorem evT_comp {c : Cel} {k : Fo} (h3 : c.1 = 3) : evT (c, k) = if knownB c.2.2 c.2.1 = false then .error (evbT c.2.2 c.2.1) else match seqE (evF k) with
      | .error t => .error t
      | .ok xs => bndE (opV c.2.2 xs) := by
  unfold evT evC
  simp only [h3]
  rw [if_neg (by decide), if_neg (by decide)]
  by_cases hk : knownB c.2.2 c.2.1 = false
  · rw [if_pos (.inr hk), if_pos hk]
  · rw [if_neg (by simp [hk]), if_neg hk]
    cases seqE (evF k) <;> rfl
set_option maxRecDepth 100000 in
set_option maxHeartbeats 1000000 in
theorem value_unknown (c : Cel) (k : Fo) (p : Option Addr) (n cap : Nat) (w : World) (h3 : c.1 = 3) (hok : (Fo.node c k .nil).ok) (hn : n = (c :: k.cells).length) (hnm : n ≤ 2000) (hcap : n ≤ cap) (hcm : cap ≤ 1000000000) (hin : CIn w p (c :: k.cells)) (hkn : knownB c.2.2 c.2.1 = false) : Calls Tryz.prog 13 #[.slice p n cap] w (SV w (evT (c, k))) := by
  obtain ⟨b, o, rfl, hcs⟩ := hin (by simp)
  obtain ⟨p0, q0, d0, d1, d2, d3⟩ := hcs 0 (by simp)
  simp only [List.getD_cons_zero, Nat.zero_mul, Nat.add_zero] at d0 d1 d2 d3
  have hn0 : 0 < n := by rw [hn]; simp
  have hcb := hok.1
  simp only [cellB, decide_eq_true_eq] at hcb
  have hby := hok.2.1
  have hev : evT (c, k) = .error (evbT c.2.2 c.2.1) := by rw [evT_comp h3, if_pos hkn]
  have hN1 : 1 ≤ c.2.1 := by omega
  have hN2 : c.2.1 ≤ 20 := by omega
  obtain ⟨N, eN⟩ : ∃ N, N = c.2.1 := ⟨_, rfl⟩
  obtain ⟨s, es⟩ : ∃ s, s = c.2.2 := ⟨_, rfl⟩
  obtain ⟨l, el⟩ : ∃ l, l = s.length := ⟨_, rfl⟩
  rw [← eN] at d1 hN1 hN2 hkn hev
  rw [← es] at d2 d3 hby hcb hkn hev
  have hsl : s.length ≤ 100 := by omega
  rw [← el] at d2
  rw [h3] at d0
  have HV : Hid (Below w.heap.size w (w.alloc (.cells #[.int .i64 3, .int .i64 N, .slice p0 l q0] 39))) := (Below.refl _ _).alloc (Nat.le_refl _) _
  obtain ⟨str, estr⟩ : ∃ str, str = strOfNums s := ⟨_, rfl⟩
  have HCV : Hid (∀ W, Below w.heap.size w W → (convert 32 9 (.slice p0 l q0)).run Tryz.prog W = .ok (.string str) W) := fun W hW => by rw [estr]; exact conv_str (d3.below hW) l q0 el 9 Tryz.underlying9
  have HKN := l6known_any s hby N (w.alloc (.cells #[.int .i64 3, .int .i64 N, .slice p0 l q0] 39)) hN1 hN2
  rw [hkn, ← estr] at HKN
  have HBX : Hid (∀ W, Below (w.alloc (.cells #[.int .i64 3, .int .i64 N, .slice p0 l q0] 39)).heap.size (w.alloc (.cells #[.int .i64 3, .int .i64 N, .slice p0 l q0] 39)) W → Box3 W w.heap.size (.int .i64 3) (.int .i64 N) (.slice p0 l q0)) := fun W hW => (Box3.of_block (t := 39) (heap_alloc_new w _)).below hW (by rw [World.size_alloc]; omega)
  have cvV := HCV.out _ HV.out
  rw [hev]
  have HSL : Hid (∀ W, Below w.heap.size w W → Calls Tryz.prog 29 #[.slice p0 l q0, .int .i64 N] W (MadeT W (indT s N))) := fun W hW => l6slash_any s hsl N p0 l q0 W el (BIn.below d3 hW)
  have HTY : Hid (∀ W q m c2, m = ((indT s N).1 :: (indT s N).2.cells).length → CIn W q ((indT s N).1 :: (indT s N).2.cells) → Calls Tryz.prog 28 #[.string (strOfNums sEvb), .slice q m c2] W (MadeT W (typeT sEvb (indT s N)))) := fun W q m c2 hm hc => l6type_any sEvb (byte_of' (by decide)) (by decide) (indT s N) q m c2 W hm hc (by rw [hm]; exact ind_small hsl N)
  clear hcs hin hn hok hcb hby hev eN es el h3 hsl d3 hkn estr HCV hcap hcm
  go_enter Tryz.func13, Tryz.ntmps13
  go_wp2_with fail
  refine HKN.mono ?_
  rintro e w1 ⟨rfl, hb1⟩
  have HB1 : Hid (Below w.heap.size w w1) := Below.on HV.out hb1
  have HS1 := HSL.out w1 HB1.out
  obtain ⟨x0, x1, x2, _⟩ := HBX.out w1 hb1
  clear hb1 HKN HSL HBX HV cvV
  go_wp2_with fail
  refine HS1.mono ?_
  rintro e w2 ⟨q, m, c2, rfl, ho, hb2⟩
  have HT := HTY.out w2 q m c2 ho.1 ho.cin
  have HB2 : Hid (Below w.heap.size w w2) := Below.on HB1.out hb2
  clear ho hb2 HS1 HTY x0 x1 x2
  go_wp2_with fail
  refine HT.mono ?_
  rintro e w3 ⟨q2, m2, c22, rfl, ho, hb3⟩
  have HO : Hid (m2 = _ ∧ CIn w3 q2 _) := ⟨ho.1, ho.cin⟩
  have HB3 : Hid (Below w.heap.size w w3) := Below.on HB2.out hb3
  clear ho hb3 HT
  go_wp2_with fail
  go_ret2
  exact ⟨⟨q2, m2, c22, rfl, HO.out.1, HO.out.2⟩, HB3.out⟩
theorem row_at {w : World} {B m mc : Nat} {q : Option Addr} {rs : List (Option Addr × Nat × Nat)} {ts : List Tr} {w0 : World} (hr : w.ownsRow B 24 1 (.slice q m mc) m (rs.map slV)) (h0 : 0 < m) (hm : m = ts.length) (ha : ArgRow w0 rs ts) : ∃ g, q = some ⟨g, 0, none⟩ ∧ ∀ i t, ts[i]? = some t → ∃ pq nq cq, w.cell? ⟨g, i, none⟩ = some (.slice pq nq cq) ∧ nq = (t.1 :: t.2.cells).length ∧ nq ≤ cq ∧ cq ≤ 1000000000 ∧ CIn w0 pq (t.1 :: t.2.cells) := by
  obtain ⟨g, cap, hv, _, _⟩ := hr.form h0
  cases hv
  refine ⟨g, rfl, fun i t hi => ?_⟩
  have hlt : i < m := by rw [hm]; exact (List.getElem?_eq_some_iff.1 hi).1
  have hc := hr.cellAt i (by omega)
  have key : ∀ (rs : List (Option Addr × Nat × Nat)) (ts : List Tr) (i : Nat), ArgRow w0 rs ts → ts[i]? = some t → ∃ r, rs[i]? = some r ∧ r.2.1 = 1 + t.2.cells.length ∧ r.2.1 ≤ r.2.2 ∧ r.2.2 ≤ 1000000000 ∧ CIn w0 r.1 (t.1 :: t.2.cells) := by
    intro rs
    induction rs with
    | nil =>
      intro ts i ha hi
      cases ts with
      | nil => cases hi
      | cons t ts => exact ha.elim
    | cons r rs ih =>
      intro ts i ha hi
      cases ts with
      | nil => cases hi
      | cons t' ts =>
        cases i with
        | zero =>
          simp only [List.getElem?_cons_zero, Option.some.injEq] at hi
          subst hi
          exact ⟨r, rfl, ha.1, ha.2.1, ha.2.2.1, ha.2.2.2.1⟩
        | succ i => exact ih ts i ha.2.2.2.2 (by simpa using hi)
  obtain ⟨⟨pq, nq, cq⟩, h1, h2, h3, h4, h5⟩ := key rs ts i ha hi
  refine ⟨pq, nq, cq, ?_, by simp only [List.length_cons]; simp only at h2; omega, h3, h4, h5⟩
  rw [hc, List.getElem?_map, h1]; rfl
set_option maxRecDepth 100000 in
set_option maxHeartbeats 1000000 in
theorem value_known1 (c : Cel) (k : Fo) (p : Option Addr) (n cap : Nat) (w : World) (ih : ∀ m, m < k.cells.length → SpOk m) (h3 : c.1 = 3) (hok : (Fo.node c k .nil).ok) (hn : n = (c :: k.cells).length) (hnm : n ≤ 2000) (hcap : n ≤ cap) (hcm : cap ≤ 1000000000) (hin : CIn w p (c :: k.cells)) (hc1 : c.2.1 = 1) (hmem : c.2.2 ∈ ones) : Calls Tryz.prog 13 #[.slice p n cap] w (SV w (evT (c, k))) := by
  obtain ⟨b, o, rfl, hcs⟩ := hin (by simp)
  obtain ⟨p0, q0, d0, d1, d2, d3⟩ := hcs 0 (by simp)
  simp only [List.getD_cons_zero, Nat.zero_mul, Nat.add_zero] at d0 d1 d2 d3
  have hn0 : 0 < n := by rw [hn]; simp
  have hcb := hok.1
  simp only [cellB, decide_eq_true_eq] at hcb
  have hby := hok.2.1
  have hkn : knownB c.2.2 c.2.1 = true := by simp [knownB, hc1, hmem]
  have hct : k.count = 1 := by have := hok.2.2.1 h3; omega
  obtain ⟨c1, k1, rfl⟩ : ∃ c1 k1, k = .node c1 k1 .nil := by
    cases k with
    | nil => simp [Fo.count] at hct
    | node a b d => cases d with
      | nil => exact ⟨a, b, rfl⟩
      | node _ _ _ => simp [Fo.count] at hct
  have hev : evT (c, .node c1 k1 .nil) = match evT (c1, k1) with
      | .error t => .error t
      | .ok x => bndE (.ok (op1 c.2.2 x)) := by
    rw [evT_comp h3, if_neg (by rw [hkn]; decide)]
    show (match seqE [evT (c1, k1)] with
      | .error t => Except.error t
      | .ok xs => bndE (opV c.2.2 xs)) = _
    cases evT (c1, k1) <;> rfl
  have HOK1 : Hid (Fo.node c1 k1 .nil).ok := ⟨hok.2.2.2.2.1.1, hok.2.2.2.2.1.2.1, hok.2.2.2.2.1.2.2.1, hok.2.2.2.2.1.2.2.2.1, hok.2.2.2.2.1.2.2.2.2.1, trivial⟩
  have HAR : Hid (∀ W, Below w.heap.size w W → Calls Tryz.prog 30 #[.slice (some ⟨b, o, none⟩) n cap] W (ArgsOut W (.node c1 k1 .nil))) := fun W hW => l2args_any c _ _ n cap W h3 hok hn hnm hcap hcm (hin.below hW)
  have HL1 : Hid ((c1 :: k1.cells).length ≤ 2000 ∧ k1.cells.length < (Fo.cells (.node c1 k1 .nil)).length) := ⟨by simp [Fo.cells] at hn ⊢; omega, by simp [Fo.cells]⟩
  have HIH : Hid (∀ m, m < (Fo.cells (.node c1 k1 .nil)).length → SpOk m) := ih
  have hN1 : 1 ≤ c.2.1 := by omega
  have hN2 : c.2.1 ≤ 20 := by omega
  obtain ⟨N, eN⟩ : ∃ N, N = c.2.1 := ⟨_, rfl⟩
  obtain ⟨s, es⟩ : ∃ s, s = c.2.2 := ⟨_, rfl⟩
  obtain ⟨l, el⟩ : ∃ l, l = s.length := ⟨_, rfl⟩
  rw [← eN] at d1 hN1 hN2 hkn hc1
  rw [← es] at d2 d3 hby hcb hkn hev hmem
  have hsl : s.length ≤ 100 := by omega
  rw [← el] at d2
  rw [h3] at d0
  have HV : Hid (Below w.heap.size w (w.alloc (.cells #[.int .i64 3, .int .i64 N, .slice p0 l q0] 39))) := (Below.refl _ _).alloc (Nat.le_refl _) _
  obtain ⟨str, estr⟩ : ∃ str, str = strOfNums s := ⟨_, rfl⟩
  have HCV : Hid (∀ W, Below w.heap.size w W → (convert 32 9 (.slice p0 l q0)).run Tryz.prog W = .ok (.string str) W) := fun W hW => by rw [estr]; exact conv_str (d3.below hW) l q0 el 9 Tryz.underlying9
  have HKN := l6known_any s hby N (w.alloc (.cells #[.int .i64 3, .int .i64 N, .slice p0 l q0] 39)) hN1 hN2
  rw [hkn, ← estr] at HKN
  have HBX : Hid (∀ W, Below (w.alloc (.cells #[.int .i64 3, .int .i64 N, .slice p0 l q0] 39)).heap.size (w.alloc (.cells #[.int .i64 3, .int .i64 N, .slice p0 l q0] 39)) W → Box3 W w.heap.size (.int .i64 3) (.int .i64 N) (.slice p0 l q0)) := fun W hW => (Box3.of_block (t := 39) (heap_alloc_new w _)).below hW (by rw [World.size_alloc]; omega)
  have cvV := HCV.out _ HV.out
  subst hc1
  obtain ⟨R, eR⟩ : ∃ R, R = evT (c, .node c1 k1 .nil) := ⟨_, rfl⟩
  rw [← eR] at hev ⊢
  have HEV : Hid _ := hev
  have HMM : Hid (s ∈ ones) := hmem
  have HSTR : Hid (str = strOfNums s) := estr
  have HOV : Hid (∀ W, Calls Tryz.prog 33 #[.string (strOfNums sOvf)] W (MadeT W (evalT sOvf))) := fun W => l6evaluation_any sOvf (byte_of' (by decide)) (by decide) W
  clear hcs hin hn hok hcb hby hev eN es el eR h3 hsl d3 hkn estr hcap hcm ih hct hmem
  go_enter Tryz.func13, Tryz.ntmps13
  go_wp2_with fail
  refine HKN.mono ?_
  rintro e w1 ⟨rfl, hb1⟩
  have HB1 : Hid (Below w.heap.size w w1) := Below.on HV.out hb1
  have HBV : Hid (Below (w.alloc (.cells #[.int .i64 3, .int .i64 1, .slice p0 l q0] 39)).heap.size (w.alloc (.cells #[.int .i64 3, .int .i64 1, .slice p0 l q0] 39)) w1) := hb1
  have HA1 := HAR.out w1 HB1.out
  clear hb1 HKN HAR HV cvV d0 d1 d2
  go_wp2_with fail
  refine HA1.mono ?_
  rintro e w2 ⟨qa, ma, mc, rs, rfl, hma, hrow, hargs, hb2⟩
  have HB2 : Hid (Below w.heap.size w w2) := Below.on HB1.out hb2
  have HBV2 : Hid (Below (w.alloc (.cells #[.int .i64 3, .int .i64 1, .slice p0 l q0] 39)).heap.size (w.alloc (.cells #[.int .i64 3, .int .i64 1, .slice p0 l q0] 39)) w2) := Below.on HBV.out hb2
  obtain ⟨x0, x1, x2, _⟩ := HBX.out w2 HBV2.out
  have hma2 : ma = 1 := hma
  subst hma2
  obtain ⟨ga, rfl, hat⟩ := row_at hrow (by decide) rfl hargs
  obtain ⟨pq, nq, cq, a0, a1, a2, a3, a4⟩ := hat 0 (c1, k1) rfl
  have HR1 := HIH.out _ HL1.out.2 c1 k1 pq nq cq w2 (Nat.le_refl _) HOK1.out a1 (by rw [a1]; exact HL1.out.1) a2 a3 (a4.below hb2)
  have HIN1 : Hid (∀ x, evT (c1, k1) = .ok x → InB x) := fun x h => evT_in HOK1.out h
  clear hb2 HA1 hma hrow hargs hat a1 a2 a3 a4 HIH
  go_wp2_with fail
  refine HR1.mono ?_
  clear HR1
  cases hr1 : evT (c1, k1) with
  | error t =>
    rintro e w3 ⟨⟨qb, mb, cb, rfl, hmb, hcb⟩, hb3⟩
    have HO : Hid (mb = _ ∧ CIn w3 qb _) := ⟨hmb, hcb⟩
    have HB3 : Hid (Below w.heap.size w w3) := Below.on HB2.out hb3
    have hm0 : 0 < mb := by rw [hmb]; simp
    have HR : Hid (R = .error t) := by show _ = _; rw [HEV.out, hr1]
    clear hmb hcb hb3 x0 x1 x2 a0
    go_wp2_with fail
    go_ret2
    rw [HR.out]
    exact ⟨⟨qb, mb, cb, rfl, HO.out.1, HO.out.2⟩, HB3.out⟩
  | ok x =>
    rintro e w3 ⟨rfl, hb3⟩
    have HB3 : Hid (Below w.heap.size w w3) := Below.on HB2.out hb3
    have HBV3 : Hid (Below (w.alloc (.cells #[.int .i64 3, .int .i64 1, .slice p0 l q0] 39)).heap.size (w.alloc (.cells #[.int .i64 3, .int .i64 1, .slice p0 l q0] 39)) w3) := Below.on HBV2.out hb3
    have HX : Hid (InB x) := HIN1.out x hr1
    clear x0 x1 x2
    obtain ⟨x0, x1, x2, _⟩ := HBX.out w3 HBV3.out
    have HONE := one_any HMM.out x w3 HX.out
    have cv3 := HCV.out w3 HB3.out
    rw [← HSTR.out] at HONE
    obtain ⟨v, ev⟩ : ∃ v, v = op1 s x := ⟨_, rfl⟩
    rw [← ev] at HONE
    have HR : Hid (R = if InB v then .ok v else .error ovfT) := by show _ = _; rw [HEV.out, hr1, ev]; rfl
    have hvb : -2000000000000000 ≤ v ∧ v ≤ 2000000000000000 := by
      have := HX.out
      unfold InB at this
      rw [ev]; unfold op1; repeat' split
      all_goals omega
    obtain ⟨hvb1, hvb2⟩ := hvb
    clear hb3 a0 ev hr1
    go_wp2_with fail
    refine HONE.mono ?_
    rintro e w4 ⟨rfl, rfl⟩
    clear HONE cv3
    by_cases hi : InB v
    · have HR2 : Hid (R = .ok v) := by show _ = _; rw [HR.out, if_pos hi]
      have hi1 := hi.1
      have hi2 := hi.2
      clear hi
      go_wp2_with fail
      go_ret2
      rw [HR2.out]
      exact ⟨rfl, HB3.out⟩
    · have HR2 : Hid (R = .error ovfT) := by show _ = _; rw [HR.out, if_neg hi]
      have HE := HOV.out w4
      have hi1 : 1000000000000000 < v ∨ v < -1000000000000000 := by unfold InB at hi; omega
      clear hi
      rcases hi1 with hi1 | hi1
      all_goals
        go_wp2_with fail
        refine HE.mono ?_
        rintro e w5 ⟨qb, mb, cb, rfl, ho, hb5⟩
        have HO : Hid (mb = _ ∧ CIn w5 qb _) := ⟨ho.1, ho.cin⟩
        have HB5 : Hid (Below w.heap.size w w5) := Below.on HB3.out hb5
        clear ho hb5 HE x0 x1 x2
        go_wp2_with fail
        go_ret2
        rw [HR2.out]
        exact ⟨⟨qb, mb, cb, rfl, HO.out.1, HO.out.2⟩, HB5.out⟩
set_option maxRecDepth 100000 in
set_option maxHeartbeats 1000000 in
theorem value_known2 (c : Cel) (k : Fo) (p : Option Addr) (n cap : Nat) (w : World) (ih : ∀ m, m < k.cells.length → SpOk m) (h3 : c.1 = 3) (hok : (Fo.node c k .nil).ok) (hn : n = (c :: k.cells).length) (hnm : n ≤ 2000) (hcap : n ≤ cap) (hcm : cap ≤ 1000000000) (hin : CIn w p (c :: k.cells)) (hc1 : c.2.1 = 2) (hmem : c.2.2 ∈ twos) : Calls Tryz.prog 13 #[.slice p n cap] w (SV w (evT (c, k))) := by
  obtain ⟨b, o, rfl, hcs⟩ := hin (by simp)
  obtain ⟨p0, q0, d0, d1, d2, d3⟩ := hcs 0 (by simp)
  simp only [List.getD_cons_zero, Nat.zero_mul, Nat.add_zero] at d0 d1 d2 d3
  have hn0 : 0 < n := by rw [hn]; simp
  have hcb := hok.1
  simp only [cellB, decide_eq_true_eq] at hcb
  have hby := hok.2.1
  have hkn : knownB c.2.2 c.2.1 = true := by simp [knownB, hc1, hmem]
  have hct : k.count = 2 := by have := hok.2.2.1 h3; omega
  obtain ⟨c1, k1, c2, k2, rfl⟩ : ∃ c1 k1 c2 k2, k = .node c1 k1 (.node c2 k2 .nil) := by
    cases k with
    | nil => simp [Fo.count] at hct
    | node a b d => cases d with
      | nil => simp [Fo.count] at hct
      | node a' b' d' => cases d' with
        | nil => exact ⟨a, b, a', b', rfl⟩
        | node _ _ _ => simp [Fo.count] at hct
  have hev : evT (c, .node c1 k1 (.node c2 k2 .nil)) = match evT (c1, k1) with
      | .error t => .error t
      | .ok x => match evT (c2, k2) with
        | .error t => .error t
        | .ok y => bndE (op2 c.2.2 x y) := by
    rw [evT_comp h3, if_neg (by rw [hkn]; decide)]
    show (match seqE [evT (c1, k1), evT (c2, k2)] with
      | .error t => Except.error t
      | .ok xs => bndE (opV c.2.2 xs)) = _
    cases evT (c1, k1) <;> cases evT (c2, k2) <;> rfl
  have HOK1 : Hid (Fo.node c1 k1 .nil).ok := ⟨hok.2.2.2.2.1.1, hok.2.2.2.2.1.2.1, hok.2.2.2.2.1.2.2.1, hok.2.2.2.2.1.2.2.2.1, hok.2.2.2.2.1.2.2.2.2.1, trivial⟩
  have HOK2 : Hid (Fo.node c2 k2 .nil).ok := ⟨hok.2.2.2.2.1.2.2.2.2.2.1, hok.2.2.2.2.1.2.2.2.2.2.2.1, hok.2.2.2.2.1.2.2.2.2.2.2.2.1, hok.2.2.2.2.1.2.2.2.2.2.2.2.2.1, hok.2.2.2.2.1.2.2.2.2.2.2.2.2.2.1, trivial⟩
  have HAR : Hid (∀ W, Below w.heap.size w W → Calls Tryz.prog 30 #[.slice (some ⟨b, o, none⟩) n cap] W (ArgsOut W (.node c1 k1 (.node c2 k2 .nil)))) := fun W hW => l2args_any c _ _ n cap W h3 hok hn hnm hcap hcm (hin.below hW)
  have HL1 : Hid ((c1 :: k1.cells).length ≤ 2000 ∧ k1.cells.length < (Fo.cells (.node c1 k1 (.node c2 k2 .nil))).length) := ⟨by simp [Fo.cells] at hn ⊢; omega, by simp [Fo.cells]; omega⟩
  have HL2 : Hid ((c2 :: k2.cells).length ≤ 2000 ∧ k2.cells.length < (Fo.cells (.node c1 k1 (.node c2 k2 .nil))).length) := ⟨by simp [Fo.cells] at hn ⊢; omega, by simp [Fo.cells]; omega⟩
  have HIH : Hid (∀ m, m < (Fo.cells (.node c1 k1 (.node c2 k2 .nil))).length → SpOk m) := ih
  have hN1 : 1 ≤ c.2.1 := by omega
  have hN2 : c.2.1 ≤ 20 := by omega
  obtain ⟨N, eN⟩ : ∃ N, N = c.2.1 := ⟨_, rfl⟩
  obtain ⟨s, es⟩ : ∃ s, s = c.2.2 := ⟨_, rfl⟩
  obtain ⟨l, el⟩ : ∃ l, l = s.length := ⟨_, rfl⟩
  rw [← eN] at d1 hN1 hN2 hkn hc1
  rw [← es] at d2 d3 hby hcb hkn hev hmem
  have hsl : s.length ≤ 100 := by omega
  rw [← el] at d2
  rw [h3] at d0
  have HV : Hid (Below w.heap.size w (w.alloc (.cells #[.int .i64 3, .int .i64 N, .slice p0 l q0] 39))) := (Below.refl _ _).alloc (Nat.le_refl _) _
  obtain ⟨str, estr⟩ : ∃ str, str = strOfNums s := ⟨_, rfl⟩
  have HCV : Hid (∀ W, Below w.heap.size w W → (convert 32 9 (.slice p0 l q0)).run Tryz.prog W = .ok (.string str) W) := fun W hW => by rw [estr]; exact conv_str (d3.below hW) l q0 el 9 Tryz.underlying9
  have HKN := l6known_any s hby N (w.alloc (.cells #[.int .i64 3, .int .i64 N, .slice p0 l q0] 39)) hN1 hN2
  rw [hkn, ← estr] at HKN
  have HBX : Hid (∀ W, Below (w.alloc (.cells #[.int .i64 3, .int .i64 N, .slice p0 l q0] 39)).heap.size (w.alloc (.cells #[.int .i64 3, .int .i64 N, .slice p0 l q0] 39)) W → Box3 W w.heap.size (.int .i64 3) (.int .i64 N) (.slice p0 l q0)) := fun W hW => (Box3.of_block (t := 39) (heap_alloc_new w _)).below hW (by rw [World.size_alloc]; omega)
  have cvV := HCV.out _ HV.out
  subst hc1
  obtain ⟨R, eR⟩ : ∃ R, R = evT (c, .node c1 k1 (.node c2 k2 .nil)) := ⟨_, rfl⟩
  rw [← eR] at hev ⊢
  have HEV : Hid _ := hev
  have HMM : Hid (s ∈ twos) := hmem
  have HSTR : Hid (str = strOfNums s) := estr
  have HOV : Hid (∀ W, Calls Tryz.prog 33 #[.string (strOfNums sOvf)] W (MadeT W (evalT sOvf))) := fun W => l6evaluation_any sOvf (byte_of' (by decide)) (by decide) W
  clear hcs hin hn hok hcb hby hev eN es el eR h3 hsl d3 hkn estr hcap hcm ih hct hmem
  go_enter Tryz.func13, Tryz.ntmps13
  go_wp2_with fail
  refine HKN.mono ?_
  rintro e w1 ⟨rfl, hb1⟩
  have HB1 : Hid (Below w.heap.size w w1) := Below.on HV.out hb1
  have HBV : Hid (Below (w.alloc (.cells #[.int .i64 3, .int .i64 2, .slice p0 l q0] 39)).heap.size (w.alloc (.cells #[.int .i64 3, .int .i64 2, .slice p0 l q0] 39)) w1) := hb1
  have HA1 := HAR.out w1 HB1.out
  clear hb1 HKN HAR HV cvV d0 d1 d2
  go_wp2_with fail
  refine HA1.mono ?_
  rintro e w2 ⟨qa, ma, mc, rs, rfl, hma, hrow, hargs, hb2⟩
  have HB2 : Hid (Below w.heap.size w w2) := Below.on HB1.out hb2
  have HBV2 : Hid (Below (w.alloc (.cells #[.int .i64 3, .int .i64 2, .slice p0 l q0] 39)).heap.size (w.alloc (.cells #[.int .i64 3, .int .i64 2, .slice p0 l q0] 39)) w2) := Below.on HBV.out hb2
  obtain ⟨x0, x1, x2, _⟩ := HBX.out w2 HBV2.out
  have hma2 : ma = 2 := hma
  subst hma2
  obtain ⟨ga, rfl, hat⟩ := row_at hrow (by decide) rfl hargs
  obtain ⟨pq, nq, cq, a0, a1, a2, a3, a4⟩ := hat 0 (c1, k1) rfl
  obtain ⟨pr, nr, cr, e0, e1, e2, e3, e4⟩ := hat 1 (c2, k2) rfl
  have HR2 : Hid (∀ W, Below w2.heap.size w2 W → W.cell? ⟨ga, 1, none⟩ = some (.slice pr nr cr) ∧ Calls Tryz.prog 13 #[.slice pr nr cr] W (SV W (evT (c2, k2)))) := fun W hW => ⟨(hW.cell (World.block_lt_of_cell? _ _ e0)).trans e0, HIH.out _ HL2.out.2 c2 k2 pr nr cr W (Nat.le_refl _) HOK2.out e1 (by rw [e1]; exact HL2.out.1) e2 e3 ((e4.below hb2).below hW)⟩
  clear e0 e1 e2 e3 e4
  have HR1 := HIH.out _ HL1.out.2 c1 k1 pq nq cq w2 (Nat.le_refl _) HOK1.out a1 (by rw [a1]; exact HL1.out.1) a2 a3 (a4.below hb2)
  have HIN1 : Hid (∀ x, evT (c1, k1) = .ok x → InB x) := fun x h => evT_in HOK1.out h
  have HIN2 : Hid (∀ x, evT (c2, k2) = .ok x → InB x) := fun x h => evT_in HOK2.out h
  clear hb2 HA1 hma hrow hargs hat a1 a2 a3 a4 HIH
  go_wp2_with fail
  refine HR1.mono ?_
  clear HR1
  cases hr1 : evT (c1, k1) with
  | error t =>
    rintro e w3 ⟨⟨qb, mb, cb, rfl, hmb, hcb⟩, hb3⟩
    have HO : Hid (mb = _ ∧ CIn w3 qb _) := ⟨hmb, hcb⟩
    have HB3 : Hid (Below w.heap.size w w3) := Below.on HB2.out hb3
    have hm0 : 0 < mb := by rw [hmb]; simp
    have HR : Hid (R = .error t) := by show _ = _; rw [HEV.out, hr1]
    clear hmb hcb hb3 x0 x1 x2 a0
    go_wp2_with fail
    go_ret2
    rw [HR.out]
    exact ⟨⟨qb, mb, cb, rfl, HO.out.1, HO.out.2⟩, HB3.out⟩
  | ok x =>
    rintro e w3 ⟨rfl, hb3⟩
    have HB3 : Hid (Below w.heap.size w w3) := Below.on HB2.out hb3
    have HBV3 : Hid (Below (w.alloc (.cells #[.int .i64 3, .int .i64 2, .slice p0 l q0] 39)).heap.size (w.alloc (.cells #[.int .i64 3, .int .i64 2, .slice p0 l q0] 39)) w3) := Below.on HBV2.out hb3
    have HX : Hid (InB x) := HIN1.out x hr1
    clear x0 x1 x2
    obtain ⟨x0, x1, x2, _⟩ := HBX.out w3 HBV3.out
    obtain ⟨y0, HR3⟩ := HR2.out w3 hb3
    have HRX : Hid (R = match evT (c2, k2) with | .error t => .error t | .ok y => bndE (op2 s x y)) := by show _ = _; rw [HEV.out, hr1]
    clear hb3 a0 hr1 HR2
    go_wp2_with fail
    refine HR3.mono ?_
    clear HR3
    cases hr2 : evT (c2, k2) with
    | error t =>
      rintro e w4 ⟨⟨qb, mb, cb, rfl, hmb, hcb⟩, hb4⟩
      have HO : Hid (mb = _ ∧ CIn w4 qb _) := ⟨hmb, hcb⟩
      have HB4 : Hid (Below w.heap.size w w4) := Below.on HB3.out hb4
      have hm0 : 0 < mb := by rw [hmb]; simp
      have HR : Hid (R = .error t) := by show _ = _; rw [HRX.out, hr2]
      clear hmb hcb hb4 x0 x1 x2 y0
      go_wp2_with fail
      go_ret2
      rw [HR.out]
      exact ⟨⟨qb, mb, cb, rfl, HO.out.1, HO.out.2⟩, HB4.out⟩
    | ok y =>
      rintro e w4 ⟨rfl, hb4⟩
      have HB4 : Hid (Below w.heap.size w w4) := Below.on HB3.out hb4
      have HBV4 : Hid (Below (w.alloc (.cells #[.int .i64 3, .int .i64 2, .slice p0 l q0] 39)).heap.size (w.alloc (.cells #[.int .i64 3, .int .i64 2, .slice p0 l q0] 39)) w4) := Below.on HBV3.out hb4
      have HY : Hid (InB y) := HIN2.out y hr2
      have HTWO := two_any HMM.out x y w4 HX.out HY.out
      have cv4 := HCV.out w4 HB4.out
      rw [← HSTR.out] at HTWO
      have HRY : Hid (R = bndE (op2 s x y)) := by show _ = _; rw [HRX.out, hr2]
      clear x0 x1 x2 y0 hr2 hb4
      obtain ⟨x0, x1, x2, _⟩ := HBX.out w4 HBV4.out
      go_wp2_with fail
      refine HTWO.mono ?_
      clear HTWO cv4
      cases hop : op2 s x y with
      | error t =>
        rintro e w5 ⟨⟨qb, mb, cb, rfl, ho⟩, hb5⟩
        have HO : Hid (mb = _ ∧ CIn w5 qb _) := ⟨ho.1, ho.cin⟩
        have HB5 : Hid (Below w.heap.size w w5) := Below.on HB4.out hb5
        have hm0 : 0 < mb := by rw [ho.1]; simp
        have HR : Hid (R = .error t) := by show _ = _; rw [HRY.out, hop]; rfl
        clear ho hb5 x0 x1 x2 hop
        go_wp2_with fail
        go_ret2
        rw [HR.out]
        exact ⟨⟨qb, mb, cb, rfl, HO.out.1, HO.out.2⟩, HB5.out⟩
      | ok v =>
        rintro e w5 ⟨⟨u, rfl, hsat⟩, hb5⟩
        have HB5 : Hid (Below w.heap.size w w5) := Below.on HB4.out hb5
        have HR : Hid (R = if InB v then .ok v else .error ovfT) := by show _ = _; rw [HRY.out, hop]; rfl
        clear hb5 x0 x1 x2 hop
        rcases hsat with ⟨hi, rfl⟩ | ⟨hi, hj, hj1, hj2⟩
        · have HR2 : Hid (R = .ok u) := by show _ = _; rw [HR.out, if_pos hi]
          have hi1 := hi.1
          have hi2 := hi.2
          clear hi
          go_wp2_with fail
          go_ret2
          rw [HR2.out]
          exact ⟨rfl, HB5.out⟩
        · have HR2 : Hid (R = .error ovfT) := by show _ = _; rw [HR.out, if_neg hi]
          have HE := HOV.out w5
          have hi1 : 1000000000000000 < u ∨ u < -1000000000000000 := by unfold InB at hj; omega
          clear hi hj
          rcases hi1 with hi1 | hi1
          all_goals
            go_wp2_with fail
            refine HE.mono ?_
            rintro e w6 ⟨qb, mb, cb, rfl, ho, hb6⟩
            have HO : Hid (mb = _ ∧ CIn w6 qb _) := ⟨ho.1, ho.cin⟩
            have HB6 : Hid (Below w.heap.size w w6) := Below.on HB5.out hb6
            clear ho hb6 HE
            go_wp2_with fail
            go_ret2
            rw [HR2.out]
            exact ⟨⟨qb, mb, cb, rfl, HO.out.1, HO.out.2⟩, HB6.out⟩
theorem value_step (c : Cel) (k : Fo) (p : Option Addr) (n cap : Nat) (w : World) (ih : ∀ m, m < k.cells.length → SpOk m) (hok : (Fo.node c k .nil).ok) (hn : n = (c :: k.cells).length) (hnm : n ≤ 2000) (hcap : n ≤ cap) (hcm : cap ≤ 1000000000) (hin : CIn w p (c :: k.cells)) : Calls Tryz.prog 13 #[.slice p n cap] w (SV w (evT (c, k))) := by
  have hcb := hok.1
  simp only [cellB, decide_eq_true_eq] at hcb
  rcases (show c.1 = 1 ∨ c.1 = 0 ∨ c.1 = 2 ∨ c.1 = 3 by omega) with h | h | h | h
  · exact value_leaf c k p n cap w (.inl h) hn hnm hin
  · exact value_leaf c k p n cap w (.inr h) hn hnm hin
  · exact value_atom c k p n cap w h hok hn hnm hin
  · cases hk : knownB c.2.2 c.2.1 with
    | false => exact value_unknown c k p n cap w h hok hn hnm hcap hcm hin hk
    | true =>
      simp only [knownB, Bool.or_eq_true, Bool.and_eq_true, decide_eq_true_eq] at hk
      rcases hk with hk | hk
      · exact value_known1 c k p n cap w ih h hok hn hnm hcap hcm hin hk.1 hk.2
      · exact value_known2 c k p n cap w ih h hok hn hnm hcap hcm hin hk.1 hk.2
theorem value_all : ∀ M, SpOk M := fun M => by
  induction M using Nat.strongRecOn with
  | _ M ih =>
    intro c k p n cap w hM hok hn hnm hcap hcm hin
    exact value_step c k p n cap w (fun m hm => ih m (by omega)) hok hn hnm hcap hcm hin

end Go.Proofs.YtpcmfdbcjegbcaaGreatDoor

namespace Go.Proofs.YtpcmfdbcjegbcaaGreatDoor
open Go Go.RowKit
set_option linter.unusedVariables false
set_option linter.unusedSimpArgs false

def SEOut (w : World) (r : List Cel × Int) (e : Ending) (w' : World) : Prop := ∃ q m c2, e = .returned (.tuple #[.slice q m c2, .int .i64 r.2]) ∧ m = r.1.length ∧ CIn w' q r.1 ∧ Below w.heap.size w w'
set_option maxRecDepth 100000 in
theorem specEval_good (c : Cel) (k : Fo) (p : Option Addr) (n cap : Nat) (w : World) (hok : (Fo.node c k .nil).ok) (hn : n = (c :: k.cells).length) (hnm : n ≤ 2000) (hcap : n ≤ cap) (hcm : cap ≤ 1000000000) (hv : validB (c :: k.cells) = true) (hin : CIn w p (c :: k.cells)) : Calls Tryz.prog 5 #[.slice p n cap] w (SEOut w (evZ (evT (c, k)))) := by
  have HVA := specValid_any p cap (c :: k.cells) w (by omega) hin
  rw [hv, ← hn] at HVA
  have HVV : Hid (∀ W, Below w.heap.size w W → Calls Tryz.prog 13 #[.slice p n cap] W (SV W (evT (c, k)))) := fun W hW => value_all _ c k p n cap W (Nat.le_refl _) hok hn hnm hcap hcm (hin.below hW)
  obtain ⟨R, eR⟩ : ∃ R, R = evT (c, k) := ⟨_, rfl⟩
  rw [← eR] at HVV ⊢
  clear hok hn hv hin eR
  go_enter Tryz.func5, Tryz.ntmps5
  go_wp2_with fail
  refine HVA.mono ?_
  rintro e w1 ⟨rfl, hb1⟩
  have HB1 : Hid (Below w.heap.size w w1) := hb1
  have HV1 := HVV.out w1 hb1
  clear hb1 HVA HVV
  go_wp2_with fail
  refine HV1.mono ?_
  clear HV1
  cases R with
  | ok v =>
    rintro e w2 ⟨rfl, hb2⟩
    have HB2 : Hid (Below w.heap.size w w2) := Below.on HB1.out hb2
    have HN := l2num_any v w2
    clear hb2
    go_wp2_with fail
    refine HN.mono ?_
    rintro e w3 ⟨q, rfl, hc, hb3⟩
    have HC : Hid _ := hc
    have HB3 : Hid (Below w.heap.size w w3) := Below.on HB2.out hb3
    clear hc hb3 HN
    go_wp2_with fail
    go_ret2
    exact ⟨q, 1, 1, rfl, rfl, HC.out, HB3.out⟩
  | error t =>
    rintro e w2 ⟨⟨qb, mb, cb, rfl, hmb, hcb⟩, hb2⟩
    have HO : Hid (mb = _ ∧ CIn w2 qb _) := ⟨hmb, hcb⟩
    have HB2 : Hid (Below w.heap.size w w2) := Below.on HB1.out hb2
    have hm0 : 0 < mb := by rw [hmb]; simp
    clear hmb hcb hb2
    go_wp2_with fail
    go_ret2
    exact ⟨qb, mb, cb, rfl, HO.out.1, HO.out.2, HB2.out⟩
theorem specEval_bad (p : Option Addr) (cap : Nat) (cs : List Cel) (w : World) (hl : cs.length ≤ 1000000000) (hv : validB cs = false) (hin : CIn w p cs) : Calls Tryz.prog 5 #[.slice p cs.length cap] w (SEOut w ([], 1)) := by
  have HVA := specValid_any p cap cs w hl hin
  rw [hv] at HVA
  clear hin
  go_enter Tryz.func5, Tryz.ntmps5
  go_wp2_with fail
  refine HVA.mono ?_
  rintro e w1 ⟨rfl, hb1⟩
  have HB1 : Hid (Below w.heap.size w w1) := hb1
  clear hb1 HVA
  go_wp2_with fail
  go_ret2
  exact ⟨none, 0, 0, rfl, rfl, fun h => by simp at h, HB1.out⟩
theorem fo_text : ∀ (F : Fo), F.ok → ∀ c ∈ F.cells, c.2.2.length ≤ 100
  | .nil, _, c, hc => by cases hc
  | .node a k r, h, c, hc => by
    simp only [Fo.cells, List.mem_cons, List.mem_append] at hc
    rcases hc with rfl | hc | hc
    · have := h.1
      simp only [cellB, decide_eq_true_eq] at this
      omega
    · exact fo_text k h.2.2.2.2.1 c hc
    · exact fo_text r h.2.2.2.2.2 c hc
theorem tl_le6 : ∀ cs : List Cel, (∀ c ∈ cs, c.2.2.length ≤ 100) → tl cs ≤ 100 * cs.length
  | [], _ => by simp [tl]
  | a :: r, h => by
    have h1 := tl_le6 r (fun c hc => h c (by simp [hc]))
    have h2 := h a (by simp)
    simp only [tl, List.length_cons]
    omega
theorem evZ_size {c : Cel} {k : Fo} (hok : (Fo.node c k .nil).ok) : (evZ (evT (c, k))).1.length + tl (evZ (evT (c, k))).1 ≤ 300000 := by
  cases h : evT (c, k) with
  | ok v => simp [evZ, tl]
  | error t =>
    have he := errOk_evT hok h
    have h1 := tl_le6 (t.1 :: t.2.cells) (fun d hd => fo_text _ he.1 d (by simpa [Fo.cells] using hd))
    have h2 := he.2
    simp only [evZ, List.length_cons] at h1 ⊢
    omega
/-- What both answer. -/
theorem eval_both (cs : List Cel) (hby : ∀ i, i < cs.length → Byte (cs.getD i Cel.none).2.2) (hl : cs.length ≤ 1048576) : ∃ R : List Cel × Int, R.1.length + tl R.1 ≤ 300000 ∧
    (∀ (p : Option Addr) (w : World), CIn w p cs → Calls Tryz.prog 5 #[.slice p cs.length cs.length] w (SEOut w R)) ∧
    (∀ (p : Option Addr) (w : World), CIn w p cs → w.cell? ⟨0, 0, none⟩ = some (.iface 115 (.agg #[.pointer (some ⟨1, 43, none⟩)])) → Calls Tryz.prog 7 #[.slice p cs.length cs.length] w (EvalOut w R)) := by
  cases hv : validB cs with
  | false => exact ⟨([], 1), by simp [tl], fun p w h => specEval_bad p cs.length cs w (by omega) hv h, fun p w h _ => implEval_bad p cs.length cs w (by omega) hv h⟩
  | true =>
    obtain ⟨c, k, rfl, hok, hlen⟩ := tree_of hby hv
    exact ⟨evZ (evT (c, k)), evZ_size hok, fun p w h => specEval_good c k p _ _ w hok rfl hlen (Nat.le_refl _) (by omega) hv h, fun p w h hg => implEval_any c k p _ _ w hok (by simp) hlen (Nat.le_refl _) (by omega) hv h hg⟩

end Go.Proofs.YtpcmfdbcjegbcaaGreatDoor

namespace Go.Proofs.YtpcmfdbcjegbcaaGreatDoor
open Go Go.RowKit
set_option linter.unusedVariables false

theorem endC_pos6 {k : Int} (h : 0 ≤ k) (cs : List Cel) : ¬ endC k cs < 0 := by rw [endC_eq]; omega

set_option maxRecDepth 100000 in
set_option maxHeartbeats 1000000 in
theorem lawEval_any (q : Option Addr) (cap' : Nat) (cs : List Cel) (w : World) (hin' : CArg w q cs) (hE : w.cell? ⟨0, 0, none⟩ = some (.iface 115 (.agg #[.pointer (some ⟨1, 43, none⟩)]))) :
    Calls Tryz.prog 3 #[.slice q cs.length cap'] w fun e w' => e = .returned (.bool true) ∧ Below w.heap.size w w' := by
  have HJ : Hid (CArg w q cs) := hin'
  have HS := szCellS_any q cap' cs 1048576 w (Nat.le_refl _) hin'.len hin'.text hin'.lies
  have hlen2 := hin'.len
  have HBY : Hid (∀ i, i < cs.length → Byte (cs.getD i Cel.none).2.2) := hin'.byte
  have HE : Hid (∀ W, Below w.heap.size w W → W.cell? ⟨0, 0, none⟩ = some (.iface 115 (.agg #[.pointer (some ⟨1, 43, none⟩)]))) := fun W hW => (hW.cell (p := ⟨0, 0, none⟩) (World.block_lt_of_cell? _ _ hE)).trans hE
  clear hin' hE
  by_cases hm : cs.length + tl cs ≤ 1048576
  · obtain ⟨r, er⟩ : ∃ r : Nat, szR 1048576 (cs.length + tl cs) = r := ⟨1048576 - (cs.length + tl cs), by rw [szR, if_pos hm]; omega⟩
    rw [er] at HS
    clear er
    obtain ⟨⟨zs, code⟩, hz, hsp, him⟩ := eval_both cs HBY.out (by omega)
    have HZL : Hid (zs.length + tl zs ≤ 300000) := hz
    have HSP : Hid (∀ (q : Option Addr) (w : World), CIn w q cs → Calls Tryz.prog 5 #[.slice q cs.length cs.length] w fun e w' => ∃ q m c2, e = .returned (.tuple #[.slice q m c2, .int .i64 code]) ∧ m = zs.length ∧ CIn w' q zs ∧ Below w.heap.size w w') := hsp
    have HIM : Hid (∀ (q : Option Addr) (W : World), Below w.heap.size w W → CIn W q cs → Calls Tryz.prog 7 #[.slice q cs.length cs.length] W fun e w' => ∃ q m c2, e = .returned (.tuple #[.slice q m c2, .int .i64 code]) ∧ OwnC w' W.heap.size q m c2 zs ∧ Below W.heap.size W w') := fun q W hW h => him q W h (HE.out W hW)
    clear hz hsp him HBY hlen2 HE
    go_enter Tryz.func3, Tryz.ntmps3
    go_wp2_with fail
    refine (HS).mono ?_
    rintro e w0 ⟨rfl, hb⟩
    have HA0 : Hid (Below w.heap.size w w0) := hb
    clear hb HS
    go_wp2_with fail
    refine (toCellS_any q cap' cs w0 hm (HJ.out.below HA0.out).lies).mono ?_
    rintro e w1 ⟨rfl, ho, hb⟩
    have HA1 : Hid (Below w.heap.size w w1) := Below.on HA0.out hb
    have HQ1 : Hid (CIn w1 (some ⟨w0.heap.size, 0, none⟩) cs) := ho.cin
    clear ho hb
    go_wp2_with fail
    refine (HSP.out _ w1 HQ1.out).mono ?_
    rintro e w2 ⟨p2, n2, c2, rfl, hn2, hc2, hb⟩
    have HA2 : Hid (Below w.heap.size w w2) := Below.on HA1.out hb
    have HB2 : Hid (Below w2.heap.size w2 w2) := Below.refl _ _
    have HZ2 : Hid (CIn w2 p2 zs ∧ n2 = zs.length) := ⟨hc2, hn2⟩
    clear hn2 hc2 hb HQ1
    go_wp2_with fail
    refine (toCellS_any q cap' cs w2 hm (HJ.out.below HA2.out).lies).mono ?_
    rintro e w3 ⟨rfl, ho, hb⟩
    have HA3 : Hid (Below w.heap.size w w3) := Below.on HA2.out hb
    have HB3 : Hid (Below w2.heap.size w2 w3) := Below.on HB2.out hb
    have HY3 : Hid (OwnCU w3 w2.heap.size w3.heap.size (some ⟨w2.heap.size, 0, none⟩) cs.length cs.length cs) := ho.up
    have HR3 : Hid (w3.heap.size ≤ w3.heap.size) := Nat.le_refl _
    clear ho hb
    go_wp2_with fail
    refine (HIM.out _ w3 HA3.out HY3.out.toC.cin).mono ?_
    rintro e w4 ⟨p4, n4, c4, rfl, ho, hb⟩
    have HA4 : Hid (Below w.heap.size w w4) := Below.on HA3.out hb
    have HB4 : Hid (Below w2.heap.size w2 w4) := Below.on HB3.out hb
    have HY4 : Hid (OwnCU w4 w2.heap.size w3.heap.size (some ⟨w2.heap.size, 0, none⟩) cs.length cs.length cs) := HY3.out.below hb
    have HR4 : Hid (w3.heap.size ≤ w4.heap.size) := Nat.le_trans HR3.out hb.size
    have HG4 : Hid (OwnCU w4 w3.heap.size w4.heap.size p4 n4 c4 zs) := ho.up
    have HN4 : Hid (n4 = zs.length) := ho.1
    clear ho hb
    go_wp2_with fail
    rw [HN4.out, HZ2.out.2]
    refine (eqCellS_any p4 p2 c4 c2 zs zs w4 (by have := HZL.out; omega) (by have := HZL.out; omega) HG4.out.toC.cin (HZ2.out.1.below HB4.out)).mono ?_
    rintro e w5 ⟨rfl, hb⟩
    have HA5 : Hid (Below w.heap.size w w5) := Below.on HA4.out hb
    have HB5 : Hid (Below w2.heap.size w2 w5) := Below.on HB4.out hb
    have HY5 : Hid (OwnCU w5 w2.heap.size w3.heap.size (some ⟨w2.heap.size, 0, none⟩) cs.length cs.length cs) := HY4.out.below hb
    have HR5 : Hid (w3.heap.size ≤ w5.heap.size) := Nat.le_trans HR4.out hb.size
    have HG5 : Hid (OwnCU w5 w3.heap.size w4.heap.size p4 n4 c4 zs) := HG4.out.below hb
    have ht : decide (zs = zs) = true := by simp
    rw [ht, ← HN4.out]
    clear ht hb
    go_wp2_with fail
    refine (toCellS_any q cap' cs w5 hm (HJ.out.below HA5.out).lies).mono ?_
    rintro e w6 ⟨rfl, ho, hb⟩
    have HA6 : Hid (Below w.heap.size w w6) := Below.on HA5.out hb
    have HB6 : Hid (Below w2.heap.size w2 w6) := Below.on HB5.out hb
    have HY6 : Hid (OwnCU w6 w2.heap.size w3.heap.size (some ⟨w2.heap.size, 0, none⟩) cs.length cs.length cs) := HY5.out.below hb
    have HR6 : Hid (w3.heap.size ≤ w6.heap.size) := Nat.le_trans HR5.out hb.size
    have HG6 : Hid (OwnCU w6 w3.heap.size w4.heap.size p4 n4 c4 zs) := HG5.out.below hb
    have HQ6 : Hid (CIn w6 (some ⟨w5.heap.size, 0, none⟩) cs) := ho.cin
    clear ho hb
    go_wp2_with fail
    refine (eqCellS_any _ _ _ _ cs cs w6 (by omega) (by omega) HY6.out.toC.cin HQ6.out).mono ?_
    rintro e w7 ⟨rfl, hb⟩
    have HA7 : Hid (Below w.heap.size w w7) := Below.on HA6.out hb
    have HB7 : Hid (Below w2.heap.size w2 w7) := Below.on HB6.out hb
    have HY7 : Hid (OwnCU w7 w2.heap.size w3.heap.size (some ⟨w2.heap.size, 0, none⟩) cs.length cs.length cs) := HY6.out.below hb
    have HR7 : Hid (w3.heap.size ≤ w7.heap.size) := Nat.le_trans HR6.out hb.size
    have HG7 : Hid (OwnCU w7 w3.heap.size w4.heap.size p4 n4 c4 zs) := HG6.out.below hb
    have ht : decide (cs = cs) = true := by simp
    rw [ht]
    clear ht hb HQ6
    go_wp2_with fail
    refine (markCells_any w2.heap.size w3.heap.size _ _ _ 1 cs w7 (by decide) (by decide) (by omega) HY7.out).mono ?_
    rintro e w8 ⟨rfl, ho, hk⟩
    have HA8 : Hid (Below w.heap.size w w8) := HA7.out.trans (hk.below HA2.out.size HA7.out.size)
    have HB8 : Hid (Below w2.heap.size w2 w8) := HB7.out.trans (hk.below (Nat.le_refl _) HB7.out.size)
    have HR8 : Hid (w3.heap.size ≤ w8.heap.size) := Nat.le_trans HR7.out hk.size
    have HG8 : Hid (OwnCU w8 w3.heap.size w4.heap.size p4 n4 c4 zs) := HG7.out.keep hk (.inr (Nat.le_refl _))
    obtain ⟨k2, ek2⟩ : ∃ k, k = endC 1 cs := ⟨_, rfl⟩
    have hk2 : ¬ k2 < 0 := by rw [ek2]; exact endC_pos6 (by decide) cs
    rw [← ek2]
    clear ek2 ho hk HY7
    go_wp2_with fail
    rw [HN4.out]
    refine (eqCellS_any p4 p2 c4 c2 zs zs w8 (by have := HZL.out; omega) (by have := HZL.out; omega) HG8.out.toC.cin (HZ2.out.1.below HB8.out)).mono ?_
    rintro e w9 ⟨rfl, hb⟩
    have HA9 : Hid (Below w.heap.size w w9) := Below.on HA8.out hb
    have HB9 : Hid (Below w2.heap.size w2 w9) := Below.on HB8.out hb
    have HR9 : Hid (w3.heap.size ≤ w9.heap.size) := Nat.le_trans HR8.out hb.size
    have HG9 : Hid (OwnCU w9 w3.heap.size w4.heap.size p4 n4 c4 zs) := HG8.out.below hb
    have ht : decide (zs = zs) = true := by simp
    rw [ht, ← HN4.out]
    clear ht hb
    go_wp2_with fail
    refine (markCells_any w3.heap.size w4.heap.size p4 n4 c4 1 zs w9 (by decide) (by decide) (by have := HZL.out; omega) HG9.out).mono ?_
    rintro e w10 ⟨rfl, ho, hk⟩
    have HA10 : Hid (Below w.heap.size w w10) := HA9.out.trans (hk.below HA3.out.size HA9.out.size)
    have HB10 : Hid (Below w2.heap.size w2 w10) := HB9.out.trans (hk.below HB3.out.size HB9.out.size)
    have HR10 : Hid (w3.heap.size ≤ w10.heap.size) := Nat.le_trans HR9.out hk.size
    have HH10 : Hid (CIn w10 p4 (markC 1 zs)) := ho.toC.cin
    obtain ⟨mm, emm⟩ : ∃ mm, mm = endC 1 zs := ⟨_, rfl⟩
    have hmm : ¬ mm < 0 := by rw [emm]; exact endC_pos6 (by decide) zs
    have HMM : Hid (mm = endC 1 zs) := emm
    rw [← emm]
    clear emm ho hk HG9
    go_wp2_with fail
    refine (heldCells_any p4 n4 c4 1 zs w10 (by decide) (by decide) (by have := HZL.out; omega) HN4.out HH10.out).mono ?_
    rintro e wh ⟨rfl, hwh⟩
    rw [hwh, ← HMM.out]
    clear hwh
    go_wp2_with fail
    refine (toCellS_any q cap' cs w10 hm (HJ.out.below HA10.out).lies).mono ?_
    rintro e w11 ⟨rfl, ho, hb⟩
    have HA11 : Hid (Below w.heap.size w w11) := Below.on HA10.out hb
    have HB11 : Hid (Below w2.heap.size w2 w11) := Below.on HB10.out hb
    have HR11 : Hid (w3.heap.size ≤ w11.heap.size) := Nat.le_trans HR10.out hb.size
    have HH11 : Hid (CIn w11 p4 (markC 1 zs)) := HH10.out.below hb
    have HQ11 : Hid (CIn w11 (some ⟨w10.heap.size, 0, none⟩) cs) := ho.cin
    clear ho hb
    go_wp2_with fail
    refine (HIM.out _ w11 HA11.out HQ11.out).mono ?_
    rintro e w12 ⟨p12, n12, c12, rfl, ho, hb⟩
    have HA12 : Hid (Below w.heap.size w w12) := Below.on HA11.out hb
    have HB12 : Hid (Below w2.heap.size w2 w12) := Below.on HB11.out hb
    have HR12 : Hid (w3.heap.size ≤ w12.heap.size) := Nat.le_trans HR11.out hb.size
    have HH12 : Hid (CIn w12 p4 (markC 1 zs)) := HH11.out.below hb
    have HG12 : Hid (CIn w12 p12 zs ∧ n12 = zs.length) := ⟨ho.cin, ho.1⟩
    clear ho hb HQ11
    go_wp2_with fail
    rw [HG12.out.2, HN4.out]
    refine (eqCellS_any p12 p2 c12 c2 zs zs w12 (by have := HZL.out; omega) (by have := HZL.out; omega) HG12.out.1 (HZ2.out.1.below HB12.out)).mono ?_
    rintro e w13 ⟨rfl, hb⟩
    have HA13 : Hid (Below w.heap.size w w13) := Below.on HA12.out hb
    have HB13 : Hid (Below w2.heap.size w2 w13) := Below.on HB12.out hb
    have HR13 : Hid (w3.heap.size ≤ w13.heap.size) := Nat.le_trans HR12.out hb.size
    have HH13 : Hid (CIn w13 p4 (markC 1 zs)) := HH12.out.below hb
    have ht : decide (zs = zs) = true := by simp
    rw [ht]
    clear ht hb
    go_wp2_with fail
    refine (heldCells_any p4 zs.length c4 1 zs w13 (by decide) (by decide) (by have := HZL.out; omega) rfl HH13.out).mono ?_
    rintro e wh ⟨rfl, hwh⟩
    rw [hwh, ← HMM.out]
    clear hwh
    go_wp2_with fail
    go_ret
    exact ⟨rfl, HA13.out⟩
  · have er : szR 1048576 (cs.length + tl cs) = -1 := by rw [szR, if_neg hm]
    rw [er] at HS
    clear er HBY HE
    go_enter Tryz.func3, Tryz.ntmps3
    go_wp2_with fail
    refine HS.mono ?_
    rintro e w0 ⟨rfl, hb0⟩
    go_wp2_with fail
    go_ret
    exact ⟨rfl, hb0⟩

end Go.Proofs.YtpcmfdbcjegbcaaGreatDoor

