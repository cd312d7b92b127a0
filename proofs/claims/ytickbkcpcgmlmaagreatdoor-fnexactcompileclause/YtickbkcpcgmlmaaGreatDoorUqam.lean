/- Texts of NextG, ArgU, ArgG, CellG, MaxV, Cmp0, VtP, Cp1, Ren3, SmA. Own work of the verifier. -/
import Derived.Test.YtickbkcpcgmlmaaGreatDoorUqai
import Derived.Test.YtickbkcpcgmlmaaGreatDoorUqak
namespace Go.Proofs.YtickbkcpcgmlmaaGreatDoor
set_option linter.unusedVariables false
set_option maxRecDepth 100000
section
open Go Go.RowKit
theorem CIn.part {w : World} {b o : Nat} {cs ds : List Cel} (h : ∀ i, i < cs.length → CAt w b (o + i * 3) (cs.getD i Cel.none)) (j : Nat) (hd : ds <+: cs.drop j) : CIn w (some ⟨b, o + j * 3, none⟩) ds := fun _ => by
 refine ⟨b, o + j * 3, rfl, fun i hi => ?_⟩; obtain ⟨r, hr⟩ := hd
 have hl : j + i < cs.length := by
  have := congrArg List.length hr
  simp at this; omega
 have e : cs.getD (j + i) Cel.none = ds.getD i Cel.none := by
  have h1 : (cs.drop j)[i]? = ds[i]? := by rw [← hr, List.getElem?_append_left hi]
  rw [List.getElem?_drop] at h1; simp only [List.getD, h1]
 have := h (j + i) hl; rw [e, show o + (j + i) * 3 = o + j * 3 + i * 3 by omega] at this; exact this
theorem drop_cell {cs : List Cel} {j : Nat} {c : Cel} {r : List Cel} (h : cs.drop j = c :: r) : j < cs.length ∧ cs.getD j Cel.none = c ∧ cs.drop (j + 1) = r := by
 have hl : j < cs.length := by
  rcases Nat.lt_or_ge j cs.length with h' | h'
  ·exact h'
  ·rw [List.drop_eq_nil_of_le h'] at h; cases h
 rw [List.drop_eq_getElem_cons hl] at h
 injection h with h1 h2
 exact ⟨hl, by simp [List.getD, hl, h1], h2⟩
theorem l2next_any (p : Option Addr) (n cap : Nat) (cs : List Cel) (at_ : Nat) (c : Cel) (k : Fo) (tail : List Cel) (w : World) (hn : n = cs.length) (hm : n ≤ 1000000) (hd : cs.drop at_ = c :: (k.cells ++ tail)) (hok : (Fo.node c k .nil).ok) (hin : CIn w p cs) :
  Calls Tryz.prog 119 #[.slice p n cap, .int .i64 at_] w fun e w' => e = .returned (.int .i64 ((at_ + 1 + k.cells.length : Nat) : Int)) ∧ w' = w := by
 obtain ⟨E, eE⟩ : ∃ E, E = at_ + 1 + k.cells.length := ⟨_, rfl⟩
 have HE : Hid (E = at_ + 1 + k.cells.length) := eE
 have hEn : E ≤ n := by
  have := congrArg List.length hd
  simp at this; omega
 have HD : Hid (cs.drop at_ = (Fo.node c k .nil).cells ++ tail ∧ n = cs.length) := ⟨by simp [Fo.cells, hd], hn⟩
 have HOK : Hid (Fo.node c k .nil).ok := hok; have HIN : Hid (CIn w p cs) := hin
 have hA : at_ ≤ E := by omega
 rw [← eE]; clear hn hd hok hin eE
 go_enter Tryz.func119, Tryz.ntmps119
 go_wp2
 go_loop [1, 5] (fun a l => ∃ (j : Nat) (q : Nat), j ≤ E ∧ a = .int .i64 j ∧ l = .int .i64 q ∧ q ≤ 1000000 ∧ Hid (∃ F : Fo, F.ok ∧ F.count = q ∧ cs.drop j = F.cells ++ tail ∧ j + F.cells.length = E)) (fun a _ => E - (intOf a).toNat)
 case atStart => exact ⟨at_, 1, hA, rfl, rfl, by decide, .node c k .nil, HOK.out, rfl, HD.out.1, by rw [HE.out]; simp [Fo.cells]; omega⟩
 case round =>
  obtain ⟨j, q, hj, rfl, rfl, hq, HF⟩ := hrel
  by_cases h0 : 0 < q
  ·obtain ⟨F, hFok, hFc, hFd, hFl⟩ := HF.out
   cases F with
   | nil => simp [Fo.count] at hFc; omega
   | node c1 k1 r1 =>
     simp only [Fo.cells, List.cons_append, List.append_assoc] at hFd; obtain ⟨hjl, hg, hd1⟩ := drop_cell hFd
     have hjn : j < n := by rw [HD.out.2]; exact hjl
     obtain ⟨b, o, rfl, hcs⟩ := HIN.out (by omega); obtain ⟨p0, q0, d0, d1, _, _⟩ := hcs j hjl; rw [hg] at d0 d1
     have hjE : j + 1 ≤ E := by rw [← hFl]; simp only [Fo.cells, List.length_cons, List.length_append]; omega
     have hcB := hFok.1
     by_cases h3 : c1.1 = 3
     ·have hc1 := hFok.2.2.1 h3
      rw [h3] at hcB; have hb20 := cellB_comp hcB
      have HN : Hid (∃ F : Fo, F.ok ∧ F.count = q + k1.count - 1 ∧ cs.drop (j + 1) = F.cells ++ tail ∧ j + 1 + F.cells.length = E) := by
       refine ⟨k1.cat r1, (Fo.ok_cat _ _).2 ⟨hFok.2.2.2.2.1, hFok.2.2.2.2.2⟩, ?_, ?_, ?_⟩
       ·rw [Fo.count_cat]; simp [Fo.count] at hFc; omega
       ·rw [Fo.cells_cat, hd1, List.append_assoc]
       ·rw [Fo.cells_cat, ← hFl]; simp [Fo.cells]; omega
      rw [h3] at d0; rw [hc1] at d1
      have hk20 : k1.count ≤ 20 := by omega
      have hq2 : q + k1.count - 1 ≤ 1000000 := by
       obtain ⟨F, _, hc, _, hl⟩ := HN.out; have := Fo.count_le F
       omega
      obtain ⟨m, em⟩ : ∃ m, m = k1.count := ⟨_, rfl⟩
      rw [← em] at d1 hk20 HN hq2
      have hm1 : 1 ≤ m := by omega
      clear hFok hFc hFd hFl hcs hcB h3 hc1 hb20 hd1 hg em HF
      go_wp2
      go_round
      case rel => exact ⟨j + 1, q + m - 1, hjE, by go_num, by go_num, hq2, HN⟩
      case measure => simp [intOf]; omega
     ·have hk1 : k1 = .nil := hFok.2.2.2.1 h3
      have h3' : (c1.1 == 3) = false := by simpa using h3
      have HN : Hid (∃ F : Fo, F.ok ∧ F.count = q - 1 ∧ cs.drop (j + 1) = F.cells ++ tail ∧ j + 1 + F.cells.length = E) := by
       refine ⟨r1, hFok.2.2.2.2.2, ?_, ?_, ?_⟩
       ·simp [Fo.count] at hFc; omega
       ·rw [hd1, hk1]; rfl
       ·rw [← hFl, hk1]; simp [Fo.cells]; omega
      obtain ⟨kd, ekd⟩ : ∃ kd, kd = c1.1 := ⟨_, rfl⟩
      rw [← ekd] at d0 h3'; clear hFok hFc hFd hFl hcs hcB h3 hd1 hg HF hk1 ekd
      go_wp2
      go_round
      case rel => exact ⟨j + 1, q - 1, hjE, by go_num, by go_num, by omega, HN⟩
      case measure => simp [intOf]; omega
  ·obtain rfl : q = 0 := by omega
   have HJ : Hid (j = E) := by
    obtain ⟨F, _, hc, _, hl⟩ := HF.out
    cases F with
    | nil => simpa [Fo.cells, Hid] using hl
    | node a b d => simp [Fo.count] at hc
   clear HF
   go_wp2
   go_ret; exact ⟨ret_int (by rw [HJ.out]), rfl⟩
def slV (r : Option Addr × Nat × Nat) : Value := .slice r.1 r.2.1 r.2.2
theorem app_sl (w : World) {ops : Array Oper} {rest : List Oper} {o : Oper} {a : Act} {Q : Exit → Act → World → Prop} (hgd : o.guard = none) (s x : Operand)
  (ho : o.op = .call { callee := .builtin .append, args := #[s, x], argTypes := #[38, 38] }) (B : Nat) (p : Option Addr) (n c : Nat) (rs : List (Option Addr × Nat × Nat)) (q : Option Addr) (m c' : Nat)
  (hs : a.eval s = .slice p n c) (hown : w.ownsRow B 27 1 (.slice p n c) n (rs.map slV)) (hx : a.eval x = .slice (some ⟨w.heap.size, 0, none⟩) 1 1)
  (hlen : n + 1 ≤ 1000000) (hbase : B ≤ w.heap.size)
  (h : ∀ g cap w', w'.ownsRow B 27 1 (.slice (some ⟨g, 0, none⟩) (n + 1) cap) (n + 1) ((rs ++ [(q, m, c')]).map slV) → (w.alloc (.cells #[.slice q m c'] 27)).grownBy w' (Value.ownBlock (.slice p n c)) → wpList Tryz.prog ops Q rest (a.put o.dst (.slice (some ⟨g, 0, none⟩) (n + 1) cap)) w') : wpList Tryz.prog ops Q (o :: rest) a (w.alloc (.cells #[.slice q m c'] 27)) := by
 obtain ⟨i0, hi, hz0, hz1, hz2⟩ := info_parts infoCells; refine wpList_append_lies _ hgd s x 38 ho B 27 i0 (.slice none 0 0) 1 24 Tryz.underlying38 hi hz0 hz1 hz2 rfl (by decide) (.slice p n c) n (rs.map slV) hs (hown.alloc _) ⟨w.heap.size, 0, none⟩ 1 1 [.slice q m c'] hx rfl (cell_one_new _ _ _) (by simp [Value.oneCell']) (by decide) (by unfold maxLen; omega) (by omega) (by simp; omega) _ rfl ?_
 intro g cap w' hown' hgrow hat hlt
 exact h g cap w' (by rw [List.map_append]; exact hown') hgrow
end
section
open Go Go.RowKit
set_option linter.unusedSimpArgs false
def ArgRowU (w : World) : List (Option Addr × Nat × Nat) → List Tr → Prop
 | [], [] => True
 | r :: rs, t :: ts => r.2.1 = 1 + t.2.cells.length ∧ r.2.1 ≤ r.2.2 ∧ r.2.2 ≤ 9223372036854775807 ∧ CIn w r.1 (t.1 :: t.2.cells) ∧ ArgRowU w rs ts
 | [], _ :: _ => False
 | _ :: _, [] => False
theorem ArgRowU.snoc {w : World} {r : Option Addr × Nat × Nat} {t : Tr} (h1 : r.2.1 = 1 + t.2.cells.length) (h2 : r.2.1 ≤ r.2.2) (h3 : r.2.2 ≤ 9223372036854775807) (h4 : CIn w r.1 (t.1 :: t.2.cells)) : ∀ {rs : List (Option Addr × Nat × Nat)} {ts : List Tr}, ArgRowU w rs ts → ArgRowU w (rs ++ [r]) (ts ++ [t])
 | [], [], _ => ⟨h1, h2, h3, h4, trivial⟩
 | _ :: _, _ :: _, h => ⟨h.1, h.2.1, h.2.2.1, h.2.2.2.1, ArgRowU.snoc h1 h2 h3 h4 h.2.2.2.2⟩
 | [], _ :: _, h => h.elim
 | _ :: _, [], h => h.elim
structure ArgStU (W0 w wr : World) (cs : List Cel) (k : Fo) (a : Nat) (D : List Tr) (G : Fo) (pt : Option Addr) (nt ct : Nat) (rs : List (Option Addr × Nat × Nat)) : Prop where
 gd : cs.drop a = G.cells
 gok : G.ok
 all : D ++ trs G = trs k
 cnt : nt = D.length
 row : wr.ownsRow w.heap.size 27 1 (.slice pt nt ct) nt (rs.map slV)
 arg : ArgRowU W0 rs D
 low : Below w.heap.size w wr
def ArgsOutU (W0 w : World) (k : Fo) (e : Ending) (w' : World) : Prop := ∃ q m mc rs, e = .returned (.slice q m mc) ∧ m = k.count ∧ w'.ownsRow w.heap.size 27 1 (.slice q m mc) m (rs.map slV) ∧ ArgRowU W0 rs (trs k) ∧ Below w.heap.size w w'
set_option maxHeartbeats 2000000 in
theorem l2argsU_any (c : Cel) (k : Fo) (p : Option Addr) (n cap : Nat) (W0 w : World) (hW : Below W0.heap.size W0 w) (h3 : c.1 = 3) (hok : (Fo.node c k .nil).ok) (hn : n = (c :: k.cells).length) (hnm : n ≤ 2000) (hcap : n ≤ cap) (hcm : cap ≤ 9223372036854775807) (hin0 : CIn W0 p (c :: k.cells)) :
  Calls Tryz.prog 40 #[.slice p n cap] w (ArgsOutU W0 w k) := by
 have hin := hin0.below hW; obtain ⟨b, o, rfl, hcs⟩ := hin (by simp); obtain ⟨b0, o0, eb0, hcs0⟩ := hin0 (by simp)
 cases eb0
 have HK : Hid (∀ wr, Below w.heap.size w wr → wr.cell? ⟨b, o, none⟩ = some (.int .i64 3) ∧ wr.cell? ⟨b, o + 1, none⟩ = some (.int .i64 k.count)) := fun wr hb => by
  obtain ⟨p0, q0, d0, d1, _, _⟩ := (hcs 0 (by simp)).below hb; simp only [List.getD_cons_zero, Nat.zero_mul, Nat.add_zero] at d0 d1; rw [h3] at d0; rw [hok.2.2.1 h3] at d1; exact ⟨d0, d1⟩
 obtain ⟨d0, d1⟩ := HK.out w (Below.refl _ _)
 have hb20 : k.count ≤ 20 := by
  have h := hok.1; rw [h3] at h; have := cellB_comp h; have := hok.2.2.1 h3
  omega
 have HST : Hid (ArgStU W0 w w (c :: k.cells) k 1 [] k none 0 0 []) := ⟨rfl, hok.2.2.2.2.1, rfl, rfl, World.ownsRow_nil _ _ _ _, trivial, Below.refl _ _⟩
 have HGL : Hid (1 + k.cells.length = n) := by show _ = _; rw [hn]; simp; omega
 obtain ⟨cs, ecs⟩ : ∃ cs, cs = c :: k.cells := ⟨_, rfl⟩
 rw [← ecs] at hcs hn HST hin hcs0; have HX : Hid (∀ i, i < cs.length → CAt W0 b (o + i * 3) (cs.getD i Cel.none)) := hcs0; have HIN : Hid (CIn w (some ⟨b, o, none⟩) cs) := hin; have HN : Hid (n = cs.length) := hn
 obtain ⟨M, eM⟩ : ∃ M, M = k.count := ⟨_, rfl⟩
 have HM : Hid (M = k.count) := eM; rw [← eM] at HK d1 hb20
 have hn0 : 0 < n := by have := HGL.out; omega
 have hn00 : ((n : Int) == 0) = false := by rw [beq_eq_false_iff_ne]; omega
 clear hcs hin hn ecs eM h3 hok hcs0 hin0
 go_enter Tryz.func40, Tryz.ntmps40
 go_wp2_with fail; clear d0 d1
 go_loopw [3, 4, 5] (fun s3 s4 s5 wr => ∃ (a : Nat) (D : List Tr) (G : Fo) (pt : Option Addr) (nt ct : Nat) (rs : List (Option Addr × Nat × Nat)), a ≤ n ∧ nt ≤ M ∧ s3 = .slice pt nt ct ∧ s4 = .int .i64 a ∧ s5 = .int .i64 nt ∧ Hid (a + G.cells.length = n) ∧ Hid (ArgStU W0 w wr cs k a D G pt nt ct rs)) (fun _ _ i _ => M - (intOf i).toNat)
 case atStart => exact ⟨1, [], k, none, 0, 0, [], by omega, Nat.zero_le _, rfl, rfl, rfl, HGL.out, HST.out⟩
 case round =>
  obtain ⟨a, D, G, pt, nt, ct, rs, ha, hnt, rfl, rfl, rfl, HL, HS⟩ := hrel; obtain ⟨d0, d1⟩ := HK.out wr HS.out.low
  by_cases hlt : nt < M
  ·obtain ⟨c1, k1, r1, rfl⟩ : ∃ c k r, G = .node c k r := by
    cases G with
    | nil =>
      have h1 := HS.out.all; have h2 := congrArg List.length h1; have h3 := HS.out.cnt; have h4 := HM.out
      simp [trs, trs_len] at h2
      omega
    | node c k r => exact ⟨c, k, r, rfl⟩
   have hgd : cs.drop a = c1 :: (k1.cells ++ r1.cells) := HS.out.gd; have HO : Hid (Fo.node c1 k1 r1).ok := HS.out.gok
   have HT : Hid (Fo.node c1 k1 .nil).ok := ⟨HO.out.1, HO.out.2.1, HO.out.2.2.1, HO.out.2.2.2.1, HO.out.2.2.2.2.1, trivial⟩
   have HNX := l2next_any (some ⟨b, o, none⟩) n cap cs a c1 k1 r1.cells wr HN.out (by omega) hgd HT.out (HIN.out.below HS.out.low); have HPT : Hid (CIn W0 (some ⟨b, o + a * 3, none⟩) (c1 :: k1.cells)) := CIn.part HX.out a (by rw [hgd]; exact ⟨r1.cells, by simp⟩)
   obtain ⟨L, eL⟩ : ∃ L, L = 1 + k1.cells.length := ⟨_, rfl⟩
   have HEL : Hid (L = 1 + k1.cells.length) := eL
   have hnx : a + 1 + k1.cells.length = a + L := by omega
   have HDR : Hid (cs.drop (a + L) = r1.cells) := by
    show _ = _
    rw [← hnx, show a + 1 + k1.cells.length = (a + 1) + k1.cells.length by omega, ← List.drop_drop, (drop_cell hgd).2.2]; simp
   have hle : a + L ≤ n := by have := HL.out; simp [Fo.cells] at this; omega
   rw [hnx] at HNX
   have HLL : Hid (a + L + r1.cells.length = n) := by show _ = _; have := HL.out; simp [Fo.cells] at this; omega
   have hL1 : 1 ≤ L := by omega
   have hma : (0 : Int) < (cap : Int) - (a : Int) := by omega
   have hL2 : (a : Int) ≤ (a : Int) + (L : Int) := by omega
   have hL3 : (a : Int) + (L : Int) ≤ (n : Int) := by omega
   have hL4 : (a : Int) + (L : Int) ≤ (cap : Int) := by omega
   have hcap1 : ¬ cap = a := by omega
   have hcap2 : ¬ cap - a = 0 := by omega
   have hltI : (nt : Int) < (M : Int) := by omega
   clear hgd eL hnx; go_wp2_with fail; refine HNX.mono ?_; rintro e w3 ⟨rfl, rfl⟩; clear HNX; go_wp2_with (at_builtin; refine app_sl _ rfl _ _ rfl w.heap.size pt nt ct rs (some ⟨b, o + a * 3, none⟩) L (cap - a) rfl HS.out.row rfl (by omega) HS.out.low.size ?_; intro g6 cap6 w6 hown6 hg6); have hbal := HS.out.low.alloc HS.out.low.size (.cells #[.slice (some ⟨b, o + a * 3, none⟩) L (cap - a)] 27)
   have HS6 : Hid (ArgStU W0 w w6 cs k (a + L) (D ++ [(c1, k1)]) r1 (some ⟨g6, 0, none⟩) (nt + 1) cap6 (rs ++ [(some ⟨b, o + a * 3, none⟩, L, cap - a)])) :=
    ⟨HDR.out, HO.out.2.2.2.2.2, by rw [← HS.out.all]; simp [trs], by rw [HS.out.cnt]; simp, hown6, ArgRowU.snoc HEL.out (by simp only; omega) (by simp only; omega) HPT.out HS.out.arg, hbal.grown hg6 hbal.size (fun k e => (HS.out.row.lt k e).1)⟩
   clear hown6 hg6 hbal; go_roundw
   case rel => exact ⟨a + L, D ++ [(c1, k1)], r1, some ⟨g6, 0, none⟩, nt + 1, cap6, _, by omega, by omega, rfl, by go_num, by go_num, HLL.out, HS6⟩
   case measure => simp [intOf]; omega
  ·obtain rfl : nt = M := by omega
   have HF : Hid (ArgRowU W0 rs (trs k)) := by
    show ArgRowU W0 rs (trs k)
    have h1 := HS.out.all; have h2 := congrArg List.length h1; have h3 := HS.out.cnt; have h4 := HM.out
    simp [trs_len] at h2
    have h5 : trs G = [] := List.length_eq_zero_iff.1 (by rw [trs_len]; omega); rw [h5, List.append_nil] at h1; rw [← h1]; exact HS.out.arg
   go_wp2_with fail; go_ret; exact ⟨pt, _, ct, rs, rfl, HM.out, HS.out.row, HF.out, HS.out.low⟩
theorem ArgRowU.len {w : World} : ∀ {rs : List (Option Addr × Nat × Nat)} {ts : List Tr}, ArgRowU w rs ts → rs.length = ts.length
 | [], [], _ => rfl
 | _ :: _, _ :: _, h => by simp [ArgRowU.len h.2.2.2.2]
 | [], _ :: _, h => h.elim
 | _ :: _, [], h => h.elim
theorem ArgRowU.below {w w' : World} (hb : Below w.heap.size w w') : ∀ {rs : List (Option Addr × Nat × Nat)} {ts : List Tr}, ArgRowU w rs ts → ArgRowU w' rs ts
 | [], [], _ => trivial
 | _ :: _, _ :: _, h => ⟨h.1, h.2.1, h.2.2.1, h.2.2.2.1.below hb, ArgRowU.below hb h.2.2.2.2⟩
 | [], _ :: _, h => h.elim
 | _ :: _, [], h => h.elim
theorem argU_at {w0 : World} : ∀ {rs : List (Option Addr × Nat × Nat)} {ts : List Tr} {i : Nat} {t : Tr}, ArgRowU w0 rs ts → ts[i]? = some t → ∃ r, rs[i]? = some r ∧ r.2.1 = (itC t).length ∧ r.2.1 ≤ r.2.2 ∧ r.2.2 ≤ 9223372036854775807 ∧ CIn w0 r.1 (itC t)
 | [], [], i, t, _, h => by cases h
 | r :: rs, u :: ts, 0, t, ha, h => by
   simp only [List.getElem?_cons_zero, Option.some.injEq] at h; subst h; exact ⟨r, rfl, by rw [ha.1]; simp [itC]; omega, ha.2.1, ha.2.2.1, ha.2.2.2.1⟩
 | r :: rs, u :: ts, i + 1, t, ha, h => by
   have := argU_at (rs := rs) (ts := ts) (i := i) (t := t) ha.2.2.2.2 (by simpa using h)
   simpa using this
 | [], _ :: _, _, _, ha, _ => ha.elim
 | _ :: _, [], _, _, ha, _ => ha.elim
theorem l2args0_any {w : World} {p : Option Addr} {n c : Nat} {t : Tr} (h : TI w p n c t) (hk : t.1.1 ≠ 3) (hl : n ≤ 2000) : Calls Tryz.prog 40 #[.slice p n c] w fun e w' => e = .returned (.slice none 0 0) ∧ w' = w := by
 obtain ⟨b, o, q1, qc, rfl, d0, d1, d2, d3⟩ := h.head
 have hn0 : 0 < n := by have := h.1; omega
 have hnb : ((n : Int) == 0) = false := by simp; omega
 obtain ⟨x, ex⟩ : ∃ x, x = t.1.1 := ⟨_, rfl⟩
 rw [← ex] at d0 hk
 have hkb : (x != 3) = true := by simpa using hk
 have hkc : (x == 3) = false := by simpa using hk
 clear h d1 d2 d3 ex
 go_enter Tryz.func40, Tryz.ntmps40
 go_wp2_with fail; go_ret; exact ⟨rfl, rfl⟩
theorem l2argsG_any {Wi w : World} {p : Option Addr} {n c : Nat} {t : Tr} (h : TI Wi p n c t) (hW : Below Wi.heap.size Wi w) (hl : n ≤ 2000) (ht : t.fo.ok) : Calls Tryz.prog 40 #[.slice p n c] w fun e w' => ∃ q m mc rs, e = .returned (.slice q m mc) ∧ m = (trs t.2).length ∧ w'.ownsRow w.heap.size 27 1 (.slice q m mc) m (rs.map slV) ∧ ArgRowU Wi rs (trs t.2) ∧ Below w.heap.size w w' := by
 by_cases h3 : t.1.1 = 3
 ·refine (l2argsU_any t.1 t.2 p n c Wi w hW h3 ht (by rw [h.1]; simp) hl h.2.1 h.2.2.1 h.2.2.2).mono ?_
  rintro e w' ⟨q, m, mc, rs, he, hm, hr, ha, hb⟩; exact ⟨q, m, mc, rs, he, by rw [hm, trs_len], hr, ha, hb⟩
 ·refine (l2args0_any (h.below hW) h3 hl).mono ?_
  rintro e w' ⟨rfl, rfl⟩; have hk : t.2 = .nil := ht.2.2.2.1 h3; rw [hk]; exact ⟨none, 0, 0, [], rfl, rfl, World.ownsRow_nil _ _ _ _, trivial, Below.refl _ _⟩
end
section
open Go Go.RowKit Go.Maps
set_option maxHeartbeats 1000000 in
theorem cellsOf_any (c : Cel) (k : Fo) (v : Value) (Bt : Nat) (w : World) (hok : (Fo.node c k .nil).ok) (hfo : FoIn w Bt (.node c k .nil) [v]) (hl : k.cells.length ≤ 10000) :
  Calls Tryz.prog 125 #[v] w fun e w' => ∃ p n cp, e = .returned (.slice p n cp) ∧ OwnC w' w.heap.size p n cp (c :: k.cells) ∧ Below w.heap.size w w' := by
 have nil := OwnC.nil w w.heap.size
 have fin : ∀ {e : Ending} {w' : World}, AppOut w w.heap.size [] (c :: k.cells) e w' → ∃ p n cp, e = .returned (.slice p n cp) ∧ OwnC w' w.heap.size p n cp (c :: k.cells) ∧ Below w.heap.size w w' := fun ⟨p, n, cp, h1, h2, h3⟩ => ⟨p, n, cp, h1, by simpa using h2, h3⟩
 have FIN : Hid _ := @fin; clear fin; obtain ⟨v', vr, e, hnode, _⟩ := hfo; obtain ⟨rfl, rfl⟩ := List.cons.inj e; have hcl := hok.1; have hby := hok.2.1
 rcases hnode with ⟨h0, rfl⟩ | ⟨h0, rfl⟩ | ⟨h0, rfl⟩ | ⟨h0, b, g, vs, rfl, hcomp⟩
 rotate_right
 case' _ =>
  have hcn := hok.2.2.1 h0; obtain ⟨c0, c1, c2⟩ := c; simp only at h0 hcl hby hcn hcomp; subst h0 hcn; have HS := appComp_any k.cells.length c2 k b g vs none 0 0 [] Bt w.heap.size w w (Nat.le_refl _) hok.2.2.2.2.1 hby hcomp (Below.refl _ _) (Nat.le_refl _) (Nat.le_refl _) nil (by omega); clear hok hcl hby e nil hcomp
 rotate_right
 case' _ =>
  have hk : k = .nil := hok.2.2.2.1 (by rw [h0]; decide); obtain ⟨c0, c1, c2⟩ := c; simp only at h0 hcl hby; subst h0 hk
  have e2 : c1 = 0 := by simp [cellB] at hcl; exact hcl.2
  subst e2; have HS := appAtom_any c2 hby none 0 0 [] w.heap.size w (Nat.le_refl _) (by decide) nil
  obtain ⟨str, es⟩ : ∃ str, str = strOfNums c2 := ⟨_, rfl⟩
  simp only; rw [← es] at HS ⊢; clear hok hcl hby e nil es
 rotate_right
 case' _ =>
  have hk : k = .nil := hok.2.2.2.1 (by rw [h0]; decide); obtain ⟨c0, c1, c2⟩ := c; simp only at h0 hcl; subst h0 hk
  have e2 : c2 = [] := by simp [cellB] at hcl; exact hcl.2.2
  subst e2; have HS := appNum_any c1 none 0 0 [] w.heap.size w (Nat.le_refl _) (by decide) nil; clear hok hcl hby e nil
 rotate_right
 case' _ =>
  have hk : k = .nil := hok.2.2.2.1 (by rw [h0]; decide); obtain ⟨c0, c1, c2⟩ := c; simp only at h0 hcl; subst h0 hk
  have e2 : c2 = [] := by simp [cellB] at hcl; exact hcl.2.2
  subst e2; have HS := appVar_any c1 none 0 0 [] w.heap.size w (Nat.le_refl _) (by decide) nil; clear hok hcl hby e nil
 all_goals
  go_enter Tryz.func125, Tryz.ntmps125
  go_wp2_with fail; refine HS.mono ?_; rintro e w1 ⟨p3, n3, c3, rfl, h1, h2⟩; have HF := FIN.out ⟨p3, n3, c3, rfl, h1, h2⟩; have HFF : Hid _ := HF; clear HF h1 h2; go_wp2_with fail; go_ret; exact HFF.out
end
section
open Go Go.RowKit
def maxV (m : Int) : List Cel → Int
 | [] => m
 | c :: r => maxV (if c.1 = 0 ∧ m < c.2.1 then c.2.1 else m) r
theorem maxV_snoc : ∀ (l : List Cel) (c : Cel) (m : Int), maxV m (l ++ [c]) = if c.1 = 0 ∧ maxV m l < c.2.1 then c.2.1 else maxV m l
 | [], c, m => rfl
 | a :: r, c, m => maxV_snoc r c _
theorem maxVar_any (cs : List Cel) (p : Option Addr) (cap : Nat) (w : World) (hn : cs.length ≤ 1000000) (hb : ∀ c ∈ cs, cellB c.1 c.2.1 c.2.2.length = true) (hin : CIn w p cs) :
  Calls Tryz.prog 43 #[.slice p cs.length cap] w fun e w' => e = .returned (.int .i64 (maxV (-1) cs)) ∧ w' = w := by
 have HI : Hid (CIn w p cs) := hin; have HB : Hid (∀ c ∈ cs, cellB c.1 c.2.1 c.2.2.length = true) := hb; clear hin hb
 go_enter Tryz.func43, Tryz.ntmps43
 go_wp2_with fail
 go_loop [3, 4] (fun m i => ∃ (j : Nat) (mm : Int), j ≤ cs.length ∧ i = .int .i64 j ∧ m = .int .i64 mm ∧ (-1 ≤ mm ∧ mm ≤ 1000000000000000) ∧ Hid (mm = maxV (-1) (cs.take j))) (fun _ i => cs.length - (intOf i).toNat)
 case atStart => exact ⟨0, -1, Nat.zero_le _, rfl, rfl, by omega, rfl⟩
 case round =>
  obtain ⟨j, mm, hj, rfl, rfl, hmb, HM⟩ := hrel
  by_cases hlt : j < cs.length
  ·obtain ⟨b, o, rfl, hc⟩ := HI.out (by omega)
   obtain ⟨q1, qc, d0, d1, d2, d3⟩ := hc j hlt
   have htk : cs.take (j + 1) = cs.take j ++ [cs.getD j Cel.none] := by rw [List.take_succ_eq_append_getElem hlt]; simp [List.getD, hlt]
   have hcb := HB.out (cs.getD j Cel.none) (by simp [List.getD, hlt]); simp only [cellB, decide_eq_true_eq] at hcb
   have HN : Hid (maxV (-1) (cs.take (j + 1)) = if (cs.getD j Cel.none).1 = 0 ∧ mm < (cs.getD j Cel.none).2.1 then (cs.getD j Cel.none).2.1 else mm) := by show _ = _; rw [htk, maxV_snoc, ← HM.out]
   generalize (cs.getD j Cel.none).1 = k1 at d0 HN hcb
   generalize (cs.getD j Cel.none).2.1 = k2 at d1 HN hcb
   have hk2 : -1000000000000000 ≤ k2 ∧ k2 ≤ 1000000000000000 := by omega
   clear hc d2 d3 htk hcb
   by_cases h0 : k1 = 0
   ·subst h0
    by_cases hg : mm < k2
    ·have hgd : decide (mm < k2) = true := decide_eq_true hg
     go_wp2_with fail
     go_round
     case rel => exact ⟨j + 1, k2, by omega, by go_num, rfl, by omega, by show _ = _; rw [HN.out, if_pos ⟨rfl, hg⟩]⟩
     case measure => simp [intOf]; omega
    ·have hgd : decide (mm < k2) = false := decide_eq_false hg
     go_wp2_with fail
     go_round
     case rel => exact ⟨j + 1, mm, by omega, by go_num, rfl, hmb, by show _ = _; rw [HN.out, if_neg (fun h => hg h.2)]⟩
     case measure => simp [intOf]; omega
   ·have hgd : (k1 == 0) = false := beq_eq_false_iff_ne.2 h0
    go_wp2_with fail
    go_round
    case rel => exact ⟨j + 1, mm, by omega, by go_num, rfl, hmb, by show _ = _; rw [HN.out, if_neg (fun h => h0 h.1)]⟩
    case measure => simp [intOf]; omega
  ·obtain rfl : j = cs.length := by omega
   have HM2 : Hid (mm = maxV (-1) cs) := by have := HM.out; rw [List.take_length] at this; exact this
   go_wp2_with fail; go_ret; exact ⟨ret_int HM2.out, rfl⟩
def sgn (b : Bool) : Int := if b then -1 else 1
theorem sgn_ne (b : Bool) : sgn b ≠ 0 := by cases b <;> decide
def cellCmp (x y : Cel) : Int := if x.1 ≠ y.1 then sgn (decide (x.1 < y.1)) else if x.2.1 ≠ y.2.1 then sgn (decide (x.2.1 < y.2.1)) else if (strOfNums x.2.2).toList == (strOfNums y.2.2).toList then 0 else sgn (Op.bytesLess (strOfNums x.2.2).toList (strOfNums y.2.2).toList)
def cmpC : List Cel → List Cel → Int
 | x :: xs, y :: ys => if cellCmp x y ≠ 0 then cellCmp x y else cmpC xs ys
 | _, _ => 0
theorem cmpC_drop (xs ys : List Cel) (k : Nat) (h1 : k < xs.length) (h2 : k < ys.length) : cmpC (xs.drop k) (ys.drop k) = if cellCmp (xs.getD k Cel.none) (ys.getD k Cel.none) ≠ 0 then cellCmp (xs.getD k Cel.none) (ys.getD k Cel.none) else cmpC (xs.drop (k + 1)) (ys.drop (k + 1)) := by
 rw [List.drop_eq_getElem_cons h1, List.drop_eq_getElem_cons h2, cmpC, List.getD, List.getD, List.getElem?_eq_getElem h1, List.getElem?_eq_getElem h2]; rfl
theorem cmpC_nil (xs ys : List Cel) (k : Nat) (h : xs.length ≤ k ∨ ys.length ≤ k) : cmpC (xs.drop k) (ys.drop k) = 0 := by
 rcases h with h | h
 ·rw [List.drop_eq_nil_of_le h, cmpC]; simp
 ·rw [List.drop_eq_nil_of_le h]
  cases xs.drop k <;> simp [cmpC]
theorem l2sign_any (b : Bool) (w : World) : Calls Tryz.prog 181 #[.bool b] w fun e w' => e = .returned (.int .i64 (sgn b)) ∧ w' = w := by
 cases b
 ·go_enter Tryz.func181, Tryz.ntmps181
  go_wp2_with fail; go_ret; exact ⟨rfl, rfl⟩
 ·go_enter Tryz.func181, Tryz.ntmps181
  go_wp2_with fail; go_ret; exact ⟨rfl, rfl⟩
set_option maxHeartbeats 1000000 in
theorem l2compare_any (xs ys : List Cel) (p q : Option Addr) (n m c1 c2 : Nat) (w : World) (hn : n = xs.length) (hm : m = ys.length) (hnb : n ≤ 1000000000) (hmb : m ≤ 1000000000) (hx : CIn w p xs) (hy : CIn w q ys) :
  Calls Tryz.prog 116 #[.slice p n c1, .slice q m c2] w fun e w' => e = .returned (.int .i64 (cmpC xs ys)) ∧ Below w.heap.size w w' := by
 have HX : Hid (CIn w p xs) := hx; have HY : Hid (CIn w q ys) := hy
 have HL : Hid (n = xs.length ∧ m = ys.length) := ⟨hn, hm⟩
 clear hx hy hn hm
 go_enter Tryz.func116, Tryz.ntmps116
 go_wp2_with fail
 go_loopw [5] (fun i wr => ∃ k : Nat, k ≤ n ∧ i = .int .i64 k ∧ Hid (cmpC xs ys = cmpC (xs.drop k) (ys.drop k)) ∧ Hid (Below w.heap.size w wr)) (fun i _ => n - (intOf i).toNat)
 case atStart => exact ⟨0, Nat.zero_le _, rfl, rfl, Below.refl _ _⟩
 case round =>
  obtain ⟨k, hk, rfl, HC, HB⟩ := hrel
  by_cases h1 : k < n
  ·by_cases h2 : k < m
   ·have hkx : k < xs.length := by rw [← HL.out.1]; exact h1
    have hky : k < ys.length := by rw [← HL.out.2]; exact h2
    have HD : Hid _ := cmpC_drop xs ys k hkx hky
    obtain ⟨b, o, rfl, hcx⟩ := (HX.out.below HB.out) (by omega)
    obtain ⟨b', o', rfl, hcy⟩ := (HY.out.below HB.out) (by omega)
    obtain ⟨px, qx, x0, x1, x2, x3⟩ := hcx k hkx; obtain ⟨py, qy, y0, y1, y2, y3⟩ := hcy k hky
    obtain ⟨X, eX⟩ : ∃ X, X = xs.getD k Cel.none := ⟨_, rfl⟩
    obtain ⟨Y, eY⟩ : ∃ Y, Y = ys.getD k Cel.none := ⟨_, rfl⟩
    rw [← eX, ← eY] at HD; rw [← eX] at x0 x1 x2 x3; rw [← eY] at y0 y1 y2 y3
    obtain ⟨lx, elx⟩ : ∃ l, l = X.2.2.length := ⟨_, rfl⟩
    obtain ⟨ly, ely⟩ : ∃ l, l = Y.2.2.length := ⟨_, rfl⟩
    rw [← elx] at x2; rw [← ely] at y2
    obtain ⟨sx, esx⟩ : ∃ s, s = strOfNums X.2.2 := ⟨_, rfl⟩
    obtain ⟨sy, esy⟩ : ∃ s, s = strOfNums Y.2.2 := ⟨_, rfl⟩
    have cvx : ∀ W, Below wr.heap.size wr W → (convert 35 9 (.slice px lx qx)).run Tryz.prog W = .ok (.string sx) W := fun W hW => by rw [esx]; exact conv_str (x3.below hW) lx qx elx 9 Tryz.underlying9
    have cvy : ∀ W, Below wr.heap.size wr W → (convert 35 9 (.slice py ly qy)).run Tryz.prog W = .ok (.string sy) W := fun W hW => by rw [esy]; exact conv_str (y3.below hW) ly qy ely 9 Tryz.underlying9
    obtain ⟨a1, ea1⟩ : ∃ a, a = X.1 := ⟨_, rfl⟩
    obtain ⟨a2, ea2⟩ : ∃ a, a = X.2.1 := ⟨_, rfl⟩
    obtain ⟨d1, ed1⟩ : ∃ a, a = Y.1 := ⟨_, rfl⟩
    obtain ⟨d2, ed2⟩ : ∃ a, a = Y.2.1 := ⟨_, rfl⟩
    have HCC : Hid (cellCmp X Y = if a1 ≠ d1 then sgn (decide (a1 < d1)) else if a2 ≠ d2 then sgn (decide (a2 < d2)) else if sx.toList == sy.toList then 0 else sgn (Op.bytesLess sx.toList sy.toList)) := by
     show _ = _
     rw [ea1, ea2, ed1, ed2, esx, esy]; rfl
    rw [← ea1] at x0; rw [← ea2] at x1; rw [← ed1] at y0; rw [← ed2] at y1; clear hcx hcy x3 y3 eX eY elx ely esx esy ea1 ea2 ed1 ed2; have hW2 : Below wr.heap.size wr ((wr.alloc (Obj.cells #[.int .i64 a1, .int .i64 a2, .slice px lx qx] 52)).alloc (Obj.cells #[.int .i64 d1, .int .i64 d2, .slice py ly qy] 52)) := ((Below.refl _ wr).alloc (Nat.le_refl _) _).alloc (by simp) _; have cx := cvx _ hW2; have cy := cvy _ hW2; have HB2 : Hid (Below w.heap.size w ((wr.alloc (Obj.cells #[.int .i64 a1, .int .i64 a2, .slice px lx qx] 52)).alloc (Obj.cells #[.int .i64 d1, .int .i64 d2, .slice py ly qy] 52))) := Below.on HB.out hW2; clear cvx cvy hW2; have hW1 : Below wr.heap.size wr (wr.alloc (Obj.cells #[.int .i64 a1, .int .i64 a2, .slice px lx qx] 52)) := (Below.refl _ wr).alloc (Nat.le_refl _) _; have z0 := (hW1.cell (World.block_lt_of_cell? _ _ y0)).trans y0
    have z1 := (hW1.cell (World.block_lt_of_cell? _ _ y1)).trans y1; have z2 := (hW1.cell (World.block_lt_of_cell? _ _ y2)).trans y2; clear hW1 y0 y1 y2
    by_cases e1 : a1 = d1
    ·subst e1
     by_cases e2 : a2 = d2
     ·subst e2
      cases e3 : (sx.toList == sy.toList) with
      | true =>
        have HZ : Hid (cellCmp X Y = 0) := by show _ = _; rw [HCC.out, if_neg (by simp), if_neg (by simp), if_pos e3]
        go_wp2_with fail; go_roundw
        case rel => exact ⟨k + 1, by omega, by go_num, by show _ = _; rw [HC.out, HD.out, if_neg (by rw [HZ.out]; simp)], HB2⟩
        case measure => simp [intOf]; omega
      | false =>
        have HZ : Hid (cellCmp X Y = sgn (Op.bytesLess sx.toList sy.toList)) := by show _ = _; rw [HCC.out, if_neg (by simp), if_neg (by simp), if_neg (by rw [e3]; simp)]
        go_wp2_with fail; refine (l2sign_any _ _).mono ?_; rintro e w9 ⟨rfl, rfl⟩; go_wp2_with fail; go_ret; exact ⟨ret_int (by rw [HC.out, HD.out, if_pos (by rw [HZ.out]; exact sgn_ne _), HZ.out]), HB2.out⟩
     ·have HZ : Hid (cellCmp X Y = sgn (decide (a2 < d2))) := by show _ = _; rw [HCC.out, if_neg (by simp), if_pos e2]
      go_wp2_with fail; refine (l2sign_any _ _).mono ?_; rintro e w9 ⟨rfl, rfl⟩; go_wp2_with fail; go_ret; exact ⟨ret_int (by rw [HC.out, HD.out, if_pos (by rw [HZ.out]; exact sgn_ne _), HZ.out]), HB2.out⟩
    ·have HZ : Hid (cellCmp X Y = sgn (decide (a1 < d1))) := by show _ = _; rw [HCC.out, if_pos e1]
     go_wp2_with fail; refine (l2sign_any _ _).mono ?_; rintro e w9 ⟨rfl, rfl⟩; go_wp2_with fail; go_ret; exact ⟨ret_int (by rw [HC.out, HD.out, if_pos (by rw [HZ.out]; exact sgn_ne _), HZ.out]), HB2.out⟩
   ·have HF : Hid (cmpC xs ys = 0) := by show _ = _; rw [HC.out]; exact cmpC_nil _ _ _ (.inr (by rw [← HL.out.2]; omega))
    go_wp2_with fail; go_ret; exact ⟨ret_int HF.out.symm, HB.out⟩
  ·have HF : Hid (cmpC xs ys = 0) := by show _ = _; rw [HC.out]; exact cmpC_nil _ _ _ (.inl (by rw [← HL.out.1]; omega))
   go_wp2_with fail; go_ret; exact ⟨ret_int HF.out.symm, HB.out⟩
theorem cellCmp_zero {x y : Cel} (hx : Byte x.2.2) (hy : Byte y.2.2) : cellCmp x y = 0 ↔ x = y := by
 obtain ⟨a, b, c⟩ := x; obtain ⟨a', b', c'⟩ := y; simp only at hx hy; simp only [cellCmp]
 by_cases h1 : a = a'
 ·by_cases h2 : b = b'
  ·subst h1 h2
   have hs := str_inj hx hy; rw [beq_toListBytes] at hs; simp only [ne_eq, not_true_eq_false, if_false, hs]
   by_cases h3 : c = c'
   ·simp [h3]
   ·simp [h3, sgn_ne]
  ·simp [h1, h2, sgn_ne]
 ·simp [h1, sgn_ne]
theorem cmpC_zero : ∀ (xs ys : List Cel), xs.length = ys.length → (∀ x ∈ xs, Byte x.2.2) → (∀ y ∈ ys, Byte y.2.2) → (cmpC xs ys = 0 ↔ xs = ys)
 | [], [], _, _, _ => by simp [cmpC]
 | [], _ :: _, h, _, _ => by simp at h
 | _ :: _, [], h, _, _ => by simp at h
 | x :: xs, y :: ys, h, hx, hy => by
   have h0 := cellCmp_zero (hx x (by simp)) (hy y (by simp)); have ih := cmpC_zero xs ys (by simpa using h) (fun z hz => hx z (by simp [hz])) (fun z hz => hy z (by simp [hz])); simp only [cmpC]
   by_cases hc : cellCmp x y = 0
   ·rw [if_neg (by simp [hc]), ih, h0.1 hc]; simp
   ·rw [if_pos hc]
    constructor
    ·intro e; exact absurd e hc
    ·intro e; injection e with e1 e2; exact absurd (h0.2 e1) hc
theorem byte_mem {cs : List Cel} (hb : ∀ i, i < cs.length → Byte (cs.getD i Cel.none).2.2) : ∀ x ∈ cs, Byte x.2.2 := fun x hx => by
 obtain ⟨i, hi, e⟩ := List.getElem_of_mem hx; have := hb i hi
 rwa [List.getD, List.getElem?_eq_getElem hi, Option.getD_some, e] at this
theorem ren_byte {cs : List Cel} (hb : ∀ x ∈ cs, Byte x.2.2) : ∀ y ∈ renCells cs, Byte y.2.2 := fun y hy => by
 obtain ⟨x, hx, rfl⟩ := List.mem_map.1 hy; rw [renI_text]; exact hb x hx
theorem ren_len (cs : List Cel) : (renCells cs).length = cs.length := by simp [renCells]
set_option maxHeartbeats 2000000 in
theorem l2copy_any (p : Option Addr) (n c : Nat) (cs : List Cel) (w : World) (hn : n = cs.length) (hl : cs.length + tl cs ≤ 10000000) (hin : CIn w p cs) :
  Calls Tryz.prog 182 #[.slice p n c] w fun e w' => ∃ q m c2, e = .returned (.slice q m c2) ∧ OwnC w' w.heap.size q m c2 cs ∧ Below w.heap.size w w' := by
 have HI : Hid (CIn w p cs) := hin; have HN : Hid (n = cs.length) := hn
 have hnl : n ≤ 10000000 := by omega
 clear hin hn
 go_enter Tryz.func182, Tryz.ntmps182
 go_wp2_with fail
 go_loopw [3, 4] (fun s i wr => ∃ (j : Nat) (q : Option Addr) (m c2 : Nat), j ≤ n ∧ m = j ∧ i = .int .i64 j ∧ s = .slice q m c2 ∧ Hid (OwnC wr w.heap.size q m c2 (cs.take j)) ∧ Hid (Below w.heap.size w wr)) (fun _ i _ => n - (intOf i).toNat)
 case atStart => exact ⟨0, none, 0, 0, Nat.zero_le _, rfl, rfl, rfl, OwnC.nil _ _, Below.refl _ _⟩
 case round =>
  obtain ⟨j, q, m, c2, hj, rfl, rfl, rfl, HO, HB⟩ := hrel
  by_cases hlt : m < n
  ·have hjl : m < cs.length := by rw [← HN.out]; exact hlt
   obtain ⟨b, o, rfl, hcs⟩ := HI.out (by omega); obtain ⟨p0, q0, d0, d1, d2, d3⟩ := (hcs m hjl).below HB.out; have hbw : b < w.heap.size := World.block_lt_of_cell? _ _ (hcs m hjl).choose_spec.choose_spec.1; have HBW : Hid (b < w.heap.size) := hbw; have htl := tl_at cs m hjl
   have HX : Hid (cs.take m ++ [((cs.getD m Cel.none).1, (cs.getD m Cel.none).2.1, (cs.getD m Cel.none).2.2)] = cs.take (m + 1)) := by
    show _ = _
    rw [List.take_succ_eq_append_getElem hjl, List.getD, List.getElem?_eq_getElem hjl]; rfl
   obtain ⟨xs, exs⟩ : ∃ x, x = (cs.getD m Cel.none).2.2 := ⟨_, rfl⟩
   obtain ⟨c0, e0⟩ : ∃ x, x = (cs.getD m Cel.none).1 := ⟨_, rfl⟩
   obtain ⟨c1, e1⟩ : ∃ x, x = (cs.getD m Cel.none).2.1 := ⟨_, rfl⟩
   rw [← e0] at d0 HX; rw [← e1] at d1 HX; rw [← exs] at d2 d3 HX htl
   obtain ⟨t, et⟩ : ∃ t, t = xs.length := ⟨_, rfl⟩
   rw [← et] at d2
   have HCP : Hid (∀ k, Calls Tryz.prog 51 #[.slice p0 t q0] (wr.drewN k) fun e w' => ∃ p' n' c', e = .returned (.slice p' n' c') ∧ OwnS w' wr.heap.size p' n' c' xs ∧ Below wr.heap.size (wr.drewN k) w') := fun k => l1copy_all p0 t q0 xs (wr.drewN k) et (by omega) d3
   have hB : w.heap.size ≤ wr.heap.size := HB.out.size; clear hcs htl exs e0 e1 et d3 hbw; go_wp2_with fail
   go_region_held3 (fun W => W.cell? ⟨b, o + m * 3, none⟩ = some (.int .i64 c0) ∧ W.cell? ⟨b, o + m * 3 + 1, none⟩ = some (.int .i64 c1) ∧ W.cell? ⟨b, o + m * 3 + 2, none⟩ = some (.slice p0 t q0))
    (first | exact kk | go_keep)
    (first
      | (go_at_call 51; refine (HCP.out 1).mono ?_; rintro e w1 ⟨p1, n1, c1', rfl, ho1, hb1⟩; have kk : w1.cell? ⟨b, o + m * 3, none⟩ = some (.int .i64 c0) ∧ w1.cell? ⟨b, o + m * 3 + 1, none⟩ = some (.int .i64 c1) ∧ w1.cell? ⟨b, o + m * 3 + 2, none⟩ = some (.slice p0 t q0) := ⟨(hb1.cell (World.block_lt_of_cell? wr _ d0)).trans d0, (hb1.cell (World.block_lt_of_cell? wr _ d1)).trans d1, (hb1.cell (World.block_lt_of_cell? wr _ d2)).trans d2⟩)
      | (refine step_app_cell wr _ rfl _ _ rfl w.heap.size q m c2 (cs.take m) rfl HO.out (((below_drewN (Below.refl _ wr) 1).trans hb1).alloc hb1.size _) hB ⟨w1.heap.size, 0, none⟩ 1 rfl c0 c1 p1 n1 c1' xs (ho1.toT.below ((Below.refl _ _).alloc (Nat.le_refl _) _)) (news_rc (Box3.of_block (t := 52) (heap_alloc_new _ _))) (by omega) ?_; intro g n' cap w5 hown5 hb5 hn5; have kk : w5.cell? ⟨b, o + m * 3, none⟩ = some (.int .i64 c0) ∧ w5.cell? ⟨b, o + m * 3 + 1, none⟩ = some (.int .i64 c1) ∧ w5.cell? ⟨b, o + m * 3 + 2, none⟩ = some (.slice p0 t q0) := ⟨(hb5.cell HBW.out).trans (Lib.cell?_alloc_marked _ kk.1), (hb5.cell HBW.out).trans (Lib.cell?_alloc_marked _ kk.2.1), (hb5.cell HBW.out).trans (Lib.cell?_alloc_marked _ kk.2.2)⟩))
   have HO5 : Hid (OwnC w5 w.heap.size (some ⟨g, 0, none⟩) n' cap (cs.take (m + 1))) := by rw [← HX.out]; exact hown5
   have HB5 : Hid (Below w.heap.size w w5) := ((HB.out.trans (((below_drewN (Below.refl _ wr) 1).trans hb1).mono hB)).alloc (Nat.le_trans hB hb1.size) _).trans hb5; have HN5 : Hid (n' = m + 1) := hn5.out; clear hown5 hb5 hn5 kk ho1 hb1 d0 d1 d2; go_wp2_with fail; go_roundw
   case rel => exact ⟨m + 1, _, _, _, by omega, HN5.out, by go_num, rfl, HO5, HB5⟩
   case measure => simp [intOf]; omega
  ·obtain rfl : m = n := by omega
   go_wp2_with fail; go_ret; refine ⟨_, _, _, rfl, ?_, HB.out⟩; have := HO.out
   rwa [List.take_of_length_le (by rw [← HN.out]; exact Nat.le_refl _)] at this
end
section
open Go Go.RowKit Go.Maps
theorem flat_setN : ∀ (rs : List RC) (i : Nat) (b : Int), i < rs.length → (flat rs).set (i * 3 + 1) (.int .i64 b) = flat (rs.set i ((rs.getD i RC.zero).1, b, (rs.getD i RC.zero).2.2))
 | [], i, b, h => by simp at h
 | x :: rs, 0, b, _ => by simp [flat_cons]
 | x :: rs, i + 1, b, h => by
   have := flat_setN rs i b (by simpa using h); rw [flat_cons, show (i + 1) * 3 + 1 = (i * 3 + 1) + 1 + 1 + 1 by omega]; simp only [List.set_cons_succ, this]
   rfl
theorem OwnC.setN {w : World} {B g n c j : Nat} {cs : List Cel} (h : OwnC w B (some ⟨g, 0, none⟩) n c cs) (hj : j < cs.length) (b : Int) :
  OwnC (w.setCell ⟨g, j * 3 + 1, none⟩ (.int .i64 b)) B (some ⟨g, 0, none⟩) n c (cs.set j ((cs.getD j Cel.none).1, b, (cs.getD j Cel.none).2.2)) := by
 obtain ⟨hn, rs, hl, hr, hf, ha⟩ := h; have h2 := (hr.stored (j * 3 + 1) (.int .i64 b)).1; rw [flat_setN rs j b (by omega)] at h2
 have hat : ∀ i, ((rs.set j ((rs.getD j RC.zero).1, b, (rs.getD j RC.zero).2.2)).getD i RC.zero).2.2 = (rs.getD i RC.zero).2.2 := fun i => by
  rw [rs_set_at _ _ _ _ (by omega)]
  by_cases e : i = j
  ·rw [if_pos e, e]
  ·rw [if_neg e]
 refine ⟨by simpa using hn, _, by simpa using hl, h2, fun i hi => ?_, ⟨fun i hi => ?_, fun i i' hi hi' hne => ?_⟩⟩
 ·have hi' : i < cs.length := by simpa using hi
  rw [cs_set_at _ _ _ _ hj, rs_set_at _ _ _ _ (by omega)]; obtain ⟨q0, q1, q2⟩ := hf i hi'; have q3 := q2.setCell (a := ⟨g, j * 3 + 1, none⟩) (fun hp e' => ha.1 i (by omega) hp e') (.int .i64 b)
  by_cases e : i = j
  ·rw [if_pos e, if_pos e]
   subst e; exact ⟨q0, rfl, q3⟩
  ·rw [if_neg e, if_neg e]
   exact ⟨q0, q1, q3⟩
 ·rw [hat]; exact ha.1 i (by simpa using hi)
 ·rw [hat, hat]; exact ha.2 i i' (by simpa using hi) (by simpa using hi') hne
def renF (ks : List Int) (c : Cel) : Cel := if c.1 = 0 then (c.1, findI ks c.2.1, c.2.2) else c
def mixR (ks : List Int) (cs : List Cel) (j : Nat) : List Cel := (List.range cs.length).map fun i => if i < j then renF ks (cs.getD i Cel.none) else cs.getD i Cel.none
theorem mixR_len (ks : List Int) (cs : List Cel) (j : Nat) : (mixR ks cs j).length = cs.length := by simp [mixR]
theorem mixR_at (ks : List Int) (cs : List Cel) (j i : Nat) (h : i < cs.length) : (mixR ks cs j).getD i Cel.none = if i < j then renF ks (cs.getD i Cel.none) else cs.getD i Cel.none := by
 simp [mixR, List.getD, h]
theorem mixR_zero (ks : List Int) (cs : List Cel) : mixR ks cs 0 = cs := same_cells (mixR_len ..) (fun j hj => by rw [mixR_at _ _ _ _ (by rw [mixR_len] at hj; exact hj), if_neg (Nat.not_lt_zero _)])
theorem mixR_all (ks : List Int) (cs : List Cel) : mixR ks cs cs.length = cs.map (renF ks) := same_cells (by simp [mixR]) (fun j hj => by
 rw [mixR_len] at hj; rw [mixR_at _ _ _ _ hj, if_pos hj]
 simp [List.getD, hj])
theorem mixR_succ (ks : List Int) (cs : List Cel) (j : Nat) (h : j < cs.length) : mixR ks cs (j + 1) = (mixR ks cs j).set j (renF ks (cs.getD j Cel.none)) := same_cells (by simp [mixR]) (fun i hi => by
 rw [mixR_len] at hi; rw [mixR_at _ _ _ _ hi, cs_set_at _ _ _ _ (by rw [mixR_len]; exact h)]
 by_cases e : i = j
 ·subst e; rw [if_pos (by omega), if_pos rfl]
 ·rw [if_neg e, mixR_at _ _ _ _ hi]
  by_cases e2 : i < j
  ·rw [if_pos e2, if_pos (by omega)]
  ·rw [if_neg e2, if_neg (by omega)])
theorem set_selfR (cs : List Cel) (j : Nat) (h : j < cs.length) : cs.set j (cs.getD j Cel.none) = cs := same_cells (by simp) (fun i hi => by
 rw [cs_set_at _ _ _ _ h]
 by_cases e : i = j
 ·rw [if_pos e, e]
 ·rw [if_neg e])
theorem l2renumber_any (p : Option Addr) (n c : Nat) (cs : List Cel) (pl : Option Addr) (nl cl : Nat) (ks : List Int) (w : World) (hn : n = cs.length) (hl : cs.length + tl cs ≤ 10000000) (hin : CIn w p cs) (hnl : nl = ks.length) (hk : nl ≤ 100000) (hli : IIn w pl ks) :
  Calls Tryz.prog 117 #[.slice p n c, .slice pl nl cl] w fun e w' => ∃ q m c2, e = .returned (.slice q m c2) ∧ OwnC w' w.heap.size q m c2 (cs.map (renF ks)) ∧ Below w.heap.size w w' := by
 have HCP := l2copy_any p n c cs w hn hl hin
 have HLI : Hid (IIn w pl ks ∧ nl = ks.length) := ⟨hli, hnl⟩
 have hcl : cs.length ≤ 10000000 := by omega
 clear hin hli hn hnl
 go_enter Tryz.func117, Tryz.ntmps117
 go_wp2_with fail; refine HCP.mono ?_; rintro e w1 ⟨q, m, c2, rfl, ho1, hb1⟩; have HM : Hid (m = cs.length) := ho1.1
 have hm : m ≤ 10000000 := by have := ho1.1; omega
 have HO1 : Hid (OwnC w1 w.heap.size q m c2 cs) := ho1; have HB1 : Hid (Below w.heap.size w w1) := hb1; clear ho1 hb1 HCP; go_wp2_with fail
 go_loopw [6] (fun i wr => ∃ j : Nat, j ≤ m ∧ i = .int .i64 j ∧ Hid (OwnC wr w.heap.size q m c2 (mixR ks cs j)) ∧ Hid (Below w.heap.size w wr)) (fun i _ => m - (intOf i).toNat)
 case atStart => exact ⟨0, Nat.zero_le _, rfl, by rw [mixR_zero]; exact HO1, HB1⟩
 case round =>
  obtain ⟨j, hj, rfl, HO, HB⟩ := hrel
  by_cases hlt : j < m
  ·have hjl : j < cs.length := by rw [← HM.out]; exact hlt
   obtain ⟨hn1, rs, hl1, hr, hf, ha⟩ := HO.out; obtain ⟨g, cap, hv, hbg, hgs⟩ := hr.form (by omega); simp only [Value.slice.injEq, true_and] at hv; obtain ⟨rfl, rfl⟩ := hv; rw [mixR_len] at hl1 hf; obtain ⟨a0, a1, a2⟩ := flat_at rs j (by omega); have d0 := (hr.cellAt (j * 3) (by omega)).trans a0; have d1 := (hr.cellAt (j * 3 + 1) (by omega)).trans a1; have ff := hr.frozenAt (j * 3 + 1); obtain ⟨q0, q1, _⟩ := hf j hjl; rw [mixR_at _ _ _ _ hjl, if_neg (Nat.lt_irrefl j)] at q0 q1; rw [q0] at d0; rw [q1] at d1
   have HSN : Hid (∀ b, OwnC (wr.setCell ⟨g, j * 3 + 1, none⟩ (.int .i64 b)) w.heap.size (some ⟨g, 0, none⟩) m c2 ((mixR ks cs j).set j (((mixR ks cs j).getD j Cel.none).1, b, ((mixR ks cs j).getD j Cel.none).2.2))) := fun b => HO.out.setN (by rw [mixR_len]; exact hjl) b
   have hmj : (mixR ks cs j).getD j Cel.none = cs.getD j Cel.none := by rw [mixR_at _ _ _ _ hjl, if_neg (Nat.lt_irrefl j)]
   rw [hmj] at HSN; have HS1 : Hid _ := mixR_succ ks cs j hjl; have HFD := l2find_any pl nl cl ks (cs.getD j Cel.none).2.1 wr HLI.out.2 (by omega) (HLI.out.1.below HB.out)
   obtain ⟨c0, e0⟩ : ∃ x, x = (cs.getD j Cel.none).1 := ⟨_, rfl⟩
   obtain ⟨c1, e1⟩ : ∃ x, x = (cs.getD j Cel.none).2.1 := ⟨_, rfl⟩
   have HE : Hid (c0 = (cs.getD j Cel.none).1 ∧ c1 = (cs.getD j Cel.none).2.1) := ⟨e0, e1⟩
   rw [← e0] at d0; rw [← e1] at d1 HFD; have HMJ : Hid _ := hmj; clear hn1 hl1 hr hf ha a0 a1 a2 q0 q1 e0 e1 hmj
   by_cases h0 : c0 = 0
   ·subst h0
    obtain ⟨fi, ef⟩ : ∃ fi, fi = findI ks c1 := ⟨_, rfl⟩
    rw [← ef] at HFD; have HFI : Hid (fi = findI ks c1) := ef; clear ef; go_wp2_with fail; refine HFD.mono ?_; rintro e w2 ⟨rfl, rfl⟩; go_wp2_with fail
    have HO2 : Hid (OwnC (w2.setCell ⟨g, j * 3 + 1, none⟩ (.int .i64 fi)) w.heap.size (some ⟨g, 0, none⟩) m c2 (mixR ks cs (j + 1))) := by
     have := HSN.out fi; rw [HS1.out, renF, if_pos HE.out.1.symm, ← HE.out.2, ← HFI.out]; exact this
    go_roundw
    case rel => exact ⟨j + 1, by omega, by go_num, HO2, HB.out.setCell (p := ⟨g, j * 3 + 1, none⟩) hbg _⟩
    case measure => simp [intOf]; omega
   ·have h0' : (c0 == 0) = false := by simpa using h0
    have HO2 : Hid (OwnC wr w.heap.size (some ⟨g, 0, none⟩) m c2 (mixR ks cs (j + 1))) := by
     show OwnC _ _ _ _ _ _
     rw [HS1.out, renF, if_neg (by rw [← HE.out.1]; exact h0), ← HMJ.out, set_selfR _ _ (by rw [mixR_len]; exact hjl)]; exact HO.out
    clear h0; go_wp2_with fail; go_roundw
    case rel => exact ⟨j + 1, by omega, by go_num, HO2, HB⟩
    case measure => simp [intOf]; omega
  ·obtain rfl : j = m := by omega
   go_wp2_with fail; go_ret; refine ⟨_, _, _, rfl, ?_, HB.out⟩; rw [← mixR_all, ← HM.out]; exact HO.out
theorem visits_mem : ∀ (cs : List Cel) (ks : List Int) (c : Cel), c ∈ cs → c.1 = 0 → c.2.1 ∈ visits ks cs
 | [], ks, c, h, _ => by cases h
 | a :: r, ks, c, h, h0 => by
   rcases List.mem_cons.1 h with rfl | h
   ·rw [visits_cons]
    refine (visits_prefix r _).subset ?_; rw [visitL, if_pos h0]; exact putV_mem _ _
   ·exact visits_mem r (visitL ks a) c h h0
theorem ren_same (cs : List Cel) : cs.map (renF (visits [] cs)) = renCells cs := by
 rw [renCells]
 refine List.map_congr_left fun c hc => ?_
 unfold renF renI
 by_cases h0 : c.1 = 0
 ·rw [if_pos h0, if_pos h0, findI, if_pos (visits_mem cs [] c hc h0)]
 ·rw [if_neg h0, if_neg h0]
theorem specRen_any (cs : List Cel) (p : Option Addr) (n cap : Nat) (w : World) (hn : n = cs.length) (hl : cs.length + tl cs ≤ 10000000) (hin : CIn w p cs) :
  Calls Tryz.prog 39 #[.slice p n cap] w fun e w' => ∃ q m c2, e = .returned (.slice q m c2) ∧ OwnC w' w.heap.size q m c2 (if validB cs = true then renCells cs else []) ∧ Below w.heap.size w w' := by
 subst hn; have HV := specValid_any p cap cs w (by omega) hin; have HI : Hid (CIn w p cs) := hin; clear hin
 by_cases hv : validB cs = true
 ·have hlen : cs.length ≤ 2000 := by simp only [validB, Bool.and_eq_true, decide_eq_true_eq] at hv; exact hv.1
  rw [if_pos hv]; rw [hv] at HV; clear hv
  go_enter Tryz.func39, Tryz.ntmps39
  go_wp2_with fail; refine HV.mono ?_; rintro e w1 ⟨rfl, hb1⟩; have HB1 : Hid (Below w.heap.size w w1) := hb1; have HT := l2vars_any p cs.length cap cs w1 rfl (by omega) (HI.out.below hb1); clear hb1 HV; go_wp2_with fail; refine HT.mono ?_; rintro e w2 ⟨q, m, c2, rfl, ho, hb2⟩; have HB2 : Hid (Below w.heap.size w w2) := Below.on HB1.out hb2
  have hmm : m ≤ 100000 := by have := ho.1; have := visits_len cs []; simp at this; omega
  have HRN := l2renumber_any p cs.length cap cs q m c2 (visits [] cs) w2 rfl hl (HI.out.below HB2.out) ho.1 hmm ho.iin; clear ho hb2 HT; go_wp2_with fail; refine HRN.mono ?_; rintro e w3 ⟨q3, m3, c3, rfl, ho3, hb3⟩
  have HO3 : Hid (OwnC w3 w.heap.size q3 m3 c3 (renCells cs)) := by rw [← ren_same]; exact ho3.mono HB2.out.size
  have HB3 : Hid (Below w.heap.size w w3) := Below.on HB2.out hb3; clear ho3 hb3 HRN; go_wp2_with fail; go_ret; exact ⟨_, _, _, rfl, HO3.out, HB3.out⟩
 ·have hv' : validB cs = false := by simpa using hv
  rw [if_neg hv]; rw [hv'] at HV; clear hv hv'
  go_enter Tryz.func39, Tryz.ntmps39
  go_wp2_with (go_at_call 36; refine HV.mono ?_; rintro e w1 ⟨rfl, hb1⟩); go_ret; exact ⟨_, _, _, rfl, OwnC.nil _ _, hb1⟩
end
section
open Go Go.RowKit
theorem same_any (xs ys : List Cel) (p q : Option Addr) (c1 c2 n : Nat) (w : World) (hn : n = xs.length) (hm : n = ys.length) (hl : n ≤ 1000000) (h0 : 0 < n) (hx : CIn w p xs) (hy : CIn w q ys) (hbx : ∀ c ∈ xs, Byte c.2.2) (hby : ∀ c ∈ ys, Byte c.2.2) :
  Calls Tryz.prog 38 #[.slice p n c1, .slice q n c2] w fun e w' => e = .returned (.bool (decide (xs = ys))) ∧ Below w.heap.size w w' := by
 have HC := l2compare_any xs ys p q n n c1 c2 w hn hm (by omega) (by omega) hx hy
 have HR : Hid (decide (xs = ys) = (cmpC xs ys == 0)) := by
  show _ = _
  rw [Bool.eq_iff_iff]
  simp [cmpC_zero xs ys (by rw [← hn, ← hm]) hbx hby]
 rw [HR.out]
 generalize cmpC xs ys = R at HC ⊢
 clear hn hm hx hy hbx hby HR
 have hz : ((n : Int) == 0) = false := by rw [beq_eq_false_iff_ne]; omega
 go_enter Tryz.func38, Tryz.ntmps38
 go_wp2_with fail; refine HC.mono ?_; rintro e w1 ⟨rfl, hb1⟩; have HB : Hid (Below w.heap.size w w1) := hb1; clear HC hb1; go_wp2_with fail; go_ret; exact ⟨rfl, HB.out⟩
end
end Go.Proofs.YtickbkcpcgmlmaaGreatDoor
