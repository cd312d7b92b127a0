/- Texts of ItW, Lay3, CoS, GmA. Own work of the verifier. -/
import Derived.Test.YtbnmmcegjlmdmaaGreatDoorUqbg
import Derived.Test.YtbnmmcegjlmdmaaGreatDoorUqaa
import Derived.Below
import Derived.Test.YtbnmmcegjlmdmaaGreatDoorUqas
import Derived.Test.YtbnmmcegjlmdmaaGreatDoorUqat
import Derived.Test.YtbnmmcegjlmdmaaGreatDoorUqbd
import Derived.Test.YtbnmmcegjlmdmaaGreatDoorUqag
import Derived.Test.YtbnmmcegjlmdmaaGreatDoorUqav
namespace Go.Proofs.YtbnmmcegjlmdmaaGreatDoor
open Go Go.RowKit
set_option linter.unusedVariables false
def ItVW (w : World) (its : List (Cel × Fo)) (us : List Value) : Prop := us.length = its.length ∧ ∀ i (h : i < its.length), ∃ q c, us[i]? = some (.slice q (itC its[i]).length c) ∧ CIn w q (itC its[i]) ∧ (itC its[i]).length ≤ c ∧ c ≤ 9223372036854775807
theorem ItVW.snoc {w : World} {its : List (Cel × Fo)} {us : List Value} (h : ItVW w its us) (x : Cel × Fo) (q : Option Addr) (c : Nat) (hq : CIn w q (itC x)) (hc1 : (itC x).length ≤ c) (hc2 : c ≤ 9223372036854775807) : ItVW w (its ++ [x]) (us ++ [.slice q (itC x).length c]) := by
  refine ⟨by simp [h.1], fun i hi => ?_⟩
  by_cases e : i < its.length
  · obtain ⟨q', c', h1, h2⟩ := h.2 i e
    refine ⟨q', c', ?_, ?_⟩
    · rw [List.getElem?_append_left (by rw [h.1]; exact e), h1, List.getElem_append_left e]
    · rw [List.getElem_append_left e]; exact h2
  · have e' : i = its.length := by simp at hi; omega
    subst e'
    refine ⟨q, c, ?_, ?_⟩
    · rw [List.getElem?_append_right (by rw [h.1]; exact Nat.le_refl _), h.1]; simp
    · simp only [List.getElem_append_right (Nat.le_refl _), Nat.sub_self, List.getElem_cons_zero]; exact ⟨hq, hc1, hc2⟩
def L2OutW (w : World) (c : Cel) (k : Fo) (e : Ending) (w' : World) : Prop :=
  ∃ p n cp q m cq us, e = .returned (.tuple #[.slice p n cp, .slice q m cq]) ∧ n = (splitF c k).1.length ∧ m = (itC (splitF c k).2).length ∧ w'.ownsRow w.heap.size 24 1 (.slice p n cp) n us ∧ ItVW w (splitF c k).1 us ∧ CIn w q (itC (splitF c k).2) ∧ (m ≤ cq ∧ cq ≤ 9223372036854775807) ∧
    (itsF (splitF c k).1).ok ∧ (Fo.node (splitF c k).2.1 (splitF c k).2.2 .nil).ok ∧ Below w.heap.size w w'
set_option maxRecDepth 100000 in
set_option maxHeartbeats 1000000 in
theorem l2itemsW (c : Cel) (k : Fo) (p : Option Addr) (n cap : Nat) (w : World) (hok : (Fo.node c k .nil).ok) (hn : n = k.cells.length + 1) (hl : n ≤ 2000) (hc : n ≤ cap) (hm : cap ≤ 9223372036854775807) (hin : CIn w p (c :: k.cells)) :
    Calls Tryz.prog 37 #[.slice p n cap] w (L2OutW w c k) := by
  have HIN : Hid (CIn w p (c :: k.cells)) := hin
  have HOK : Hid (Fo.node c k .nil).ok := hok
  have HN : Hid (n = k.cells.length + 1) := hn
  clear hin hok hn
  obtain ⟨i0, hi, hz0, hz1, hz2⟩ := info_parts infoCells
  go_enter Tryz.func37, Tryz.ntmps37
  go_wp2_with fail
  go_loopw [0, 4] (fun t s wr => ∃ (its : List (Cel × Fo)) (c' : Cel) (k' : Fo) (us : List Value) (p' : Option Addr) (n' cap' : Nat) (p4 : Option Addr) (n4 c4 : Nat), n' ≤ 2000 ∧ n4 ≤ 2000 ∧ n4 + n' ≤ 2000 ∧ n' ≤ cap' ∧ cap' ≤ 9223372036854775807 ∧ t = .slice p' n' cap' ∧ s = .slice p4 n4 c4 ∧ Hid (splitF c k = (its ++ (splitF c' k').1, (splitF c' k').2) ∧ n4 = its.length ∧ n' = k'.cells.length + 1) ∧
    Hid (CIn w p' (c' :: k'.cells)) ∧ Hid ((Fo.node c' k' .nil).ok ∧ (itsF its).ok) ∧ Hid (ItVW w its us) ∧ Hid (wr.ownsRow w.heap.size 24 1 (.slice p4 n4 c4) n4 us) ∧ Hid (Below w.heap.size w wr)) (fun t _ _ => lenOf t)
  case atStart => exact ⟨[], c, k, [], p, n, cap, none, 0, 0, hl, by decide, by omega, hc, hm, rfl, rfl, ⟨rfl, rfl, HN.out⟩, HIN, ⟨HOK.out, trivial⟩, ⟨rfl, fun i h => by simp at h⟩, World.ownsRow_nil _ _ _ _, Below.refl _ _⟩
  case round =>
    obtain ⟨its, c', k', us, p', n', cap', p4, n4, c4, hn', hn4, hsum, hcap', hcm', rfl, rfl, HF, HC, HO, HI, HR, HB⟩ := hrel
    have HDOT := isDot_any c' k'.cells p' n' cap' wr HO.out.1.2.1 HF.out.2.2 (HC.out.below HB.out)
    by_cases hd : c' = dot
    · have hdt : decide (c' = dot) = true := by simpa using hd
      rw [hdt] at HDOT
      clear hdt
      have hcn := HO.out.1.2.2.1 (by rw [hd]; rfl)
      have hc2 : c'.2.1 = 2 := by rw [hd]; rfl
      obtain ⟨c1, k1, c2, k2, rfl⟩ := two_of (k := k') (by omega)
      clear hc2
      have hokk := HO.out.1.2.2.2.2.1
      have hlen : n' = (k1.cells.length + 1) + (k2.cells.length + 1) + 1 := by have := HF.out.2.2; simp [Fo.cells] at this; omega
      have HNX := next_any (c' :: (Fo.node c1 k1 (.node c2 k2 .nil)).cells) p' n' cap' 1 c1 k1 (c2 :: k2.cells) wr (by have := HF.out.2.2; simp; omega) hn' ⟨hokk.1, hokk.2.1, hokk.2.2.1, hokk.2.2.2.1, hokk.2.2.2.2.1, trivial⟩ (by simp [Fo.cells]) (HC.out.below HB.out)
      obtain ⟨b, o, rfl, hcells⟩ := HC.out (by simp)
      have hC1 : CIn w (some ⟨b, o + 3, none⟩) (itC (c1, k1)) := by
        have := CIn.partI (a := [c']) (m := itC (c1, k1)) (r := c2 :: k2.cells) HC.out (by simp [Fo.cells, itC])
        simpa using this
      have hC2 : CIn w (some ⟨b, o + (1 + 1 + k1.cells.length) * 3, none⟩) (c2 :: k2.cells) := by
        have := CIn.partI (a := c' :: itC (c1, k1)) (m := c2 :: k2.cells) (r := []) HC.out (by simp [Fo.cells, itC])
        simp only [itC, List.length_cons] at this
        rwa [show k1.cells.length + 1 + 1 = 1 + 1 + k1.cells.length by omega] at this
      obtain ⟨en, een⟩ : ∃ en, en = 1 + 1 + k1.cells.length := ⟨_, rfl⟩
      rw [← een] at HNX hC2
      have hen : en + (k2.cells.length + 1) = n' := by omega
      have HNEXT : Hid (splitF c k = ((its ++ [(c1, k1)]) ++ (splitF c2 k2).1, (splitF c2 k2).2) ∧ n4 + 1 = (its ++ [(c1, k1)]).length ∧ n' - en = k2.cells.length + 1 ∧ (itC (c1, k1)).length = en - 1) := ⟨by rw [HF.out.1, hd, splitF_dot]; simp, by simp [HF.out.2.1], by omega, by simp [itC]; omega⟩
      have HOK2 : Hid ((Fo.node c2 k2 .nil).ok ∧ (itsF (its ++ [(c1, k1)])).ok) := ⟨hokk.2.2.2.2.2, by rw [itsF_snoc, Fo.ok_cat]; exact ⟨HO.out.2, hokk.1, hokk.2.1, hokk.2.2.1, hokk.2.2.2.1, hokk.2.2.2.2.1, trivial⟩⟩
      have HITV : Hid (ItVW w (its ++ [(c1, k1)]) (us ++ [.slice (some ⟨b, o + 3, none⟩) (en - 1) (cap' - 1)])) := by
        have := HI.out.snoc (c1, k1) (some ⟨b, o + 3, none⟩) (cap' - 1) hC1 (by rw [HNEXT.out.2.2.2]; omega) (by omega)
        rwa [HNEXT.out.2.2.2] at this
      have HC2 : Hid (CIn w (some ⟨b, o + en * 3, none⟩) (c2 :: k2.cells)) := hC2
      have q1 : ¬ cap' = 1 := by omega
      have q2 : ¬ cap' = en := by omega
      have q3 : (1 : Int) ≤ en := by omega
      have q4 : (en : Int) ≤ n' := by omega
      have q5 : (en : Int) ≤ cap' := by omega
      have q6 : n' - en < n' := by omega
      have q7 : n' - en ≤ cap' - en := by omega
      have q8 : 1 ≤ en := by omega
      have HRW : Hid (wr.ownsRow w.heap.size 24 1 (.slice p4 n4 c4) n4 us) := HR.out
      have hBs : w.heap.size ≤ wr.heap.size := HB.out.size
      have hlt : n4 + 1 ≤ 2000 := by omega
      clear hcells hC1 hC2 hokk hcn HF HC HO HI HR hd een hen hlen
      go_wp2_with fail
      refine HDOT.mono ?_
      rintro e w2 ⟨rfl, hw2⟩
      subst hw2
      go_wp2_with fail
      refine HNX.mono ?_
      rintro e w3 ⟨rfl, hw3⟩
      subst hw3
      go_wp2_with (at_builtin; refine wpList_append_lies _ rfl _ _ 41 rfl w.heap.size 24 i0 (.slice none 0 0) 1 24 Tryz.underlying41 hi hz0 hz1 hz2 rfl (by decide) (.slice p4 n4 c4) n4 us rfl (HRW.out.alloc _) ⟨w3.heap.size, 0, none⟩ 1 1 [.slice (some ⟨b, o + 3, none⟩) (en - 1) (cap' - 1)] rfl rfl (cell_one_new _ _ _) (one_slice _ _ _) (by decide) (by unfold maxLen; omega) (by omega) (by simp; omega) _ rfl ?_; intro g5 cap5 w5 hown5 hgrow5 hat5 hlt5)
      have HO5 : Hid (w5.ownsRow w.heap.size 24 1 (.slice (some ⟨g5, 0, none⟩) (n4 + 1) cap5) (n4 + 1) (us ++ [.slice (some ⟨b, o + 3, none⟩) (en - 1) (cap' - 1)])) := hown5
      have HB5 : Hid (Below w.heap.size w w5) := (HB.out.alloc hBs _).trans ((Below.refl _ _).grown hgrow5 (by simp; omega) (fun k hk => (HRW.out.lt k hk).1))
      clear hown5 hgrow5 hat5
      go_roundw
      case rel => exact ⟨its ++ [(c1, k1)], c2, k2, _, _, n' - en, cap' - en, _, n4 + 1, cap5, by omega, by omega, by omega, by omega, by omega, rfl, rfl, ⟨HNEXT.out.1, HNEXT.out.2.1, HNEXT.out.2.2.1⟩, HC2, HOK2, HITV, HO5, HB5⟩
      case measure => simp [lenOf]; omega
    · have hdf : decide (c' = dot) = false := by simpa using hd
      rw [hdf] at HDOT
      have HL : Hid (L2OutW w c k (.returned (.tuple #[.slice p4 n4 c4, .slice p' n' cap'])) wr) := by
        have h1 := HF.out.1
        rw [splitF_other c' k' hd, List.append_nil] at h1
        refine ⟨p4, n4, c4, p', n', cap', us, rfl, by rw [h1]; exact HF.out.2.1, by rw [h1]; simp [itC]; exact HF.out.2.2, HR.out, by rw [h1]; exact HI.out, by rw [h1]; exact HC.out, ⟨hcap', hcm'⟩, by rw [h1]; exact HO.out.2, by rw [h1]; exact HO.out.1, HB.out⟩
      clear hdf hd HF HC HO HI HR
      go_wp2_with fail
      refine HDOT.mono ?_
      rintro e w2 ⟨rfl, rfl⟩
      go_wp2_with fail
      go_ret2
      exact HL.out
end Go.Proofs.YtbnmmcegjlmdmaaGreatDoor

namespace Go.Proofs.YtbnmmcegjlmdmaaGreatDoor
open Go Go.RowKit
set_option linter.unusedVariables false
end Go.Proofs.YtbnmmcegjlmdmaaGreatDoor

namespace Go.Proofs.YtbnmmcegjlmdmaaGreatDoor
open Go Go.RowKit
set_option linter.unusedVariables false
theorem own_one {w : World} {B g tn tc : Nat} {k n : Int} {tp : Option Addr} {s : List Int} (hg : w.heap[g]? = some (.cells #[.int .i64 k, .int .i64 n, .slice tp tn tc] 43)) (hB : B ≤ g) (ht : OwnT w B tp tn tc s) (hne : ∀ a, tp = some a → a.block ≠ g) : OwnC w B (some ⟨g, 0, none⟩) 1 1 [(k, n, s)] := by
  refine ⟨rfl, [(k, n, tp, tn, tc)], rfl, ⟨rfl, .inr ⟨g, 1, _, rfl, hB, hg, Nat.le_refl _, by decide, rfl, rfl⟩⟩, fun i hi => ?_, ?_⟩
  · obtain rfl : i = 0 := by simp at hi; omega
    exact ⟨rfl, rfl, ht⟩
  · refine ⟨fun i hi h => ?_, fun i j hi hj h => ?_⟩
    · obtain rfl : i = 0 := by simp at hi; omega
      exact fun e => hne _ e rfl
    · simp at hi hj
      omega
def RowsIn (w : World) (g : Nat) (dss : List (List Cel)) : Prop := ∀ j, j < dss.length → ∃ q c, w.cell? ⟨g, j, none⟩ = some (.slice q (dss.getD j []).length c) ∧ CIn w q (dss.getD j []) ∧ 0 < (dss.getD j []).length ∧ (dss.getD j []).length + tl (dss.getD j []) ≤ 100000
theorem RowsIn.below {w w' : World} {g : Nat} {dss : List (List Cel)} (h : RowsIn w g dss) (hb : Below w.heap.size w w') : RowsIn w' g dss := fun j hj => by
  obtain ⟨q, c, h1, h2, h3⟩ := h j hj
  exact ⟨q, c, (hb.cell (World.block_lt_of_cell? _ _ h1)).trans h1, h2.below hb, h3⟩
end Go.Proofs.YtbnmmcegjlmdmaaGreatDoor

namespace Go.Proofs.YtbnmmcegjlmdmaaGreatDoor
open Go Go.RowKit
set_option linter.unusedVariables false
theorem grown_trans {w w1 w2 : World} {g : Nat} (h : w.grownBy w1 (some g)) (k : w1.grownBy w2 (some g)) : w.grownBy w2 (some g) := ⟨k.os.trans h.os, k.tape.trans h.tape, k.output.trans h.output, Nat.le_trans h.size k.size, fun x hx hn => (k.block x (Nat.lt_of_lt_of_le hx h.size) hn).trans (h.block x hx hn)⟩
theorem grown_refl (w : World) (g : Nat) : w.grownBy w (some g) := ⟨rfl, rfl, rfl, Nat.le_refl _, fun _ _ _ => rfl⟩
theorem grownM_below {w w' : World} (g : Nat) (h : Below w.heap.size w w') : w.grownBy w' (some g) := ⟨h.os, h.tape, h.output, h.size, fun k hk _ => h.block k hk⟩
theorem grown_cell (w : World) (g o : Nat) (v : Value) : w.grownBy (w.setCell ⟨g, o, none⟩ v) (some g) := ⟨rfl, rfl, rfl, by simp, fun k hk hne => Below.heap_setCell _ _ _ _ (fun e => hne (by rw [e]))⟩
def CK (w : World) (gb : Nat) (p : Option Addr) (cs : List Cel) : Prop := ∀ W, w.grownBy W (some gb) → CIn W p cs
theorem CK.cin {w : World} {gb : Nat} {p : Option Addr} {cs : List Cel} (h : CK w gb p cs) : CIn w p cs := h w (grown_refl _ _)
theorem CK.move {w w' : World} {gb : Nat} {p : Option Addr} {cs : List Cel} (h : CK w gb p cs) (hg : w.grownBy w' (some gb)) : CK w' gb p cs := fun W hW => h W (grown_trans hg hW)
theorem OwnC.ck {w : World} {gb B n c : Nat} {p : Option Addr} {cs : List Cel} (h : OwnC w B p n c cs) (hg : gb < B) : CK w gb p cs := fun W hW => by
  obtain ⟨rfl, rs, hl, hr, hf, ha⟩ := h
  refine OwnC.cin (B := B) (n := cs.length) (c := c) ⟨rfl, rs, hl, ⟨hr.1, ?_⟩, fun i hi => ⟨(hf i hi).1, (hf i hi).2.1, (hf i hi).2.2.other hW.size (fun g hn e => ?_)⟩, ha⟩
  · rcases hr.2 with h' | ⟨g, cap, cur, hv, hB, hg', r⟩
    · exact .inl h'
    · exact .inr ⟨g, cap, cur, hv, hB, (hW.block g (Array.getElem?_eq_some_iff.1 hg').1 (fun e => by have := Option.some.inj e; omega)).trans hg', r⟩
  · obtain ⟨g', e', h1, h2, _⟩ := (hf i hi).2.2.2 hn
    rw [e'] at e
    injection e with e
    injection e with e
    subst e
    exact hW.block _ h2 (fun e => by have := Option.some.inj e; omega)
def TK (w : World) (gb : Nat) (q : Option Addr) (n c : Nat) (t : Tr) : Prop := n = (itC t).length ∧ n ≤ c ∧ c ≤ 9223372036854775807 ∧ CK w gb q (itC t)
theorem TK.move {w w' : World} {gb : Nat} {q : Option Addr} {n c : Nat} {t : Tr} (h : TK w gb q n c t) (hg : w.grownBy w' (some gb)) : TK w' gb q n c t := ⟨h.1, h.2.1, h.2.2.1, h.2.2.2.move hg⟩
theorem OwnC.tk {w : World} {gb B n c : Nat} {p : Option Addr} {cs : List Cel} {t : Tr} (h : OwnC w B p n c cs) (hg : gb < B) (e : cs = itC t) : TK w gb p n c t := by
  subst e
  have hr : n ≤ c ∧ c ≤ maxLen := by
    obtain ⟨_, rs, hl, hr, _⟩ := h
    rcases hr.2 with ⟨e1, e2⟩ | ⟨g, cap, cur, hv, hB, hg', r1, r2, _⟩
    · cases e1; exact ⟨Nat.le_refl _, by decide⟩
    · cases hv; exact ⟨r1, r2⟩
  exact ⟨h.1, hr.1, by have := hr.2; unfold maxLen at this; omega, h.ck hg⟩
structure GMm (w : World) (gb : Nat) (st : GSt) : Prop where
  c0 : w.cell? ⟨gb, 0, none⟩ = some (.int .i64 st.1)
  c1 : w.cell? ⟨gb, 1, none⟩ = some (.int .i64 st.2)
  fr : ∀ o, w.frozen? ⟨gb, o, none⟩ = false
  rng : 0 ≤ st.1 ∧ st.1 ≤ 2000000 ∧ 0 ≤ st.2 ∧ st.2 ≤ 10
theorem GMm.below {w w' : World} {gb : Nat} {st : GSt} (h : GMm w gb st) (hb : Below w.heap.size w w') : GMm w' gb st := by
  have hl : gb < w.heap.size := World.block_lt_of_cell? _ _ h.c0
  exact ⟨(hb.cell (p := ⟨gb, 0, none⟩) hl).trans h.c0, (hb.cell (p := ⟨gb, 1, none⟩) hl).trans h.c1, fun o => (hb.frozen (p := ⟨gb, o, none⟩) hl).trans (h.fr o), h.rng⟩
theorem GMm.next {w : World} {gb : Nat} {st : GSt} (h : GMm w gb st) (hl : st.1 ≤ 1500000) : GMm (w.setCell ⟨gb, 0, none⟩ (.int .i64 (st.1 + 1))) gb (st.1 + 1, st.2) :=
  ⟨World.cell?_setCell_same' _ _ _ (by rw [h.c0]; rfl), (World.cell?_setCell_other _ _ _ _ (by simp)).trans h.c1, fun o => by rw [World.frozen?_setCell]; exact h.fr o, by have := h.rng; simp only; omega⟩
theorem GMm.code {w : World} {gb : Nat} {st : GSt} (h : GMm w gb st) (c : Int) (hc : 0 ≤ c ∧ c ≤ 10) : GMm (w.setCell ⟨gb, 1, none⟩ (.int .i64 c)) gb (st.1, c) :=
  ⟨(World.cell?_setCell_other _ _ _ _ (by simp)).trans h.c0, World.cell?_setCell_same' _ _ _ (by rw [h.c1]; rfl), fun o => by rw [World.frozen?_setCell]; exact h.fr o, by have := h.rng; simp only; omega⟩
def GOutM (w : World) (gb : Nat) (x : Tr × GSt) (e : Ending) (w' : World) : Prop := ∃ q m c, e = .returned (.slice q m c) ∧ TK w' gb q m c x.1 ∧ GMm w' gb x.2 ∧ w.grownBy w' (some gb)
abbrev nilT : Tr := (nilC, .nil)
theorem nilT_ok : okG nilT.fo ∧ (itC nilT).length = 1 := ⟨⟨.inr (.inr (.inl ⟨rfl, by decide, rfl⟩)), byte_small (by decide), fun h => absurd (show (2 : Int) = 3 from h) (by decide), fun _ => rfl, trivial, trivial⟩, rfl⟩
theorem own_leafG (w : World) (k n : Int) : OwnC (w.alloc (Obj.cells #[Value.int IntKind.i64 k, Value.int IntKind.i64 n, Value.slice none 0 0] 43)) w.heap.size (some ⟨w.heap.size, 0, none⟩) 1 1 [(k, n, [])] :=
  own_one (heap_alloc_new w _) (Nat.le_refl _) ⟨rfl, fun h => absurd h (by decide)⟩ (fun a h => by cases h)
theorem l2varG_any (n : Int) (w : World) : Calls Tryz.prog 34 #[.int .i64 n] w fun e w' => e = .returned (.slice (some ⟨w.heap.size, 0, none⟩) 1 1) ∧ OwnC w' w.heap.size (some ⟨w.heap.size, 0, none⟩) 1 1 [(0, n, [])] ∧ Below w.heap.size w w' := by
  have HX : Hid _ := own_leafG w 0 n
  go_enter Tryz.func34, Tryz.ntmps34
  go_wp2_with fail
  go_ret
  exact ⟨rfl, HX.out, (Below.refl _ _).alloc (Nat.le_refl _) _⟩
theorem l2atomG_any (s : List Int) (hs : Byte s) (w : World) : Calls Tryz.prog 51 #[.string (strOfNums s)] w fun e w' => ∃ p, e = .returned (.slice p 1 1) ∧ OwnC w' w.heap.size p 1 1 [(2, 0, s)] ∧ Below w.heap.size w w' := by
  obtain ⟨w1, cap1, hcv, hb1, ht⟩ := conv_bytes w s hs 9 Tryz.underlying9
  obtain ⟨l, el⟩ : ∃ l, l = s.length := ⟨_, rfl⟩
  rw [← el] at hcv ht
  have hb : Below w1.heap.size w1 (w1.alloc (Obj.cells #[Value.int IntKind.i64 2, Value.int IntKind.i64 0, Value.slice (some ⟨w.heap.size, 0, none⟩) l cap1] 43)) := (Below.refl _ _).alloc (Nat.le_refl _) _
  have hlt : 0 < l → w.heap.size < w1.heap.size := fun h0 => by
    obtain ⟨g, e, _, h2, _⟩ := ht.2 h0
    injection e with e
    injection e with e
    omega
  have HX : Hid (OwnC (w1.alloc (Obj.cells #[Value.int IntKind.i64 2, Value.int IntKind.i64 0, Value.slice (some ⟨w.heap.size, 0, none⟩) l cap1] 43)) w.heap.size (some ⟨w1.heap.size, 0, none⟩) 1 1 [(2, 0, s)]) := by
    by_cases h0 : 0 < l
    · exact own_one (heap_alloc_new w1 _) hb1.size (ht.below hb) (fun a h => by injection h with h; rw [← h]; have := hlt h0; show w.heap.size ≠ w1.heap.size; omega)
    · by_cases h1 : w.heap.size = w1.heap.size
      · have hs0 : s = [] := List.eq_nil_of_length_eq_zero (by omega)
        have hl0 : l = 0 := by omega
        refine ⟨rfl, [(2, 0, some ⟨w.heap.size, 0, none⟩, l, cap1)], rfl, ⟨rfl, .inr ⟨w1.heap.size, 1, _, rfl, hb1.size, heap_alloc_new w1 _, Nat.le_refl _, by decide, rfl, rfl⟩⟩, fun i hi => ?_, ?_⟩
        · obtain rfl : i = 0 := by simp at hi; omega
          exact ⟨rfl, rfl, ht.below hb⟩
        · refine ⟨fun i hi h => ?_, fun i j hi hj h => ?_⟩
          · obtain rfl : i = 0 := by simp at hi; omega
            exact absurd h (by simp [hl0])
          · simp at hi hj; omega
      · exact own_one (heap_alloc_new w1 _) hb1.size (ht.below hb) (fun a h => by injection h with h; rw [← h]; show w.heap.size ≠ w1.heap.size; exact h1)
  have HB : Hid (Below w.heap.size w (w1.alloc (Obj.cells #[Value.int IntKind.i64 2, Value.int IntKind.i64 0, Value.slice (some ⟨w.heap.size, 0, none⟩) l cap1] 43))) := Below.on hb1 hb
  clear hb1 ht hb el hlt
  go_enter Tryz.func51, Tryz.ntmps51
  go_wp2_with fail
  go_ret
  exact ⟨_, rfl, HX.out, HB.out⟩
set_option maxRecDepth 100000 in
theorem l8new_any (gb : Nat) (st : GSt) (w : World) (h : GMm w gb st) (hl : st.1 ≤ 1500000) : Calls Tryz.prog 16 #[.pointer (some ⟨gb, 0, none⟩)] w (GOutM w gb (vT st.1, (st.1 + 1, st.2))) := by
  have c0 := h.c0
  have f0 := h.fr 0
  have hr := h.rng
  have HN : Hid _ := h.next hl
  have hlt : gb < w.heap.size := World.block_lt_of_cell? _ _ h.c0
  have d0 := HN.out.c0
  have HV := l2varG_any st.1 (w.setCell ⟨gb, 0, none⟩ (.int .i64 (st.1 + 1)))
  have HF : Hid (∀ q w', OwnC w' (w.setCell ⟨gb, 0, none⟩ (.int .i64 (st.1 + 1))).heap.size q 1 1 [(0, st.1, [])] → Below (w.setCell ⟨gb, 0, none⟩ (.int .i64 (st.1 + 1))).heap.size (w.setCell ⟨gb, 0, none⟩ (.int .i64 (st.1 + 1))) w' → GOutM w gb (vT st.1, (st.1 + 1, st.2)) (.returned (.slice q 1 1)) w') := fun q w' ho hb =>
    ⟨q, 1, 1, rfl, ho.tk (by simpa using hlt) rfl, HN.out.below hb, grown_trans (grown_cell w gb 0 _) (grownM_below gb hb)⟩
  simp only at d0
  have e0 : (st.1 + 1 - 1) = st.1 := by omega
  obtain ⟨x, ex⟩ : ∃ x, x = st.1 := ⟨_, rfl⟩
  obtain ⟨P, eP⟩ : ∃ P, P = GOutM w gb (vT st.1, (st.1 + 1, st.2)) := ⟨_, rfl⟩
  rw [← eP] at HF ⊢
  rw [← ex] at c0 d0 HV HF e0 hr hl
  clear h HN ex eP
  go_enter Tryz.func16, Tryz.ntmps16
  go_wp2_with fail
  refine HV.mono ?_
  rintro e w1 ⟨rfl, ho, hb⟩
  have HG : Hid _ := HF.out _ _ ho hb
  clear ho hb HV HF
  go_wp2_with fail
  simpa using HG.out
set_option maxRecDepth 100000 in
theorem l8fault_any (gb : Nat) (st : GSt) (c : Int) (hc : 0 ≤ c ∧ c ≤ 10) (w : World) (h : GMm w gb st) : Calls Tryz.prog 35 #[.pointer (some ⟨gb, 0, none⟩), .int .i64 c] w (GOutM w gb (nilT, flt c st)) := by
  have c1 := h.c1
  have f1 := h.fr 1
  have hr := h.rng
  have hlt : gb < w.heap.size := World.block_lt_of_cell? _ _ h.c0
  have eS : strOfNums [91, 93] = ⟨#[91, 93]⟩ := rfl
  have HA : Hid (∀ W, Calls Tryz.prog 51 #[.string ⟨#[91, 93]⟩] W fun e w' => ∃ p, e = .returned (.slice p 1 1) ∧ OwnC w' W.heap.size p 1 1 [(2, 0, [91, 93])] ∧ Below W.heap.size W w') := fun W => by
    have := l2atomG_any [91, 93] (byte_small (by decide)) W
    rw [eS] at this; exact this
  by_cases h0 : st.2 = 0
  · have HF : Hid (∀ q w', OwnC w' (w.setCell ⟨gb, 1, none⟩ (.int .i64 c)).heap.size q 1 1 [(2, 0, [91, 93])] → Below (w.setCell ⟨gb, 1, none⟩ (.int .i64 c)).heap.size (w.setCell ⟨gb, 1, none⟩ (.int .i64 c)) w' → GOutM w gb (nilT, flt c st) (.returned (.slice q 1 1)) w') := fun q w' ho hb =>
      ⟨q, 1, 1, rfl, ho.tk (by simpa using hlt) rfl, by show GMm w' gb (flt c st); unfold flt; rw [if_pos h0]; exact (h.code c hc).below hb, grown_trans (grown_cell w gb 1 _) (grownM_below gb hb)⟩
    rw [h0] at c1
    obtain ⟨P, eP⟩ : ∃ P, P = GOutM w gb (nilT, flt c st) := ⟨_, rfl⟩
    rw [← eP] at HF ⊢
    clear h h0 eP eS hr
    go_enter Tryz.func35, Tryz.ntmps35
    go_wp2_with fail
    refine (HA.out _).mono ?_
    rintro e w1 ⟨q, rfl, ho, hb⟩
    have HG : Hid _ := HF.out _ _ ho hb
    clear ho hb HF
    go_wp2_with fail
    exact HG.out
  · have HF : Hid (∀ q w', OwnC w' w.heap.size q 1 1 [(2, 0, [91, 93])] → Below w.heap.size w w' → GOutM w gb (nilT, flt c st) (.returned (.slice q 1 1)) w') := fun q w' ho hb =>
      ⟨q, 1, 1, rfl, ho.tk hlt rfl, by show GMm w' gb (flt c st); rw [flt_keep h0]; exact h.below hb, grownM_below gb hb⟩
    obtain ⟨P, eP⟩ : ∃ P, P = GOutM w gb (nilT, flt c st) := ⟨_, rfl⟩
    rw [← eP] at HF ⊢
    obtain ⟨x, ex⟩ : ∃ x, x = st.2 := ⟨_, rfl⟩
    rw [← ex] at c1 h0 hr
    have h0b : (x == 0) = false := by simpa using h0
    clear h eP eS ex
    go_enter Tryz.func35, Tryz.ntmps35
    go_wp2_with fail
    refine (HA.out _).mono ?_
    rintro e w1 ⟨q, rfl, ho, hb⟩
    have HG : Hid _ := HF.out _ _ ho hb
    clear ho hb HF
    go_wp2_with fail
    exact HG.out
end Go.Proofs.YtbnmmcegjlmdmaaGreatDoor

