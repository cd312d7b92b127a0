/- splitList. Own work of the verifier. -/
import Derived.Test.YtopdhjnpcpkmlaaRen2
import Derived.Test.YtopdhjnpcpkmlaaSS1
namespace Go.Proofs.Ytopdhjnpcpkmlaa
open Go Go.RowKit
set_option linter.unusedVariables false

theorem u8_of {x : Int} (h0 : 0 ≤ x) (h1 : x < 256) : ((UInt8.ofNat x.toNat).toNat : Int) = x := by
  simp only [UInt8.toNat_ofNat']; omega
theorem str_list {xs : List Int} : (strOfNums xs).toList = xs.map fun n => UInt8.ofNat n.toNat := by
  rw [ByteArray.toList_eq]; rfl
theorem map_back : ∀ {xs : List Int}, Byte xs → (xs.map fun n => UInt8.ofNat n.toNat).map (fun u => (u.toNat : Int)) = xs
  | [], _ => rfl
  | x :: r, h => by
    have hx := h x (List.mem_cons_self ..)
    simp only [List.map_cons]
    rw [u8_of hx.1 hx.2, map_back (fun y hy => h y (List.mem_cons_of_mem _ hy))]
theorem map_forth (l : List UInt8) : ((l.map (fun u => (u.toNat : Int))).map fun n => UInt8.ofNat n.toNat) = l := by
  induction l with
  | nil => rfl
  | cons a r ih => simp only [List.map_cons, ih]; simp
theorem str_eq {xs : List Int} (hb : Byte xs) (l : List UInt8) : (strOfNums xs).toList = l ↔ xs = l.map (fun u => (u.toNat : Int)) := by
  rw [str_list]
  constructor
  · intro h; rw [← h, map_back hb]
  · intro h; rw [h, map_forth]

set_option maxRecDepth 100000 in
theorem functor_any (b g q : Nat) (str : ByteArray) (w : World) (h0 : w.cell? ⟨b, 0, none⟩ = some (.string str)) (h1 : w.cell? ⟨b, 1, none⟩ = some (.slice (some ⟨g, 0, none⟩) q q)) :
    Calls Try.prog 73 #[.pointer (some ⟨b, 0, none⟩)] w fun e w' => e = .returned (.agg #[.string str, .int .i64 q]) ∧ Below w.heap.size w w' := by
  have a0 : ∀ x, (w.alloc x).cell? ⟨b, 0, none⟩ = some (.string str) := fun x => Lib.cell?_alloc_marked x h0
  have a1 : ∀ x, (w.alloc x).cell? ⟨b, 1, none⟩ = some (.slice (some ⟨g, 0, none⟩) q q) := fun x => Lib.cell?_alloc_marked x h1
  go_enter Try.func73, Try.ntmps73
  go_wp2_with fail
  go_region
  all_goals go_wp2_with fail
  all_goals exact bodyPost_ret (v := .agg #[.string str, .int .i64 q]) (by simp [results, Try.results73, go_sem]) rfl ⟨rfl, ((Below.refl _ _).alloc (Nat.le_refl _) _).drew⟩

/-- The cell of a pair of a list. -/
def dot : Cel := (3, 2, [46])
/-- The items that a tree begins with as a list, and what stands at its end. -/
def splitF : Cel → Fo → List (Cel × Fo) × (Cel × Fo)
  | c, .node c1 k1 (.node c2 k2 .nil) => if c = dot then ((c1, k1) :: (splitF c2 k2).1, (splitF c2 k2).2) else ([], (c, .node c1 k1 (.node c2 k2 .nil)))
  | c, k => ([], (c, k))
theorem splitF_dot (c1 : Cel) (k1 : Fo) (c2 : Cel) (k2 : Fo) : splitF dot (.node c1 k1 (.node c2 k2 .nil)) = ((c1, k1) :: (splitF c2 k2).1, (splitF c2 k2).2) := by
  rw [splitF, if_pos rfl]
theorem splitF_other (c : Cel) (k : Fo) (h : c ≠ dot) : splitF c k = ([], (c, k)) := by
  unfold splitF
  split
  · rw [if_neg h]
  · rfl
/-- The items as a forest. -/
def itsF : List (Cel × Fo) → Fo
  | [] => .nil
  | x :: r => .node x.1 x.2 (itsF r)
theorem itsF_snoc : ∀ (a : List (Cel × Fo)) (x : Cel × Fo), itsF (a ++ [x]) = (itsF a).cat (.node x.1 x.2 .nil)
  | [], x => rfl
  | y :: r, x => by simp only [List.cons_append, itsF, Fo.cat, itsF_snoc r x]
/-- Two parts. -/
theorem two_of {k : Fo} (h : k.count = 2) : ∃ c1 k1 c2 k2, k = .node c1 k1 (.node c2 k2 .nil) := by
  cases k with
  | nil => simp [Fo.count] at h
  | node c1 k1 r =>
    cases r with
    | nil => simp [Fo.count] at h
    | node c2 k2 r =>
      cases r with
      | nil => exact ⟨c1, k1, c2, k2, rfl⟩
      | node a b d => simp [Fo.count] at h

def lenOf : Value → Nat
  | .slice _ n _ => n
  | _ => 0

theorem one_iface (t : TypeId) (x : Value) : ∀ u ∈ [Value.iface t x], u.oneCell' = true := fun u hu => by simp at hu; rw [hu]; rfl
/-- What splitList answers. -/
def SplitOut (w0 : World) (Bt : Nat) (w : World) (c : Cel) (k : Fo) (e : Ending) (w' : World) : Prop :=
  ∃ p n cp v vs, e = .returned (.tuple #[.slice p n cp, v]) ∧ n = (splitF c k).1.length ∧ w'.ownsRow w.heap.size 59 1 (.slice p n cp) n vs ∧ FoIn w0 Bt (itsF (splitF c k).1) vs ∧ FoIn w0 Bt (.node (splitF c k).2.1 (splitF c k).2.2 .nil) [v] ∧
    (itsF (splitF c k).1).ok ∧ (Fo.node (splitF c k).2.1 (splitF c k).2.2 .nil).ok ∧ Below w.heap.size w w'

set_option maxRecDepth 100000 in
set_option maxHeartbeats 2000000 in
theorem splitList_any (c : Cel) (k : Fo) (v : Value) (Bt : Nat) (w0 w : World) (hok : (Fo.node c k .nil).ok) (hfo : FoIn w0 Bt (.node c k .nil) [v]) (hw : Below w0.heap.size w0 w) (hl : k.cells.length ≤ 10000) :
    Calls Try.prog 55 #[v] w (SplitOut w0 Bt w c k) := by
  obtain ⟨vt0, vx0, rfl⟩ := hfo.iface
  have HFO : Hid (FoIn w0 Bt (.node c k .nil) [.iface vt0 vx0]) := hfo
  have HOK : Hid (Fo.node c k .nil).ok := hok
  have HW : Hid (Below w0.heap.size w0 w) := hw
  have hws := hw.size
  clear hfo hok hw
  go_enter Try.func55, Try.ntmps55
  go_wp2_with fail
  go_loopw [0, 4] (fun t s wr => ∃ (its : List (Cel × Fo)) (c' : Cel) (k' : Fo) (vt : TypeId) (vx : Value) (vs : List Value) (p4 : Option Addr) (n4 c4 : Nat), n4 + k'.cells.length ≤ 10000 ∧ t = .iface vt vx ∧ s = .slice p4 n4 c4 ∧ Hid (splitF c k = (its ++ (splitF c' k').1, (splitF c' k').2) ∧ n4 = its.length) ∧
    Hid (FoIn w0 Bt (.node c' k' .nil) [.iface vt vx]) ∧ Hid ((Fo.node c' k' .nil).ok ∧ (itsF its).ok) ∧ Hid (FoIn w0 Bt (itsF its) vs) ∧ Hid (wr.ownsRow w.heap.size 59 1 (.slice p4 n4 c4) n4 vs) ∧ Hid (Below w.heap.size w wr)) (fun _ s _ => 10001 - lenOf s)
  case atStart => exact ⟨[], c, k, vt0, vx0, [], none, 0, 0, by omega, rfl, rfl, ⟨rfl, rfl⟩, HFO, ⟨HOK.out, trivial⟩, rfl, World.ownsRow_nil _ _ _ _, Below.refl _ _⟩
  case round =>
    obtain ⟨its, c', k', vt, vx, vs, p4, n4, c4, hn4, rfl, rfl, HF, HT, HO, HI, HR, HB⟩ := hrel
    have stop : ∀ W, Below wr.heap.size wr W → splitF c' k' = ([], (c', k')) → SplitOut w0 Bt w c k (.returned (.tuple #[.slice p4 n4 c4, .iface vt vx])) W := fun W hW h => by
      have h1 := HF.out.1
      rw [h, List.append_nil] at h1
      refine ⟨p4, n4, c4, _, vs, rfl, by rw [h1]; exact HF.out.2, row_below HR.out hW, by rw [h1]; exact HI.out, by rw [h1]; exact HT.out, by rw [h1]; exact HO.out.2, by rw [h1]; exact HO.out.1, Below.on HB.out hW⟩
    have STOP : Hid _ := stop
    clear stop
    obtain ⟨v', vr, e, hnode, _⟩ := HT.out
    obtain ⟨rfl, rfl⟩ := List.cons.inj e
    clear e
    have leaf : ∀ c0, c'.1 = c0 → c0 ≠ 3 → splitF c' k' = ([], (c', k')) := fun c0 h1 h2 => splitF_other _ _ (fun e => h2 (by rw [← h1, e]; rfl))
    rcases hnode with ⟨h0, hv⟩ | ⟨h0, hv⟩ | ⟨h0, hv⟩ | ⟨h0, b, g, kv, hv, hcomp⟩
    · obtain ⟨rfl, rfl⟩ : vt = 67 ∧ vx = .int .i64 c'.2.1 := by injection hv with h1 h2; exact ⟨h1, h2⟩
      have HL : Hid _ := STOP.out wr (Below.refl _ _) (leaf 0 h0 (by decide))
      have n1 := noComp_var
      obtain ⟨x, ex⟩ : ∃ x, x = Value.int .i64 c'.2.1 := ⟨_, rfl⟩
      rw [← ex] at HL ⊢
      clear leaf h0 hv ex STOP HT HI HR HO
      go_wp2_with fail
      go_ret2
      exact HL.out
    · obtain ⟨rfl, rfl⟩ : vt = 107 ∧ vx = .int .i64 c'.2.1 := by injection hv with h1 h2; exact ⟨h1, h2⟩
      have HL : Hid _ := STOP.out wr (Below.refl _ _) (leaf 1 h0 (by decide))
      have n1 := noComp_num
      obtain ⟨x, ex⟩ : ∃ x, x = Value.int .i64 c'.2.1 := ⟨_, rfl⟩
      rw [← ex] at HL ⊢
      clear leaf h0 hv ex STOP HT HI HR HO
      go_wp2_with fail
      go_ret2
      exact HL.out
    · obtain ⟨rfl, rfl⟩ : vt = 76 ∧ vx = .string (strOfNums c'.2.2) := by injection hv with h1 h2; exact ⟨h1, h2⟩
      have HL : Hid _ := STOP.out wr (Below.refl _ _) (leaf 2 h0 (by decide))
      have n1 := noComp_atom
      obtain ⟨x, ex⟩ : ∃ x, x = Value.string (strOfNums c'.2.2) := ⟨_, rfl⟩
      rw [← ex] at HL ⊢
      clear leaf h0 hv ex STOP HT HI HR HO
      go_wp2_with fail
      go_ret2
      exact HL.out
    · obtain ⟨rfl, rfl⟩ : vt = 100 ∧ vx = .pointer (some ⟨b, 0, none⟩) := by injection hv with h1 h2; exact ⟨h1, h2⟩
      have n1 := isComp
      have hwr : Below w0.heap.size w0 wr := HW.out.trans (HB.out.mono hws)
      have hkc := FoIn.count _ _ hcomp.2.2.2.2.2.2
      have hcn := HO.out.1.2.2.1 h0
      obtain ⟨q, eq⟩ : ∃ q, q = kv.length := ⟨_, rfl⟩
      have d0 := (hwr.cell (World.block_lt_of_cell? _ _ hcomp.2.2.1)).trans hcomp.2.2.1
      have d1 := (hwr.cell (World.block_lt_of_cell? _ _ hcomp.2.2.2.1)).trans hcomp.2.2.2.1
      rw [← eq] at d1
      have hstr := str_eq HO.out.1.2.1 [46]
      have HSQ : Hid (c'.2.1 = q) := by show _ = _; rw [hcn, ← hkc, eq]
      obtain ⟨str, es⟩ : ∃ str, str = strOfNums c'.2.2 := ⟨_, rfl⟩
      rw [← es] at d0 hstr
      have HFU := functor_any b g q str wr d0 d1
      have HC : Hid (CompAt w0 Bt c'.2.2 k' b g kv) := hcomp
      have hqb : q ≤ 10000 := by have := Fo.count_le k'; omega
      by_cases hs : c'.2.2 = [46]
      · have hs' : str.toList = [46] := hstr.2 (by rw [hs]; rfl)
        by_cases hq : q = 2
        · have hdot : c' = dot := by
            have h1 := HSQ.out
            obtain ⟨a1, a2, a3⟩ := c'
            simp only at h0 hs h1
            rw [h0, hs, h1, hq]; rfl
          obtain ⟨c1, k1, c2, k2, rfl⟩ := two_of (k := k') (by rw [← hkc, ← eq, hq])
          obtain ⟨v1, vr1, e1, hn1, v2, vr2, e2, hn2, e3⟩ := hcomp.2.2.2.2.2.2
          have e3' : vr2 = [] := e3
          subst e3' e2
          subst e1
          obtain ⟨t1, x1, rfl⟩ := hn1.iface
          obtain ⟨t2, x2, rfl⟩ := hn2.iface
          have g0 := (hwr.cell (World.block_lt_of_cell? _ _ (hcomp.2.2.2.2.2.1 0 (by simp)))).trans (hcomp.2.2.2.2.2.1 0 (by simp))
          have g1 := (hwr.cell (World.block_lt_of_cell? _ _ (hcomp.2.2.2.2.2.1 1 (by simp)))).trans (hcomp.2.2.2.2.2.1 1 (by simp))
          simp only [List.getD_cons_zero, List.getD_cons_succ] at g0 g1
          have HG : Hid (b < w0.heap.size ∧ g < w0.heap.size) := ⟨World.block_lt_of_cell? _ _ hcomp.2.2.1, hcomp.2.2.2.2.1⟩
          have HNEXT : Hid (splitF c k = ((its ++ [(c1, k1)]) ++ (splitF c2 k2).1, (splitF c2 k2).2) ∧ FoIn w0 Bt (.node c2 k2 .nil) [.iface t2 x2] ∧ ((Fo.node c2 k2 .nil).ok ∧ (itsF (its ++ [(c1, k1)])).ok) ∧ FoIn w0 Bt (itsF (its ++ [(c1, k1)])) (vs ++ [.iface t1 x1]) ∧ (its ++ [(c1, k1)]).length = n4 + 1) := by
            have hk := HO.out.1.2.2.2.2.1
            refine ⟨?_, ⟨_, [], rfl, hn2, rfl⟩, ⟨hk.2.2.2.2.2, ?_⟩, ?_, by simp [HF.out.2]⟩
            · rw [HF.out.1, hdot, splitF_dot]; simp
            · rw [itsF_snoc, Fo.ok_cat]
              exact ⟨HO.out.2, hk.1, hk.2.1, hk.2.2.1, hk.2.2.2.1, hk.2.2.2.2.1, trivial⟩
            · rw [itsF_snoc]
              exact FoIn.cat _ _ _ _ HI.out ⟨_, [], rfl, hn1, rfl⟩
          have hnn : n4 + 1 + k2.cells.length ≤ 10000 := by simp [Fo.cells] at hn4; omega
          subst hq
          have HROW : Hid (wr.ownsRow w.heap.size 59 1 (.slice p4 n4 c4) n4 vs) := HR.out
          have hBs : w.heap.size ≤ wr.heap.size := HB.out.size
          obtain ⟨i0, hi, hz0, hz1, hz2⟩ := info_parts infoTerm
          have HWS : Hid (w0.heap.size ≤ w.heap.size) := hws
          clear leaf h0 hv STOP HT HO HI HR HF hcomp hkc hcn eq es hstr hs hdot hn1 hn2 e3 hwr HSQ hn4 HFO HOK
          go_wp2_with fail
          refine HFU.mono ?_
          rintro e w2 ⟨rfl, hb2⟩
          have f0 := (hb2.cell (World.block_lt_of_cell? _ _ d1)).trans d1
          have f1 := (hb2.cell (World.block_lt_of_cell? _ _ g0)).trans g0
          have f2 := (hb2.cell (World.block_lt_of_cell? _ _ g1)).trans g1
          have HR2 : Hid (w2.ownsRow w.heap.size 59 1 (.slice p4 n4 c4) n4 vs) := row_below HROW.out hb2
          have HB2 : Hid (Below w.heap.size w w2) := Below.on HB.out hb2
          have hBs2 : w.heap.size ≤ w2.heap.size := HB2.out.size
          clear d0 d1 g0 g1 hb2 HROW HFU
          go_wp2_with fail
          go_region_held3 (fun W => W.cell? ⟨b, 1, none⟩ = some (.slice (some ⟨g, 0, none⟩) 2 2) ∧ W.cell? ⟨g, 0, none⟩ = some (.iface t1 x1) ∧ W.cell? ⟨g, 1, none⟩ = some (.iface t2 x2))
            (first | exact kk | go_keep)
            ((refine step_append_lies _ rfl _ _ 74 rfl w.heap.size 59 i0 .nilIface 1 16 Try.underlying74 hi hz0 hz1 hz2 rfl (by decide) (.slice p4 n4 c4) n4 vs rfl (World.ownsRow.alloc (w := w2.drew) HR2.out _) ⟨w2.heap.size, 0, none⟩ 1 1 [.iface t1 x1] rfl rfl (cell_one_new (w2.drew) _ _) (one_iface t1 x1) (by decide) (by unfold maxLen; omega) (by omega) (by simp; omega) _ rfl ?_; intro g5 cap5 w5 hown5 hgrow5 hat5 hlt5; have hb5 : Below w.heap.size (w2.drew.alloc (Obj.cells #[.iface t1 x1] 59)) w5 := (Below.refl _ _).grown hgrow5 (by simp; omega) (fun k hk => (HR2.out.lt k hk).1); have kk : w5.cell? ⟨b, 1, none⟩ = some (.slice (some ⟨g, 0, none⟩) 2 2) ∧ w5.cell? ⟨g, 0, none⟩ = some (.iface t1 x1) ∧ w5.cell? ⟨g, 1, none⟩ = some (.iface t2 x2) := ⟨(hb5.cell (show b < w.heap.size by have := HG.out; have := HWS.out; omega)).trans (Lib.cell?_alloc_marked (W := w2.drew) _ f0), (hb5.cell (show g < w.heap.size by have := HG.out; have := HWS.out; omega)).trans (Lib.cell?_alloc_marked (W := w2.drew) _ f1), (hb5.cell (show g < w.heap.size by have := HG.out; have := HWS.out; omega)).trans (Lib.cell?_alloc_marked (W := w2.drew) _ f2)⟩))
          have HO5 : Hid (w5.ownsRow w.heap.size 59 1 (.slice (some ⟨g5, 0, none⟩) (n4 + 1) cap5) (n4 + 1) (vs ++ [Value.iface t1 x1])) := hown5
          have HB5 : Hid (Below w.heap.size w w5) := ((HB2.out.drew).alloc hBs2 _).trans hb5
          clear hown5 hgrow5 hat5 hb5 kk f0 f1 f2 hi hz0 hz1 hz2
          go_wp2_with fail
          go_roundw
          case rel => exact ⟨its ++ [(c1, k1)], c2, k2, t2, x2, vs ++ [Value.iface t1 x1], _, n4 + 1, cap5, hnn, rfl, rfl, ⟨HNEXT.out.1, HNEXT.out.2.2.2.2.symm⟩, HNEXT.out.2.1, HNEXT.out.2.2.1, HNEXT.out.2.2.2.1, HO5, HB5⟩
          case measure => simp [lenOf]; omega
        · have hq' : ¬ ((q : Int) = 2) := by omega
          have HL : Hid _ := fun W hW => STOP.out W hW (splitF_other _ _ (fun e => hq (by have h1 := HSQ.out; rw [e] at h1; simp [dot] at h1; omega)))
          clear leaf h0 hv STOP HT HO HI HR HF hcomp hkc hcn eq es hstr hs hq HSQ hwr d0 d1
          go_wp2_with fail
          refine HFU.mono ?_
          rintro e w2 ⟨rfl, hb2⟩
          go_wp2_with fail
          go_ret2
          exact HL.out _ hb2
      · have hs' : ¬ str.toList = [46] := fun h => hs (by have := hstr.1 h; simpa using this)
        have HL : Hid _ := fun W hW => STOP.out W hW (splitF_other _ _ (fun e => hs (by rw [e]; rfl)))
        clear leaf h0 hv STOP HT HO HI HR HF hcomp hkc hcn eq es hstr hs HSQ hwr d0 d1
        go_wp2_with fail
        refine HFU.mono ?_
        rintro e w2 ⟨rfl, hb2⟩
        go_wp2_with fail
        go_ret2
        exact HL.out _ hb2

end Go.Proofs.Ytopdhjnpcpkmlaa
