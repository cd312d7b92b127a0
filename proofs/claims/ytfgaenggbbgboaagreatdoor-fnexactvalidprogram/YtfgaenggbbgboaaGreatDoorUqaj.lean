/- Texts of FunK, RegA, IbM, StrU, DefW. Own work of the verifier. -/
import Derived.Maps.OwnSet
import Derived.Maps.OwnOps
import Derived.DeepKeys4
import Derived.Test.YtfgaenggbbgboaaGreatDoorUqai
import Derived.Orders
import Derived.Shelf.Abstract
import Derived.Test.YtfgaenggbbgboaaGreatDoorUqaa
import Derived.Test.YtfgaenggbbgboaaGreatDoorUqad
namespace Go.Proofs.YtfgaenggbbgboaaGreatDoor
open Go Go.RowKit Go.Maps
set_option linter.unusedVariables false
abbrev Fun := ByteArray × Int
theorem laidFun : laidOutB Tryz.prog = true := by kernel_rfl
theorem rowFun : (52 : TypeId) < Tryz.prog.types.size := of_decide_eq_true (by kernel_rfl)
theorem keyAtFun : Tryz.prog.keyTypeAt 3 52 = true := by kernel_rfl
set_option maxRecDepth 100000 in
theorem lawFunK : WideMaps.KeyLaw Tryz.prog 52 := deep_law_laid laidFun (m := 3) (by decide) rowFun keyAtFun (by kernel_rfl)
theorem lawFun : Keyed Tryz.prog 52 := Keyed.of_law lawFunK
theorem typFun : Tryz.prog.keyType 52 = true := by kernel_rfl
theorem cellsFun : Tryz.prog.cellsOf 52 = 2 := by kernel_rfl
theorem cellsStr : Tryz.prog.cellsOf 9 = 1 := by kernel_rfl
theorem cellsIn : Tryz.prog.cellsOf 3 = 1 := by kernel_rfl
def fk (f : Fun) : Lit := .string (keyBytes [.string f.1.data.toList, .int .i64 f.2])
theorem nTypes : ∃ n, Tryz.prog.types.size = n + 1 := by
  have h : 52 < Tryz.prog.types.size := rowFun
  generalize Tryz.prog.types.size = m at h
  exact ⟨m - 1, by omega⟩
end Go.Proofs.YtfgaenggbbgboaaGreatDoor

namespace Go.Proofs.YtfgaenggbbgboaaGreatDoor
open Go Go.RowKit Go.Maps Go.Shelf
set_option linter.unusedVariables false
set_option linter.unusedSimpArgs false
def unl (L : Array Bool) : Nat := (L.toList.filter (fun b => !b)).length
theorem unl_list : ∀ (l : List Bool) (i : Nat), l[i]? = some false → ((l.set i true).filter (fun b => !b)).length + 1 = (l.filter (fun b => !b)).length
  | [], i, h => by simp at h
  | b :: r, 0, h => by
    simp only [List.getElem?_cons_zero, Option.some.injEq] at h
    subst h
    simp
  | b :: r, i + 1, h => by
    have := unl_list r i (by simpa using h)
    cases b <;> simp [List.set_cons_succ, List.filter_cons] <;> omega
theorem getD_list {L : Array Bool} {i : Nat} (h : L.getD i true = false) : L.toList[i]? = some false := by
  simp only [Array.getD_eq_getD_getElem?] at h
  rw [Array.getElem?_toList]
  cases he : L[i]? with
  | none => rw [he] at h; cases h
  | some b => rw [he] at h; simp at h; rw [h]
theorem unl_set {L : Array Bool} {i : Nat} (h : L.getD i true = false) : unl (L.setIfInBounds i true) + 1 = unl L := by
  unfold unl
  rw [Array.toList_setIfInBounds]
  exact unl_list _ _ (getD_list h)
theorem unl_zero {L : Array Bool} (h : unl L = 0) (i : Nat) : L.getD i true ≠ false := fun e => by
  have := unl_set e
  omega
section
variable {P : Program} {ops : Array Oper} {Q : Exit → Act → World → Prop} {md : Region.Mode}
theorem wpAny_inv (I : Array Bool → Act → World → Prop) (hS : ∀ L a w, I L a w → ∀ i ∈ Region.ready md ops L, wpOp P ops Q i (fun a' w' => I (L.setIfInBounds i true) a' w') a w)
    (hE : ∀ L a w, I L a w → Region.ready md ops L = [] → Q .normal a w) : ∀ (fuel : Nat) (L : Array Bool) (a : Act) (w : World), I L a w → unl L ≤ fuel → wpAny P md ops Q fuel L a w
  | 0, L, a, w, h, hu => by
    have hr : Region.ready md ops L = [] := by
      cases hh : Region.ready md ops L with
      | nil => rfl
      | cons i r =>
        have : i ∈ Region.ready md ops L := by rw [hh]; simp
        exact absurd (mem_ready.1 this).1 (unl_zero (by omega) i)
    exact ⟨hr, hE L a w h hr⟩
  | fuel + 1, L, a, w, h, hu => by
    refine ⟨fun hr => hE L a w h hr, fun i hi => ?_⟩
    have h1 := unl_set (mem_ready.1 hi).1
    exact wpOp_mono (fun a' w' h' => wpAny_inv I hS hE fuel _ a' w' h' (by omega)) (hS L a w h i hi)
theorem op_value {i : Nat} {o : Oper} {a : Act} {w w' : World} {v : Value} {K : Act → World → Prop} (hi : ops[i]? = some o) (hg : o.guard = none) (hr : (execOp a.eval o).run P w = .ok (.value v) w') (h : K (a.put o.dst v) w') : wpOp P ops Q i K a w := by
  unfold wpOp
  simp only [hi, Region.wanted, hg, if_true, Oper.wp, hr, Oper.upon]
  exact .inl h
end
theorem put_other {a : Act} {d p : Nat} {v : Value} (h : d ≠ p) : (a.put (some d) v).tmps[p]? = a.tmps[p]? := by simp [Act.put, Array.getElem?_setIfInBounds_ne h]
theorem put_same {a : Act} {d : Nat} {v : Value} (h : d < a.tmps.size) : (a.put (some d) v).tmps[d]? = some v := by simp [Act.put, h]
theorem put_size {a : Act} {d : Option Nat} {v : Value} : (a.put d v).tmps.size = a.tmps.size := by cases d <;> simp [Act.put]
theorem put_defs {a : Act} {d : Option Nat} {v : Value} : (a.put d v).defers = a.defers := by cases d <;> rfl
theorem set_at {L : Array Bool} {i p : Nat} (h : (L.setIfInBounds i true).getD p false = true) (hne : i ≠ p) : L.getD p false = true := by rwa [getD_set_ne false hne] at h
theorem dep_of {o : Oper} {i : Nat} {L : Array Bool} (h : (o.after.toList.any fun e => (e.on == i) && Region.binds .any e) = true) (hr : ∀ e ∈ o.after, Region.binds .any e = true → L.getD e.on false = true) : L.getD i false = true := by
  obtain ⟨e, he, h2⟩ := List.any_eq_true.1 h
  simp only [Bool.and_eq_true, beq_iff_eq] at h2
  rw [← h2.1]
  exact hr e (by simpa using he) h2.2
theorem unl_le (L : Array Bool) : unl L ≤ L.size := by
  unfold unl
  have := List.length_filter_le (fun b => !b) L.toList
  simpa using this
theorem eval_tmp {a : Act} {p : Nat} {v : Value} (h : a.tmps[p]? = some v) : a.eval (.tmp p) = v := by simp [Act.eval, h]
theorem getD_false {L : Array Bool} {i : Nat} (h : L.getD i true = false) : L.getD i false = false := by
  simp only [Array.getD_eq_getD_getElem?] at h ⊢
  cases he : L[i]? with
  | none => rfl
  | some b => rw [he] at h; exact h
theorem set_self {L : Array Bool} {i : Nat} (h : i < L.size) : (L.setIfInBounds i true).getD i false = true := by simp [h]
end Go.Proofs.YtfgaenggbbgboaaGreatDoor

namespace Go.Proofs.YtfgaenggbbgboaaGreatDoor
open Go Go.RowKit Go.Maps
set_option linter.unusedVariables false
def okN (f : Fun) : Prop := f.1.size ≤ 2000000 ∧ (Lit.int .i64 f.2).wf = true
theorem keyFunN (f : Fun) (h : okN f) : keyOf Tryz.prog 52 (.agg #[.string f.1, .int .i64 f.2]) = some (fk f) := by
  obtain ⟨n, hn⟩ := nTypes
  have hx : f.1.size ≤ maxLen := by have := h.1; unfold maxLen; omega
  exact keyPair Tryz.prog 52 9 3 _ _ _ rfl Tryz.underlying52 rfl rfl rfl rfl (by decide) (by decide) Tryz.underlying9 Tryz.underlying3 cellsFun cellsStr cellsIn typFun n hn f.1 f.2 hx h.2
theorem fk_injN {f g : Fun} (hf : okN f) (hg : okN g) (h : fk f = fk g) : f = g := by
  have h1 := keyFunN f hf
  have h2 := keyFunN g hg
  rw [← h] at h2
  have := lawFun.inj h1 h2
  obtain ⟨f1, f2⟩ := f
  obtain ⟨g1, g2⟩ := g
  simpa using this
def heldN (v : Value) : Option (DataW Value × List MemPlace) := some (.held v, [])
def BuIn (w : World) (b N : Nat) (T : Fun → Option Nat) : Prop := ∃ D : DataW Value, w.ownsMap Tryz.prog 52 heldN b N D ∧
  ∀ f, okN f → match T f with
    | none => has D (fk f) = false ∧ ∀ z, D.atKey (fk f) z = z
    | some K => has D (fk f) = true ∧ ∀ z, D.atKey (fk f) z = .held (.func (.func K) #[] #[])
theorem BuIn.lt {w : World} {b N : Nat} {T : Fun → Option Nat} (h : BuIn w b N T) : b < w.heap.size := by obtain ⟨D, h, _⟩ := h; exact h.lt
theorem BuIn.of {w w' : World} {b N : Nat} {T : Fun → Option Nat} (h : BuIn w b N T) (hb : w'.heap[b]? = w.heap[b]?) : BuIn w' b N T := by
  obtain ⟨D, ⟨es, clock, h1, r⟩, h2⟩ := h
  exact ⟨D, ⟨es, clock, hb.trans h1, r⟩, h2⟩
theorem BuIn.below {w w' : World} {b N : Nat} {T : Fun → Option Nat} (h : BuIn w b N T) (hb : Below w.heap.size w w') : BuIn w' b N T := h.of (hb.block _ h.lt)
theorem BuIn.made (w : World) : BuIn (w.alloc (.map #[] 0)) w.heap.size 0 (fun _ => none) := ⟨_, World.ownsMap_made _ _ _ _, fun f _ => ⟨rfl, fun z => rfl⟩⟩
theorem zeroBu (w : World) : (zeroValue 131).run Tryz.prog w = .ok .nilFunc w := by kernel_rfl
theorem BuIn.look {w : World} {b N : Nat} {T : Fun → Option Nat} (h : BuIn w b N T) (f : Fun) (hf : okN f) :
    (Instr.lookup 134 (.map (some b)) (.agg #[.string f.1, .int .i64 f.2]) true).run Tryz.prog w = .ok (.tuple #[(match T f with | none => .nilFunc | some K => .func (.func K) #[] #[]), .bool (T f).isSome]) w := by
  obtain ⟨D, hown, hT⟩ := h
  obtain ⟨v, ps, hrun, hv⟩ := hown.look_ok lawFun Tryz.underlying134 (zeroBu w) (zd := .held .nilFunc) (zp := []) rfl (keyFunN f hf)
  have h1 := hT f hf
  simp only [heldN, Option.some.injEq, Prod.mk.injEq] at hv
  have hv := hv.1
  cases e : T f with
  | none =>
    rw [e] at h1
    rw [h1.2] at hv
    rw [hrun, h1.1]
    cases hv
    rfl
  | some c =>
    rw [e] at h1
    rw [h1.2] at hv
    rw [hrun, h1.1]
    cases hv
    rfl
theorem BuIn.put {w : World} {b N : Nat} {T : Fun → Option Nat} (h : BuIn w b N T) (hN : N ≤ 1000000) (f : Fun) (hf : okN f) (K : Nat) :
    ∃ w', (Instr.mapUpdate 134 (.map (some b)) (.agg #[.string f.1, .int .i64 f.2]) (.func (.func K) #[] #[])).run Tryz.prog w = .ok () w' ∧ BuIn w' b (N + 1) (fun g => if g = f then some K else T g) ∧ w.grownBy w' (some b) := by
  obtain ⟨D, hown, hT⟩ := h
  have hown0 := hown
  obtain ⟨es, clock, hb, _⟩ := hown
  obtain ⟨w', hrun, hown', hg⟩ := hown0.update lawFun Tryz.underlying134 (by unfold maxLen; omega) (keyFunN f hf) (show heldN (.func (.func K) #[] #[]) = some (.held _, []) from rfl)
  have hm := hown0.isMap
  have hkl : WideAt.IsKeyLit (fk f) := trivial
  refine ⟨w', hrun, ⟨_, hown', fun g hgk => ?_⟩, hg⟩
  by_cases e : g = f
  · subst e
    simp only [if_true]
    exact ⟨has_put_same hm hkl _, fun z => atKey_put_same hm hkl _ z⟩
  · simp only [if_neg e]
    have hne : fk g ≠ fk f := fun e' => e (fk_injN hgk hf e')
    have h1 := hT g hgk
    cases hTg : T g with
    | none =>
      rw [hTg] at h1
      exact ⟨by rw [has_put_other hne]; exact h1.1, fun z => by rw [atKey_put_other hne]; exact h1.2 z⟩
    | some c' =>
      rw [hTg] at h1
      exact ⟨by rw [has_put_other hne]; exact h1.1, fun z => by rw [atKey_put_other hne]; exact h1.2 z⟩
end Go.Proofs.YtfgaenggbbgboaaGreatDoor

namespace Go.Proofs.YtfgaenggbbgboaaGreatDoor
open Go Go.RowKit
set_option linter.unusedVariables false
def bOf (l : List UInt8) : ByteArray := ⟨l.toArray⟩
theorem bOf_size (l : List UInt8) : (bOf l).size = l.length := by simp [bOf, ByteArray.size]
theorem bOf_list (l : List UInt8) : (bOf l).toList = l := by rw [ByteArray.toList_eq]; rfl
def strV (x : List UInt8) : Value := .string (bOf x)
end Go.Proofs.YtfgaenggbbgboaaGreatDoor

namespace Go.Proofs.YtfgaenggbbgboaaGreatDoor
open Go Go.RowKit
set_option linter.unusedVariables false
def wd (word : List UInt8) : List UInt8 → List (List UInt8)
  | [] => if word = [] then [] else [word]
  | b :: r => if b = 32 then (if word = [] then wd [] r else word :: wd [] r) else wd (word ++ [b]) r
theorem bOf_empty (l : List UInt8) : (bOf l).toList.isEmpty = decide (l = []) := by rw [bOf_list]; cases l <;> simp
theorem drop_u (l : List UInt8) (k : Nat) (h : k < l.length) : l.drop k = l[k] :: l.drop (k + 1) := List.drop_eq_getElem_cons h
theorem wd_at (word l : List UInt8) (k : Nat) (h : k < l.length) : wd word (l.drop k) = if l[k] = 32 then (if word = [] then wd [] (l.drop (k + 1)) else word :: wd [] (l.drop (k + 1))) else wd (word ++ [l[k]]) (l.drop (k + 1)) := by
  rw [drop_u l k h, wd]
theorem infoStr : (Tryz.prog.info? 9).map (fun i => (i.zero, i.size, i.bytes)) = some (some (.string ⟨#[]⟩), 1, 16) := by kernel_rfl
theorem bOf_app (a b : List UInt8) : bOf a ++ bOf b = bOf (a ++ b) := by
  apply ByteArray.ext
  rw [ByteArray.data_append]
  simp [bOf]
theorem bOf_cut (l : List UInt8) (k : Nat) (h : k < l.length) : (bOf l).extract k (k + 1) = bOf [l[k]] := by
  apply ByteArray.ext
  rw [ByteArray.data_extract]
  apply Array.ext
  · simp [bOf]; omega
  · intro i h1 h2
    have : i = 0 := by simp [bOf] at h2; omega
    subst this
    simp [bOf]
set_option maxRecDepth 100000 in
set_option maxHeartbeats 2000000 in
theorem l3words_any (l : List UInt8) (w : World) (hl : l.length ≤ 1000) :
    Calls Tryz.prog 84 #[.string (bOf l)] w fun e w' => ∃ p n c, e = .returned (.slice p n c) ∧ n = (wd [] l).length ∧ w'.ownsRow w.heap.size 9 1 (.slice p n c) n ((wd [] l).map strV) ∧ Below w.heap.size w w' := by
  obtain ⟨i0, hi, hz0, hz1, hz2⟩ := info_parts infoStr
  obtain ⟨s, es⟩ : ∃ s, s = bOf l := ⟨_, rfl⟩
  have hsz : s.size = l.length := by rw [es, bOf_size]
  have HES : Hid (s = bOf l) := es
  rw [← es]
  clear es
  go_enter Tryz.func84, Tryz.ntmps84
  go_wp2_with fail
  go_loopw [3, 4, 5] (fun o wv i wr => ∃ (k m c : Nat) (p : Option Addr) (word : List UInt8) (pre : List (List UInt8)) (ws : ByteArray), k ≤ l.length + 1 ∧ o = .slice p m c ∧ wv = .string ws ∧ i = .int .i64 k ∧ m ≤ k ∧ Hid (m = pre.length) ∧ Hid (ws = bOf word ∧ word.length ≤ k) ∧ Hid ((k ≤ l.length → wd [] l = pre ++ wd word (l.drop k)) ∧ (k = l.length + 1 → wd [] l = pre)) ∧
    Hid (wr.ownsRow w.heap.size 9 1 (.slice p m c) m (pre.map strV)) ∧ Hid (Below w.heap.size w wr)) (fun _ _ i _ => l.length + 2 - (intOf i).toNat)
  case atStart => exact ⟨0, 0, 0, none, [], [], _, by omega, rfl, rfl, rfl, Nat.le_refl _, rfl, ⟨rfl, Nat.le_refl _⟩, ⟨fun _ => rfl, fun h => by omega⟩, World.ownsRow_nil _ _ _ _, Below.refl _ _⟩
  case round =>
    obtain ⟨k, m, c, p, word, pre, ws, hk, rfl, rfl, rfl, hmk, HM, HWS, HQ, HR, HB⟩ := hrel
    have hbs : w.heap.size ≤ wr.heap.size := HB.out.size
    have hrow := HR.out.alloc (.cells #[.string ws] 9)
    have hBa : w.heap.size ≤ (wr.alloc (.cells #[.string ws] 9)).heap.size := by simp; omega
    have HEM : Hid (ws.toList.isEmpty = decide (word = [])) := by show _ = _; rw [HWS.out.1]; exact bOf_empty word
    have HNW : Hid (∀ j u, [Value.string ws][j]? = some u → (wr.alloc (.cells #[.string ws] 9)).cell? ((⟨wr.heap.size, 0, none⟩ : Addr).add j) = some u) := fun j u hu => by
      match j, hu with
      | 0, hu => simp at hu; rw [← hu]; simp [Addr.add, World.cell?_alloc_new]
      | j + 1, hu => simp at hu
    have HRL : Hid (∀ kk, Value.ownBlock (.slice p m c) = some kk → w.heap.size ≤ kk) := fun kk hkk => (HR.out.lt kk hkk).1
    by_cases hlt : k < l.length
    · have h2 : ((k : Int) == (l.length : Int)) = false := by simp; omega
      have h3 : (k : Int) ≤ (l.length : Int) := by omega
      have hks : k < s.size := by rw [hsz]; exact hlt
      have HGET : Hid (s[k] = l[k]) := by
        show _ = _
        have : ∀ (t : ByteArray) (h : k < t.size), t = bOf l → t[k] = l[k] := fun t h e => by subst e; rfl
        exact this s hks HES.out
      have HAT : Hid _ := wd_at word l k hlt
      by_cases hb : l[k] = 32
      · have hb' : ((s[k].toNat : Int) == 32) = true := by rw [HGET.out, hb]; rfl
        have HQ1 : Hid (wd [] l = pre ++ (if word = [] then [] else [word]) ++ wd [] (l.drop (k + 1))) := by
          show _ = _
          rw [HQ.out.1 (by omega), HAT.out, if_pos hb]
          split <;> simp
        clear HAT HGET HQ
        cases hw : ws.toList.isEmpty with
        | true =>
          have hwe : word = [] := by have := HEM.out; rw [hw] at this; exact of_decide_eq_true this.symm
          have HQ2 : Hid (wd [] l = pre ++ wd [] (l.drop (k + 1))) := by show _ = _; rw [HQ1.out, if_pos hwe]; simp
          clear HQ1 hwe hrow
          go_wp2_with fail
          go_roundw
          case rel => exact ⟨k + 1, m, c, p, [], pre, _, by omega, rfl, rfl, by go_num, by omega, HM, ⟨rfl, Nat.zero_le _⟩, ⟨fun _ => HQ2.out, fun h => by omega⟩, HR, HB⟩
          case measure => simp [intOf]; omega
        | false =>
          have hwe : ¬ word = [] := by have := HEM.out; rw [hw] at this; exact of_decide_eq_false this.symm
          have HQ2 : Hid (wd [] l = (pre ++ [word]) ++ wd [] (l.drop (k + 1))) := by show _ = _; rw [HQ1.out, if_neg hwe]
          clear HQ1 hwe
          go_wp2_with (at_builtin; refine wpList_append_lies _ rfl _ _ 93 rfl w.heap.size 9 i0 (.string ⟨#[]⟩) 1 16 Tryz.underlying93 hi hz0 hz1 hz2 rfl (by decide) (.slice p m c) m (pre.map strV) rfl hrow ⟨wr.heap.size, 0, none⟩ 1 1 [.string ws] rfl rfl HNW.out (fun u hu => by simp at hu; rw [hu]; rfl) (by decide) (by unfold maxLen; omega) (by omega) hBa _ rfl ?_; intro g6 cap6 w6 hrow6 hgrow6 hat6 hlt6)
          have HR6 : Hid (w6.ownsRow w.heap.size 9 1 (.slice (some ⟨g6, 0, none⟩) (m + 1) cap6) (m + 1) ((pre ++ [word]).map strV)) := by rw [List.map_append]; have h9 := hrow6; rw [HWS.out.1] at h9; exact h9
          have HB6 : Hid (Below w.heap.size w w6) := (HB.out.alloc hbs _).grown hgrow6 hBa (fun kk hkk => HRL.out kk hkk)
          have HM6 : Hid (m + 1 = (pre ++ [word]).length) := by show _ = _; rw [HM.out]; simp
          clear hrow6 hgrow6 hat6 hlt6 hrow
          go_wp2_with fail
          go_roundw
          case rel => exact ⟨k + 1, m + 1, cap6, _, [], pre ++ [word], _, by omega, rfl, rfl, by go_num, by omega, HM6, ⟨rfl, Nat.zero_le _⟩, ⟨fun _ => HQ2.out, fun h => by omega⟩, HR6, HB6⟩
          case measure => simp [intOf]; omega
      · have hb' : ((s[k].toNat : Int) == 32) = false := by
          rw [HGET.out]
          cases h9 : ((l[k].toNat : Int) == 32) with
          | false => rfl
          | true =>
            exfalso
            apply hb
            have h10 : (l[k].toNat : Int) = 32 := by simpa using h9
            exact UInt8.toNat_inj.1 (by rw [show (32 : UInt8).toNat = 32 from rfl]; omega)
        have HQ2 : Hid (wd [] l = pre ++ wd (word ++ [l[k]]) (l.drop (k + 1))) := by show _ = _; rw [HQ.out.1 (by omega), HAT.out, if_neg hb]
        have HCAT : Hid (ws ++ s.extract k (k + 1) = bOf (word ++ [l[k]])) := by show _ = _; rw [HWS.out.1, HES.out, bOf_cut l k hlt, bOf_app]
        have h5 : (k : Int) + 1 ≤ (l.length : Int) := by omega
        have h6 : k + 1 ≤ l.length := by omega
        have h7 : ws.size ≤ 1000 := by have := HWS.out.2; rw [HWS.out.1, bOf_size]; omega
        clear HAT HGET HQ hrow
        go_wp2_with fail
        go_roundw
        case rel => exact ⟨k + 1, m, c, p, word ++ [l[k]], pre, _, by omega, rfl, rfl, by go_num, by omega, HM, ⟨HCAT.out, by simp; exact HWS.out.2⟩, ⟨fun _ => HQ2.out, fun h => by omega⟩, HR, HB⟩
        case measure => simp [intOf]; omega
    · by_cases he : k = l.length
      · subst he
        have h2 : ((l.length : Int) == (l.length : Int)) = true := by simp
        have HQ1 : Hid (wd [] l = pre ++ (if word = [] then [] else [word])) := by
          show _ = _
          have h9 := HQ.out.1 (Nat.le_refl _)
          rw [List.drop_length] at h9
          exact h9
        clear HQ
        cases hw : ws.toList.isEmpty with
        | true =>
          have hwe : word = [] := by have := HEM.out; rw [hw] at this; exact of_decide_eq_true this.symm
          have HQ2 : Hid (wd [] l = pre) := by show _ = _; rw [HQ1.out, if_pos hwe]; simp
          clear HQ1 hwe hrow
          go_wp2_with fail
          go_roundw
          case rel => exact ⟨l.length + 1, m, c, p, [], pre, _, by omega, rfl, rfl, by go_num, by omega, HM, ⟨rfl, Nat.zero_le _⟩, ⟨fun h => by omega, fun _ => HQ2.out⟩, HR, HB⟩
          case measure => simp [intOf]
        | false =>
          have hwe : ¬ word = [] := by have := HEM.out; rw [hw] at this; exact of_decide_eq_false this.symm
          have HQ2 : Hid (wd [] l = pre ++ [word]) := by show _ = _; rw [HQ1.out, if_neg hwe]
          clear HQ1 hwe
          go_wp2_with (at_builtin; refine wpList_append_lies _ rfl _ _ 93 rfl w.heap.size 9 i0 (.string ⟨#[]⟩) 1 16 Tryz.underlying93 hi hz0 hz1 hz2 rfl (by decide) (.slice p m c) m (pre.map strV) rfl hrow ⟨wr.heap.size, 0, none⟩ 1 1 [.string ws] rfl rfl HNW.out (fun u hu => by simp at hu; rw [hu]; rfl) (by decide) (by unfold maxLen; omega) (by omega) hBa _ rfl ?_; intro g6 cap6 w6 hrow6 hgrow6 hat6 hlt6)
          have HR6 : Hid (w6.ownsRow w.heap.size 9 1 (.slice (some ⟨g6, 0, none⟩) (m + 1) cap6) (m + 1) ((pre ++ [word]).map strV)) := by rw [List.map_append]; have h9 := hrow6; rw [HWS.out.1] at h9; exact h9
          have HB6 : Hid (Below w.heap.size w w6) := (HB.out.alloc hbs _).grown hgrow6 hBa (fun kk hkk => HRL.out kk hkk)
          have HM6 : Hid (m + 1 = (pre ++ [word]).length) := by show _ = _; rw [HM.out]; simp
          clear hrow6 hgrow6 hat6 hlt6 hrow
          go_wp2_with fail
          go_roundw
          case rel => exact ⟨l.length + 1, m + 1, cap6, _, [], pre ++ [word], _, by omega, rfl, rfl, by go_num, by omega, HM6, ⟨rfl, Nat.zero_le _⟩, ⟨fun h => by omega, fun _ => HQ2.out⟩, HR6, HB6⟩
          case measure => simp [intOf]
      · have h3 : ¬ (k : Int) ≤ (l.length : Int) := by omega
        have HQ1 : Hid (wd [] l = pre) := HQ.out.2 (by omega)
        have HF : Hid (∃ p' n' c', Ending.returned (.slice p m c) = .returned (.slice p' n' c') ∧ n' = (wd [] l).length ∧ wr.ownsRow w.heap.size 9 1 (.slice p' n' c') n' ((wd [] l).map strV) ∧ Below w.heap.size w wr) := ⟨p, m, c, rfl, by rw [HQ1.out]; exact HM.out, by rw [HQ1.out]; exact HR.out, HB.out⟩
        clear HQ hrow
        go_wp2_with fail
        go_ret
        exact HF.out
end Go.Proofs.YtfgaenggbbgboaaGreatDoor

