/- Texts of OpsM4, DefW, DefP, OpsA. Own work of the verifier. -/
import Derived.Test.YtfgmenkoeflhaaaGreatDoorUqba
import Derived.Lib.Fields
namespace Go.Proofs.YtfgmenkoeflhaaaGreatDoor
set_option linter.unusedVariables false
section
open Go Go.RowKit Go.Maps
def addCode (T : List Cel) (o : Cel) : Int :=
 match findK T (keyC o) with
 | some x => if (postB x.2.1 != postB o.2.1) = true then 4 else 0
 | none => if o.1 = 0 then 0 else if T.length = 200 then 3 else 0
def addT (T : List Cel) (o : Cel) : List Cel := if addCode T o ≠ 0 then T else if o.1 = 0 then dropK T (keyC o) else dropK T (keyC o) ++ [o]
theorem findK_some {T : List Cel} {k : List UInt8 × Int} {x : Cel} (h : findK T k = some x) : x ∈ T ∧ keyC x = k := ⟨List.mem_of_find?_eq_some h, by simpa using List.find?_some h⟩
theorem three_new (W : World) (a b c : Value) (t : TypeId) : (W.alloc (.cells #[a, b, c] t)).cell? ⟨W.heap.size, 0, none⟩ = some a ∧ (W.alloc (.cells #[a, b, c] t)).cell? ⟨W.heap.size, 1, none⟩ = some b ∧ (W.alloc (.cells #[a, b, c] t)).cell? ⟨W.heap.size, 2, none⟩ = some c :=
 ⟨by simp [World.cell?_alloc_new], by simp [World.cell?_alloc_new], by simp [World.cell?_alloc_new]⟩
end
section
open Go Go.RowKit
def wd (word : List UInt8) : List UInt8 → List (List UInt8)
 | [] => if word = [] then [] else [word]
 | b :: r => if b = 32 then (if word = [] then wd [] r else word :: wd [] r) else wd (word ++ [b]) r
theorem bOf_empty (l : List UInt8) : (bOf l).toList.isEmpty = decide (l = []) := by rw [bOf_list]; cases l <;> simp
theorem drop_u (l : List UInt8) (k : Nat) (h : k < l.length) : l.drop k = l[k] :: l.drop (k + 1) := List.drop_eq_getElem_cons h
theorem wd_at (word l : List UInt8) (k : Nat) (h : k < l.length) : wd word (l.drop k) = if l[k] = 32 then (if word = [] then wd [] (l.drop (k + 1)) else word :: wd [] (l.drop (k + 1))) else wd (word ++ [l[k]]) (l.drop (k + 1)) := by
 rw [drop_u l k h, wd]
theorem infoStr : (Tryz.prog.info? 9).map (fun i => (i.zero, i.size, i.bytes)) = some (some (.string ⟨#[]⟩), 1, 16) := by kernel_rfl
theorem bOf_app (a b : List UInt8) : bOf a ++ bOf b = bOf (a ++ b) := by
 apply ByteArray.ext
 rw [ByteArray.data_append]
 simp [bOf]
theorem bOf_cut (l : List UInt8) (k : Nat) (h : k < l.length) : (bOf l).extract k (k + 1) = bOf [l[k]] := by
 apply ByteArray.ext
 rw [ByteArray.data_extract]
 apply Array.ext
 ·simp [bOf]; omega
 ·intro i h1 h2
  have : i = 0 := by simp [bOf] at h2; omega
  subst this
  simp [bOf]
set_option maxRecDepth 100000 in
set_option maxHeartbeats 2000000 in
theorem l3words_any (l : List UInt8) (w : World) (hl : l.length ≤ 1000) :
 Calls Tryz.prog 57 #[.string (bOf l)] w fun e w' => ∃ p n c, e = .returned (.slice p n c) ∧ n = (wd [] l).length ∧ w'.ownsRow w.heap.size 9 1 (.slice p n c) n ((wd [] l).map strV) ∧ Below w.heap.size w w' := by
 obtain ⟨i0, hi, hz0, hz1, hz2⟩ := info_parts infoStr
 obtain ⟨s, es⟩ : ∃ s, s = bOf l := ⟨_, rfl⟩
 have hsz : s.size = l.length := by rw [es, bOf_size]
 have HES : Hid (s = bOf l) := es; rw [← es]; clear es
 go_enter Tryz.func57, Tryz.ntmps57
 go_wp2_with fail
 go_loopw [3, 4, 5] (fun o wv i wr => ∃ (k m c : Nat) (p : Option Addr) (word : List UInt8) (pre : List (List UInt8)) (ws : ByteArray), k ≤ l.length + 1 ∧ o = .slice p m c ∧ wv = .string ws ∧ i = .int .i64 k ∧ m ≤ k ∧ Hid (m = pre.length) ∧ Hid (ws = bOf word ∧ word.length ≤ k) ∧ Hid ((k ≤ l.length → wd [] l = pre ++ wd word (l.drop k)) ∧ (k = l.length + 1 → wd [] l = pre)) ∧
  Hid (wr.ownsRow w.heap.size 9 1 (.slice p m c) m (pre.map strV)) ∧ Hid (Below w.heap.size w wr)) (fun _ _ i _ => l.length + 2 - (intOf i).toNat)
 case atStart => exact ⟨0, 0, 0, none, [], [], _, by omega, rfl, rfl, rfl, Nat.le_refl _, rfl, ⟨rfl, Nat.le_refl _⟩, ⟨fun _ => rfl, fun h => by omega⟩, World.ownsRow_nil _ _ _ _, Below.refl _ _⟩
 case round =>
  obtain ⟨k, m, c, p, word, pre, ws, hk, rfl, rfl, rfl, hmk, HM, HWS, HQ, HR, HB⟩ := hrel; have hbs : w.heap.size ≤ wr.heap.size := HB.out.size; have hrow := HR.out.alloc (.cells #[.string ws] 9)
  have hBa : w.heap.size ≤ (wr.alloc (.cells #[.string ws] 9)).heap.size := by simp; omega
  have HEM : Hid (ws.toList.isEmpty = decide (word = [])) := by show _ = _; rw [HWS.out.1]; exact bOf_empty word
  have HNW : Hid (∀ j u, [Value.string ws][j]? = some u → (wr.alloc (.cells #[.string ws] 9)).cell? ((⟨wr.heap.size, 0, none⟩ : Addr).add j) = some u) := fun j u hu => by
   match j, hu with
   | 0, hu => simp at hu; rw [← hu]; simp [Addr.add, World.cell?_alloc_new]
   | j + 1, hu => simp at hu
  have HRL : Hid (∀ kk, Value.ownBlock (.slice p m c) = some kk → w.heap.size ≤ kk) := fun kk hkk => (HR.out.lt kk hkk).1
  by_cases hlt : k < l.length
  ·have h2 : ((k : Int) == (l.length : Int)) = false := by simp; omega
   have h3 : (k : Int) ≤ (l.length : Int) := by omega
   have hks : k < s.size := by rw [hsz]; exact hlt
   have HGET : Hid (s[k] = l[k]) := by
    show _ = _
    have : ∀ (t : ByteArray) (h : k < t.size), t = bOf l → t[k] = l[k] := fun t h e => by subst e; rfl
    exact this s hks HES.out
   have HAT : Hid _ := wd_at word l k hlt
   by_cases hb : l[k] = 32
   ·have hb' : ((s[k].toNat : Int) == 32) = true := by rw [HGET.out, hb]; rfl
    have HQ1 : Hid (wd [] l = pre ++ (if word = [] then [] else [word]) ++ wd [] (l.drop (k + 1))) := by
     show _ = _
     rw [HQ.out.1 (by omega), HAT.out, if_pos hb]
     split <;> simp
    clear HAT HGET HQ
    cases hw : ws.toList.isEmpty with
    | true =>
      have hwe : word = [] := by have := HEM.out; rw [hw] at this; exact of_decide_eq_true this.symm
      have HQ2 : Hid (wd [] l = pre ++ wd [] (l.drop (k + 1))) := by show _ = _; rw [HQ1.out, if_pos hwe]; simp
      clear HQ1 hwe hrow; go_wp2_with fail; go_roundw
      case rel => exact ⟨k + 1, m, c, p, [], pre, _, by omega, rfl, rfl, by go_num, by omega, HM, ⟨rfl, Nat.zero_le _⟩, ⟨fun _ => HQ2.out, fun h => by omega⟩, HR, HB⟩
      case measure => simp [intOf]; omega
    | false =>
      have hwe : ¬ word = [] := by have := HEM.out; rw [hw] at this; exact of_decide_eq_false this.symm
      have HQ2 : Hid (wd [] l = (pre ++ [word]) ++ wd [] (l.drop (k + 1))) := by show _ = _; rw [HQ1.out, if_neg hwe]
      clear HQ1 hwe; go_wp2_with (at_builtin; refine wpList_append_lies _ rfl _ _ 74 rfl w.heap.size 9 i0 (.string ⟨#[]⟩) 1 16 Tryz.underlying74 hi hz0 hz1 hz2 rfl (by decide) (.slice p m c) m (pre.map strV) rfl hrow ⟨wr.heap.size, 0, none⟩ 1 1 [.string ws] rfl rfl HNW.out (fun u hu => by simp at hu; rw [hu]; rfl) (by decide) (by unfold maxLen; omega) (by omega) hBa _ rfl ?_; intro g6 cap6 w6 hrow6 hgrow6 hat6 hlt6)
      have HR6 : Hid (w6.ownsRow w.heap.size 9 1 (.slice (some ⟨g6, 0, none⟩) (m + 1) cap6) (m + 1) ((pre ++ [word]).map strV)) := by rw [List.map_append]; have h9 := hrow6; rw [HWS.out.1] at h9; exact h9
      have HB6 : Hid (Below w.heap.size w w6) := (HB.out.alloc hbs _).grown hgrow6 hBa (fun kk hkk => HRL.out kk hkk)
      have HM6 : Hid (m + 1 = (pre ++ [word]).length) := by show _ = _; rw [HM.out]; simp
      clear hrow6 hgrow6 hat6 hlt6 hrow; go_wp2_with fail; go_roundw
      case rel => exact ⟨k + 1, m + 1, cap6, _, [], pre ++ [word], _, by omega, rfl, rfl, by go_num, by omega, HM6, ⟨rfl, Nat.zero_le _⟩, ⟨fun _ => HQ2.out, fun h => by omega⟩, HR6, HB6⟩
      case measure => simp [intOf]; omega
   ·have hb' : ((s[k].toNat : Int) == 32) = false := by
     rw [HGET.out]
     cases h9 : ((l[k].toNat : Int) == 32) with
     | false => rfl
     | true =>
       exfalso
       apply hb
       have h10 : (l[k].toNat : Int) = 32 := by simpa using h9
       exact UInt8.toNat_inj.1 (by rw [show (32 : UInt8).toNat = 32 from rfl]; omega)
    have HQ2 : Hid (wd [] l = pre ++ wd (word ++ [l[k]]) (l.drop (k + 1))) := by show _ = _; rw [HQ.out.1 (by omega), HAT.out, if_neg hb]
    have HCAT : Hid (ws ++ s.extract k (k + 1) = bOf (word ++ [l[k]])) := by show _ = _; rw [HWS.out.1, HES.out, bOf_cut l k hlt, bOf_app]
    have h5 : (k : Int) + 1 ≤ (l.length : Int) := by omega
    have h6 : k + 1 ≤ l.length := by omega
    have h7 : ws.size ≤ 1000 := by have := HWS.out.2; rw [HWS.out.1, bOf_size]; omega
    clear HAT HGET HQ hrow; go_wp2_with fail; go_roundw
    case rel => exact ⟨k + 1, m, c, p, word ++ [l[k]], pre, _, by omega, rfl, rfl, by go_num, by omega, HM, ⟨HCAT.out, by simp; exact HWS.out.2⟩, ⟨fun _ => HQ2.out, fun h => by omega⟩, HR, HB⟩
    case measure => simp [intOf]; omega
  ·by_cases he : k = l.length
   ·subst he
    have h2 : ((l.length : Int) == (l.length : Int)) = true := by simp
    have HQ1 : Hid (wd [] l = pre ++ (if word = [] then [] else [word])) := by
     show _ = _
     have h9 := HQ.out.1 (Nat.le_refl _); rw [List.drop_length] at h9; exact h9
    clear HQ
    cases hw : ws.toList.isEmpty with
    | true =>
      have hwe : word = [] := by have := HEM.out; rw [hw] at this; exact of_decide_eq_true this.symm
      have HQ2 : Hid (wd [] l = pre) := by show _ = _; rw [HQ1.out, if_pos hwe]; simp
      clear HQ1 hwe hrow; go_wp2_with fail; go_roundw
      case rel => exact ⟨l.length + 1, m, c, p, [], pre, _, by omega, rfl, rfl, by go_num, by omega, HM, ⟨rfl, Nat.zero_le _⟩, ⟨fun h => by omega, fun _ => HQ2.out⟩, HR, HB⟩
      case measure => simp [intOf]
    | false =>
      have hwe : ¬ word = [] := by have := HEM.out; rw [hw] at this; exact of_decide_eq_false this.symm
      have HQ2 : Hid (wd [] l = pre ++ [word]) := by show _ = _; rw [HQ1.out, if_neg hwe]
      clear HQ1 hwe; go_wp2_with (at_builtin; refine wpList_append_lies _ rfl _ _ 74 rfl w.heap.size 9 i0 (.string ⟨#[]⟩) 1 16 Tryz.underlying74 hi hz0 hz1 hz2 rfl (by decide) (.slice p m c) m (pre.map strV) rfl hrow ⟨wr.heap.size, 0, none⟩ 1 1 [.string ws] rfl rfl HNW.out (fun u hu => by simp at hu; rw [hu]; rfl) (by decide) (by unfold maxLen; omega) (by omega) hBa _ rfl ?_; intro g6 cap6 w6 hrow6 hgrow6 hat6 hlt6)
      have HR6 : Hid (w6.ownsRow w.heap.size 9 1 (.slice (some ⟨g6, 0, none⟩) (m + 1) cap6) (m + 1) ((pre ++ [word]).map strV)) := by rw [List.map_append]; have h9 := hrow6; rw [HWS.out.1] at h9; exact h9
      have HB6 : Hid (Below w.heap.size w w6) := (HB.out.alloc hbs _).grown hgrow6 hBa (fun kk hkk => HRL.out kk hkk)
      have HM6 : Hid (m + 1 = (pre ++ [word]).length) := by show _ = _; rw [HM.out]; simp
      clear hrow6 hgrow6 hat6 hlt6 hrow; go_wp2_with fail; go_roundw
      case rel => exact ⟨l.length + 1, m + 1, cap6, _, [], pre ++ [word], _, by omega, rfl, rfl, by go_num, by omega, HM6, ⟨rfl, Nat.zero_le _⟩, ⟨fun h => by omega, fun _ => HQ2.out⟩, HR6, HB6⟩
      case measure => simp [intOf]
   ·have h3 : ¬ (k : Int) ≤ (l.length : Int) := by omega
    have HQ1 : Hid (wd [] l = pre) := HQ.out.2 (by omega)
    have HF : Hid (∃ p' n' c', Ending.returned (.slice p m c) = .returned (.slice p' n' c') ∧ n' = (wd [] l).length ∧ wr.ownsRow w.heap.size 9 1 (.slice p' n' c') n' ((wd [] l).map strV) ∧ Below w.heap.size w wr) := ⟨p, m, c, rfl, by rw [HQ1.out]; exact HM.out, by rw [HQ1.out]; exact HR.out, HB.out⟩
    clear HQ hrow; go_wp2_with fail; go_ret; exact HF.out
def dRows : List (Int × Int × List UInt8) := [
 (1200, 0, [58, 45, 32, 45, 45, 62]), (1200, 4, [58, 45, 32, 63, 45]), (1150, 4, [100, 121, 110, 97, 109, 105, 99]), (1100, 1, [59]), (1050, 1, [45, 62]), (1000, 1, [44]), (900, 3, [92, 43]),
 (700, 0, [61, 32, 92, 61, 32, 61, 61, 32, 92, 61, 61, 32, 64, 60, 32, 64, 61, 60, 32, 64, 62, 32, 64, 62, 61, 32, 61, 46, 46, 32, 105, 115, 32, 61, 58, 61, 32, 61, 92, 61, 32, 60, 32, 61, 60, 32, 62, 32, 62, 61]),
 (500, 2, [43, 32, 45, 32, 47, 92, 32, 92, 47, 32, 120, 111, 114]), (400, 2, [42, 32, 47, 32, 47, 47, 32, 109, 111, 100, 32, 114, 101, 109, 32, 60, 60, 32, 62, 62]), (200, 0, [42, 42]), (200, 1, [94]), (200, 3, [45, 32, 43, 32, 92])]
def opsRow (r : Int × Int × List UInt8) : List Cel := (wd [] r.2.2).map (fun x => (r.1, r.2.1, numsU x))
def dOps : List Cel := dRows.flatMap opsRow
theorem dRows_len : dRows.length = 13 := rfl
theorem dOps_len : dOps.length ≤ 60 := by decide
theorem fields_rows : dRows.all (fun r => decide (Lib.fields r.2.2 = wd [] r.2.2)) = true := by decide
theorem ascii_rows : dRows.all (fun r => r.2.2.all (fun b => decide (b.toNat < 128)) && decide (r.2.2.length < 100)) = true := by decide
structure Rel (T cs : List Cel) : Prop where
 asc : Asc cs
 apart : Apart T
 same : ∀ x, x ∈ T ↔ x ∈ cs
 post : ∀ x ∈ T, postB x.2.1 = false
theorem Rel.nil : Rel [] [] := ⟨List.Pairwise.nil, List.Pairwise.nil, fun _ => Iff.rfl, fun x h => by cases h⟩
theorem putO_asc' {cs : List Cel} {o : Cel} (hA : Asc cs) : Asc (putO cs o) := by
 rw [putO]
 cases h : (o.1 == 0) with
 | true => rw [putL_done]; exact hA.filter _
 | false => exact putL_asc o cs hA
theorem Rel.code {T cs : List Cel} (h : Rel T cs) {o : Cel} (hp : postB o.2.1 = false) (hl : T.length < 200) : addCode T o = 0 := by
 rw [addCode]
 cases hf : findK T (keyC o) with
 | some x =>
   have := h.post x (findK_some hf).1
   simp [this, hp]
 | none =>
   have : ¬ T.length = 200 := by omega
   simp [this]
theorem Rel.step {T cs : List Cel} (h : Rel T cs) {o : Cel} (h0 : o.1 ≠ 0) (hp : postB o.2.1 = false) (hl : T.length < 200) : Rel (addT T o) (putO cs o) := by
 have hc := h.code hp hl
 have e : addT T o = dropK T (keyC o) ++ [o] := by rw [addT, if_neg (by rw [hc]; simp), if_neg h0]
 refine ⟨putO_asc' h.asc, ?_, fun x => ?_, fun x hx => ?_⟩
 ·rw [e]
  refine List.pairwise_append.2 ⟨List.Pairwise.filter _ h.apart, by simp, fun x hx y hy => ?_⟩
  simp at hy
  rw [hy]; exact (mem_dropK.1 hx).2
 ·have hz : (o.1 == 0) = false := by simpa using h0
  rw [e, putO, hz, putL_mem]; simp only [List.mem_append, mem_dropK, List.mem_singleton, h.same]
  constructor
  ·rintro (h | h)
   ·exact .inr h
   ·exact .inl h
  ·rintro (h | h)
   ·exact .inr h
   ·exact .inl h
 ·rw [e] at hx
  rcases List.mem_append.1 hx with hx | hx
  ·exact h.post x (mem_dropK.1 hx).1
  ·simp at hx; rw [hx]; exact hp
theorem putO_len1 (cs : List Cel) (o : Cel) : (putO cs o).length ≤ cs.length + 1 := by
 have h : ∀ (d : Bool) (cs : List Cel), (putL o d cs).length ≤ cs.length + 1 := fun d cs => by
  induction cs generalizing d with
  | nil => cases d <;> simp [putL]
  | cons x r ih =>
    rw [putL]
    split
    ·have := ih d; simp; omega
    ·split
     ·rw [putL_done]
      have h2 := List.length_filter_le (fun x => decide (keyC x ≠ keyC o)) r; simp only [List.length_cons]; omega
     ·have := ih d; simp; omega
 exact h _ cs
theorem fold_len : ∀ (os cs : List Cel), (os.foldl putO cs).length ≤ cs.length + os.length
 | [], cs => by simp
 | o :: r, cs => by
   have h1 := fold_len r (putO cs o); have h2 := putO_len1 cs o; simp only [List.foldl_cons, List.length_cons]; omega
def rowAt (i : Nat) : Int × Int × List UInt8 := dRows.getD i (0, 0, [])
theorem rowAt_mem {i : Nat} (h : i < 13) : rowAt i ∈ dRows := by
 rw [rowAt, List.getD, List.getElem?_eq_getElem (by rw [dRows_len]; exact h)]; exact List.getElem_mem _
def restO (i : Nat) : List Cel := (dRows.drop i).flatMap opsRow
theorem restO_at {i : Nat} (h : i < 13) : restO i = opsRow (rowAt i) ++ restO (i + 1) := by
 have h' : i < dRows.length := by rw [dRows_len]; exact h
 rw [restO, List.drop_eq_getElem_cons h', List.flatMap_cons, rowAt, List.getD, List.getElem?_eq_getElem h']; rfl
theorem restO_end : restO 13 = [] := rfl
theorem wordsLen {i : Nat} (h : i < 13) : (rowAt i).2.2.length < 100 ∧ (∀ b ∈ (rowAt i).2.2, b.toNat < 128) ∧ Lib.fields (rowAt i).2.2 = wd [] (rowAt i).2.2 := by
 have h1 := List.all_eq_true.1 ascii_rows _ (rowAt_mem h); have h2 := List.all_eq_true.1 fields_rows _ (rowAt_mem h); simp only [Bool.and_eq_true, decide_eq_true_eq, List.all_eq_true] at h1 h2; exact ⟨h1.2, h1.1, h2⟩
def dTab : List Cel := dOps.foldl putO []
theorem flatO_one (r : RC) : flatO [r] = roV r := by simp [flatO]
theorem roV_one (r : RC) : ∀ u ∈ roV r, u.oneCell' = true := fun u hu => by
 simp [roV] at hu
 rcases hu with rfl | rfl | rfl <;> rfl
end
end Go.Proofs.YtfgmenkoeflhaaaGreatDoor
