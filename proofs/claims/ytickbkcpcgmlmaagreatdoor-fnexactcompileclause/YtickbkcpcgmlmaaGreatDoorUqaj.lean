/- Texts of DefW, IbP, IbN, IbU. Own work of the verifier. -/
import Derived.Test.YtickbkcpcgmlmaaGreatDoorUqae
namespace Go.Proofs.YtickbkcpcgmlmaaGreatDoor
set_option linter.unusedVariables false
set_option maxRecDepth 100000
section
open Go Go.RowKit
def wd (word : List UInt8) : List UInt8 → List (List UInt8)
 | [] => if word = [] then [] else [word]
 | b :: r => if b = 32 then (if word = [] then wd [] r else word :: wd [] r) else wd (word ++ [b]) r
theorem bOf_empty (l : List UInt8) : (bOf l).toList.isEmpty = decide (l = []) := by rw [bOf_list]; cases l <;> simp
theorem drop_u (l : List UInt8) (k : Nat) (h : k < l.length) : l.drop k = l[k] :: l.drop (k + 1) := List.drop_eq_getElem_cons h
theorem wd_at (word l : List UInt8) (k : Nat) (h : k < l.length) : wd word (l.drop k) = if l[k] = 32 then (if word = [] then wd [] (l.drop (k + 1)) else word :: wd [] (l.drop (k + 1))) else wd (word ++ [l[k]]) (l.drop (k + 1)) := by
 rw [drop_u l k h, wd]
theorem infoStr : (Tryz.prog.info? 9).map (fun i => (i.zero, i.size, i.bytes)) = some (some (.string ⟨#[]⟩), 1, 16) := by kernel_rfl
theorem bOf_app (a b : List UInt8) : bOf a ++ bOf b = bOf (a ++ b) := by
 apply ByteArray.ext
 rw [ByteArray.data_append]
 simp [bOf]
theorem bOf_cut (l : List UInt8) (k : Nat) (h : k < l.length) : (bOf l).extract k (k + 1) = bOf [l[k]] := by
 apply ByteArray.ext
 rw [ByteArray.data_extract]
 apply Array.ext
 ·simp [bOf]; omega
 ·intro i h1 h2
  have : i = 0 := by simp [bOf] at h2; omega
  subst this
  simp [bOf]
set_option maxHeartbeats 2000000 in
theorem l3words_any (l : List UInt8) (w : World) (hl : l.length ≤ 1000) :
  Calls Tryz.prog 184 #[.string (bOf l)] w fun e w' => ∃ p n c, e = .returned (.slice p n c) ∧ n = (wd [] l).length ∧ w'.ownsRow w.heap.size 9 1 (.slice p n c) n ((wd [] l).map strV) ∧ Below w.heap.size w w' := by
 obtain ⟨i0, hi, hz0, hz1, hz2⟩ := info_parts infoStr
 obtain ⟨s, es⟩ : ∃ s, s = bOf l := ⟨_, rfl⟩
 have hsz : s.size = l.length := by rw [es, bOf_size]
 have HES : Hid (s = bOf l) := es; rw [← es]; clear es
 go_enter Tryz.func184, Tryz.ntmps184
 go_wp2_with fail
 go_loopw [3, 4, 5] (fun o wvl i wr => ∃ (k m c : Nat) (p : Option Addr) (word : List UInt8) (pre : List (List UInt8)) (ws : ByteArray), k ≤ l.length + 1 ∧ o = .slice p m c ∧ wvl = .string ws ∧ i = .int .i64 k ∧ m ≤ k ∧ Hid (m = pre.length) ∧ Hid (ws = bOf word ∧ word.length ≤ k) ∧ Hid ((k ≤ l.length → wd [] l = pre ++ wd word (l.drop k)) ∧ (k = l.length + 1 → wd [] l = pre)) ∧
  Hid (wr.ownsRow w.heap.size 9 1 (.slice p m c) m (pre.map strV)) ∧ Hid (Below w.heap.size w wr)) (fun _ _ i _ => l.length + 2 - (intOf i).toNat)
 case atStart => exact ⟨0, 0, 0, none, [], [], _, by omega, rfl, rfl, rfl, Nat.le_refl _, rfl, ⟨rfl, Nat.le_refl _⟩, ⟨fun _ => rfl, fun h => by omega⟩, World.ownsRow_nil _ _ _ _, Below.refl _ _⟩
 case round =>
  obtain ⟨k, m, c, p, word, pre, ws, hk, rfl, rfl, rfl, hmk, HM, HWS, HQ, HR, HB⟩ := hrel; have hbs : w.heap.size ≤ wr.heap.size := HB.out.size; have hrow := HR.out.alloc (.cells #[.string ws] 9)
  have hBa : w.heap.size ≤ (wr.alloc (.cells #[.string ws] 9)).heap.size := by simp; omega
  have HEM : Hid (ws.toList.isEmpty = decide (word = [])) := by show _ = _; rw [HWS.out.1]; exact bOf_empty word
  have HNW : Hid (∀ j u, [Value.string ws][j]? = some u → (wr.alloc (.cells #[.string ws] 9)).cell? ((⟨wr.heap.size, 0, none⟩ : Addr).add j) = some u) := fun j u hu => by
   match j, hu with
   | 0, hu => simp at hu; rw [← hu]; simp [Addr.add, World.cell?_alloc_new]
   | j + 1, hu => simp at hu
  have HRL : Hid (∀ kk, Value.ownBlock (.slice p m c) = some kk → w.heap.size ≤ kk) := fun kk hkk => (HR.out.lt kk hkk).1
  by_cases hlt : k < l.length
  ·have h2 : ((k : Int) == (l.length : Int)) = false := by simp; omega
   have h3 : (k : Int) ≤ (l.length : Int) := by omega
   have hks : k < s.size := by rw [hsz]; exact hlt
   have HGET : Hid (s[k] = l[k]) := by
    show _ = _
    have : ∀ (t : ByteArray) (h : k < t.size), t = bOf l → t[k] = l[k] := fun t h e => by subst e; rfl
    exact this s hks HES.out
   have HAT : Hid _ := wd_at word l k hlt
   by_cases hb : l[k] = 32
   ·have hb' : ((s[k].toNat : Int) == 32) = true := by rw [HGET.out, hb]; rfl
    have HQ1 : Hid (wd [] l = pre ++ (if word = [] then [] else [word]) ++ wd [] (l.drop (k + 1))) := by
     show _ = _
     rw [HQ.out.1 (by omega), HAT.out, if_pos hb]
     split <;> simp
    clear HAT HGET HQ
    cases hw : ws.toList.isEmpty with
    | true =>
      have hwe : word = [] := by have := HEM.out; rw [hw] at this; exact of_decide_eq_true this.symm
      have HQ2 : Hid (wd [] l = pre ++ wd [] (l.drop (k + 1))) := by show _ = _; rw [HQ1.out, if_pos hwe]; simp
      clear HQ1 hwe hrow; go_wp2_with fail; go_roundw
      case rel => exact ⟨k + 1, m, c, p, [], pre, _, by omega, rfl, rfl, by go_num, by omega, HM, ⟨rfl, Nat.zero_le _⟩, ⟨fun _ => HQ2.out, fun h => by omega⟩, HR, HB⟩
      case measure => simp [intOf]; omega
    | false =>
      have hwe : ¬ word = [] := by have := HEM.out; rw [hw] at this; exact of_decide_eq_false this.symm
      have HQ2 : Hid (wd [] l = (pre ++ [word]) ++ wd [] (l.drop (k + 1))) := by show _ = _; rw [HQ1.out, if_neg hwe]
      clear HQ1 hwe; go_wp2_with (at_builtin; refine wpList_append_lies _ rfl _ _ 128 rfl w.heap.size 9 i0 (.string ⟨#[]⟩) 1 16 Tryz.underlying128 hi hz0 hz1 hz2 rfl (by decide) (.slice p m c) m (pre.map strV) rfl hrow ⟨wr.heap.size, 0, none⟩ 1 1 [.string ws] rfl rfl HNW.out (fun u hu => by simp at hu; rw [hu]; rfl) (by decide) (by unfold maxLen; omega) (by omega) hBa _ rfl ?_; intro g6 cap6 w6 hrow6 hgrow6 hat6 hlt6)
      have HR6 : Hid (w6.ownsRow w.heap.size 9 1 (.slice (some ⟨g6, 0, none⟩) (m + 1) cap6) (m + 1) ((pre ++ [word]).map strV)) := by rw [List.map_append]; have h9 := hrow6; rw [HWS.out.1] at h9; exact h9
      have HB6 : Hid (Below w.heap.size w w6) := (HB.out.alloc hbs _).grown hgrow6 hBa (fun kk hkk => HRL.out kk hkk)
      have HM6 : Hid (m + 1 = (pre ++ [word]).length) := by show _ = _; rw [HM.out]; simp
      clear hrow6 hgrow6 hat6 hlt6 hrow; go_wp2_with fail; go_roundw
      case rel => exact ⟨k + 1, m + 1, cap6, _, [], pre ++ [word], _, by omega, rfl, rfl, by go_num, by omega, HM6, ⟨rfl, Nat.zero_le _⟩, ⟨fun _ => HQ2.out, fun h => by omega⟩, HR6, HB6⟩
      case measure => simp [intOf]; omega
   ·have hb' : ((s[k].toNat : Int) == 32) = false := by
     rw [HGET.out]
     cases h9 : ((l[k].toNat : Int) == 32) with
     | false => rfl
     | true =>
       exfalso
       apply hb
       have h10 : (l[k].toNat : Int) = 32 := by simpa using h9
       exact UInt8.toNat_inj.1 (by rw [show (32 : UInt8).toNat = 32 from rfl]; omega)
    have HQ2 : Hid (wd [] l = pre ++ wd (word ++ [l[k]]) (l.drop (k + 1))) := by show _ = _; rw [HQ.out.1 (by omega), HAT.out, if_neg hb]
    have HCAT : Hid (ws ++ s.extract k (k + 1) = bOf (word ++ [l[k]])) := by show _ = _; rw [HWS.out.1, HES.out, bOf_cut l k hlt, bOf_app]
    have h5 : (k : Int) + 1 ≤ (l.length : Int) := by omega
    have h6 : k + 1 ≤ l.length := by omega
    have h7 : ws.size ≤ 1000 := by have := HWS.out.2; rw [HWS.out.1, bOf_size]; omega
    clear HAT HGET HQ hrow; go_wp2_with fail; go_roundw
    case rel => exact ⟨k + 1, m, c, p, word ++ [l[k]], pre, _, by omega, rfl, rfl, by go_num, by omega, HM, ⟨HCAT.out, by simp; exact HWS.out.2⟩, ⟨fun _ => HQ2.out, fun h => by omega⟩, HR, HB⟩
    case measure => simp [intOf]; omega
  ·by_cases he : k = l.length
   ·subst he
    have h2 : ((l.length : Int) == (l.length : Int)) = true := by simp
    have HQ1 : Hid (wd [] l = pre ++ (if word = [] then [] else [word])) := by
     show _ = _
     have h9 := HQ.out.1 (Nat.le_refl _); rw [List.drop_length] at h9; exact h9
    clear HQ
    cases hw : ws.toList.isEmpty with
    | true =>
      have hwe : word = [] := by have := HEM.out; rw [hw] at this; exact of_decide_eq_true this.symm
      have HQ2 : Hid (wd [] l = pre) := by show _ = _; rw [HQ1.out, if_pos hwe]; simp
      clear HQ1 hwe hrow; go_wp2_with fail; go_roundw
      case rel => exact ⟨l.length + 1, m, c, p, [], pre, _, by omega, rfl, rfl, by go_num, by omega, HM, ⟨rfl, Nat.zero_le _⟩, ⟨fun h => by omega, fun _ => HQ2.out⟩, HR, HB⟩
      case measure => simp [intOf]
    | false =>
      have hwe : ¬ word = [] := by have := HEM.out; rw [hw] at this; exact of_decide_eq_false this.symm
      have HQ2 : Hid (wd [] l = pre ++ [word]) := by show _ = _; rw [HQ1.out, if_neg hwe]
      clear HQ1 hwe; go_wp2_with (at_builtin; refine wpList_append_lies _ rfl _ _ 128 rfl w.heap.size 9 i0 (.string ⟨#[]⟩) 1 16 Tryz.underlying128 hi hz0 hz1 hz2 rfl (by decide) (.slice p m c) m (pre.map strV) rfl hrow ⟨wr.heap.size, 0, none⟩ 1 1 [.string ws] rfl rfl HNW.out (fun u hu => by simp at hu; rw [hu]; rfl) (by decide) (by unfold maxLen; omega) (by omega) hBa _ rfl ?_; intro g6 cap6 w6 hrow6 hgrow6 hat6 hlt6)
      have HR6 : Hid (w6.ownsRow w.heap.size 9 1 (.slice (some ⟨g6, 0, none⟩) (m + 1) cap6) (m + 1) ((pre ++ [word]).map strV)) := by rw [List.map_append]; have h9 := hrow6; rw [HWS.out.1] at h9; exact h9
      have HB6 : Hid (Below w.heap.size w w6) := (HB.out.alloc hbs _).grown hgrow6 hBa (fun kk hkk => HRL.out kk hkk)
      have HM6 : Hid (m + 1 = (pre ++ [word]).length) := by show _ = _; rw [HM.out]; simp
      clear hrow6 hgrow6 hat6 hlt6 hrow; go_wp2_with fail; go_roundw
      case rel => exact ⟨l.length + 1, m + 1, cap6, _, [], pre ++ [word], _, by omega, rfl, rfl, by go_num, by omega, HM6, ⟨rfl, Nat.zero_le _⟩, ⟨fun h => by omega, fun _ => HQ2.out⟩, HR6, HB6⟩
      case measure => simp [intOf]
   ·have h3 : ¬ (k : Int) ≤ (l.length : Int) := by omega
    have HQ1 : Hid (wd [] l = pre) := HQ.out.2 (by omega)
    have HF : Hid (∃ p' n' c', Ending.returned (.slice p m c) = .returned (.slice p' n' c') ∧ n' = (wd [] l).length ∧ wr.ownsRow w.heap.size 9 1 (.slice p' n' c') n' ((wd [] l).map strV) ∧ Below w.heap.size w wr) := ⟨p, m, c, rfl, by rw [HQ1.out]; exact HM.out, by rw [HQ1.out]; exact HR.out, HB.out⟩
    clear HQ hrow; go_wp2_with fail; go_ret; exact HF.out
def bRows : List (List UInt8) := [[116, 114, 117, 101, 32, 102, 97, 105, 108, 32, 102, 97, 108, 115, 101, 32, 110, 108],
 [118, 97, 114, 32, 110, 111, 110, 118, 97, 114, 32, 97, 116, 111, 109, 32, 105, 110, 116, 101, 103, 101, 114, 32, 97, 116, 111, 109, 105, 99, 32, 99, 111, 109, 112, 111, 117, 110, 100, 32, 99, 97, 108, 108, 97, 98, 108, 101, 32, 105, 115, 95, 108, 105, 115, 116, 32, 103, 114, 111, 117, 110, 100, 32, 119, 114, 105, 116, 101, 32, 119, 114, 105, 116, 101, 113, 32, 112, 114, 105, 110, 116, 32, 116, 97, 98],
 [61, 32, 92, 61, 32, 61, 61, 32, 92, 61, 61, 32, 64, 60, 32, 64, 61, 60, 32, 64, 62, 32, 64, 62, 61, 32, 105, 115, 32, 61, 58, 61, 32, 61, 92, 61, 32, 60, 32, 61, 60, 32, 62, 32, 62, 61, 32, 61, 46, 46, 32, 99, 111, 112, 121, 95, 116, 101, 114, 109, 32, 108, 101, 110, 103, 116, 104, 32, 97, 116, 111, 109, 95, 108, 101, 110, 103, 116, 104, 32, 97, 116, 111, 109, 95, 99, 111, 100, 101, 115, 32, 97, 116, 111, 109, 95, 99, 104, 97, 114, 115, 32, 99, 104, 97, 114, 95, 99, 111, 100, 101, 32, 110, 117, 109, 98, 101, 114, 95, 99, 111, 100, 101, 115, 32, 109, 115, 111, 114, 116, 32, 115, 111, 114, 116],
 [99, 111, 109, 112, 97, 114, 101, 32, 102, 117, 110, 99, 116, 111, 114, 32, 97, 114, 103]]
def bRow (k : Nat) : List UInt8 := bRows.getD k []
def bTab (k : Nat) : List (List UInt8 × Int) := (List.range k).flatMap fun j => (wd [] (bRow j)).map fun x => (x, (j : Int))
theorem bTab_next (k : Nat) : bTab (k + 1) = bTab k ++ (wd [] (bRow k)).map fun x => (x, (k : Int)) := by simp [bTab, List.range_succ]
theorem bTab_len : (bTab 4).length = 45 ∧ (List.range 4).all (fun k => decide ((bRow k).length ≤ 400 ∧ (wd [] (bRow k)).length ≤ 45 ∧ (bTab k).length + (wd [] (bRow k)).length ≤ 45)) = true := by decide
def isBu (x : List UInt8) (a : Int) : Bool := (bTab 4).any fun p => decide (p.1 = x) && decide (p.2 = a)
def bEnts : List (List UInt8 × Int) := [
 ([116, 114, 117, 101], 0),
 ([102, 97, 105, 108], 0),
 ([102, 97, 108, 115, 101], 0),
 ([61], 2),
 ([92, 61], 2),
 ([61, 61], 2),
 ([92, 61, 61], 2),
 ([64, 60], 2),
 ([64, 61, 60], 2),
 ([64, 62], 2),
 ([64, 62, 61], 2),
 ([99, 111, 109, 112, 97, 114, 101], 3),
 ([118, 97, 114], 1),
 ([110, 111, 110, 118, 97, 114], 1),
 ([97, 116, 111, 109], 1),
 ([105, 110, 116, 101, 103, 101, 114], 1),
 ([97, 116, 111, 109, 105, 99], 1),
 ([99, 111, 109, 112, 111, 117, 110, 100], 1),
 ([99, 97, 108, 108, 97, 98, 108, 101], 1),
 ([105, 115, 95, 108, 105, 115, 116], 1),
 ([103, 114, 111, 117, 110, 100], 1),
 ([105, 115], 2),
 ([61, 58, 61], 2),
 ([61, 92, 61], 2),
 ([60], 2),
 ([61, 60], 2),
 ([62], 2),
 ([62, 61], 2),
 ([102, 117, 110, 99, 116, 111, 114], 3),
 ([97, 114, 103], 3),
 ([61, 46, 46], 2),
 ([99, 111, 112, 121, 95, 116, 101, 114, 109], 2),
 ([108, 101, 110, 103, 116, 104], 2),
 ([97, 116, 111, 109, 95, 108, 101, 110, 103, 116, 104], 2),
 ([97, 116, 111, 109, 95, 99, 111, 100, 101, 115], 2),
 ([97, 116, 111, 109, 95, 99, 104, 97, 114, 115], 2),
 ([99, 104, 97, 114, 95, 99, 111, 100, 101], 2),
 ([110, 117, 109, 98, 101, 114, 95, 99, 111, 100, 101, 115], 2),
 ([109, 115, 111, 114, 116], 2),
 ([115, 111, 114, 116], 2),
 ([119, 114, 105, 116, 101], 1),
 ([119, 114, 105, 116, 101, 113], 1),
 ([112, 114, 105, 110, 116], 1),
 ([110, 108], 0),
 ([116, 97, 98], 1)]
theorem bEnts_tab : (bEnts.all fun p => (bTab 4).any fun q => decide (q.1 = p.1) && decide (q.2 = p.2)) = true := by decide
theorem bTab_ents : ((bTab 4).all fun p => bEnts.any fun q => decide (q.1 = p.1) && decide (q.2 = p.2)) = true := by decide
theorem isBu_ents (x : List UInt8) (a : Int) : isBu x a = bEnts.any fun q => decide (q.1 = x) && decide (q.2 = a) := by
 have key : ∀ l l' : List (List UInt8 × Int), (l.all fun p => l'.any fun q => decide (q.1 = p.1) && decide (q.2 = p.2)) = true → (l.any fun q => decide (q.1 = x) && decide (q.2 = a)) = true → (l'.any fun q => decide (q.1 = x) && decide (q.2 = a)) = true := by
  intro l l' h h1
  obtain ⟨p, hp, h2⟩ := List.any_eq_true.1 h1; simp only [Bool.and_eq_true, decide_eq_true_eq] at h2; have h3 := List.all_eq_true.1 h p hp; rw [h2.1, h2.2] at h3; exact h3
 unfold isBu
 cases h : (bTab 4).any fun p => decide (p.1 = x) && decide (p.2 = a) with
 | true => exact (key _ _ bTab_ents h).symm
 | false =>
   cases h2 : bEnts.any fun q => decide (q.1 = x) && decide (q.2 = a) with
   | false => rfl
   | true => rw [key _ _ bEnts_tab h2] at h; cases h
end
section
open Go Go.RowKit Go.Maps Go.Shelf
set_option linter.unusedSimpArgs false
noncomputable def bOps : Array Oper := match Tryz.f24.body with
 | some (.seq _ (.seq (.region _ ops _) _)) => ops
 | _ => #[]
def bEnt (j : Nat) : List UInt8 × Int := bEnts.getD j ([], 0)
def bFns : List Nat := [53, 54, 54, 55, 56, 57, 58, 59, 60, 61, 62, 63, 64, 65, 66, 67, 68, 69, 70, 71, 72, 73, 74, 75, 76, 77, 78, 79, 80, 81, 82, 83, 84, 85, 86, 87, 88, 89, 90, 91, 92, 93, 93, 94, 95]
def bFn (j : Nat) : Nat := bFns.getD j 0
def bKey (j : Nat) : Fun := (bOf (bEnt j).1, (bEnt j).2)
def bKeyV (j : Nat) : Value := .agg #[.string (bKey j).1, .int .i64 (bKey j).2]
def insB (L : Array Bool) (f : Fun) : Option Nat := ((List.range 45).find? fun j => decide (bKey j = f) && L.getD (2 * j + 2) false).map bFn
def buTab (f : Fun) : Option Nat := ((List.range 45).find? fun j => decide (bKey j = f)).map bFn
theorem bEnt_inj : ((List.range 45).all fun i => (List.range 45).all fun j => decide (bEnt i = bEnt j → i = j)) = true := by decide
theorem bOf_inj {a b : List UInt8} (h : bOf a = bOf b) : a = b := by
 have := congrArg ByteArray.toList h
 rwa [bOf_list, bOf_list] at this
theorem bKey_inj : ∀ i, i < 45 → ∀ j, j < 45 → bKey i = bKey j → i = j := by
 intro i hi j hj e
 have h1 := List.all_eq_true.1 (List.all_eq_true.1 bEnt_inj i (List.mem_range.2 hi)) j (List.mem_range.2 hj); simp only [decide_eq_true_eq] at h1; exact h1 (Prod.ext (bOf_inj (Prod.mk.inj e).1) (Prod.mk.inj e).2)
theorem insB_none {L : Array Bool} (h : ∀ j, j < 45 → L.getD (2 * j + 2) false = false) : insB L = fun _ => none := by
 funext f
 unfold insB
 rw [List.find?_eq_none.2 (fun j hj => by simp [h j (List.mem_range.1 hj)])]
 rfl
theorem insB_all {L : Array Bool} (h : ∀ j, j < 45 → L.getD (2 * j + 2) false = true) : insB L = buTab := by
 funext f
 unfold insB buTab
 congr 1
 have : ∀ l : List Nat, (∀ j ∈ l, j < 45) → (l.find? fun j => decide (bKey j = f) && L.getD (2 * j + 2) false) = l.find? fun j => decide (bKey j = f) := by
  intro l
  induction l with
  | nil => intro _; rfl
  | cons a r ih =>
    intro hl
    simp only [List.find?_cons, h a (hl a (by simp)), Bool.and_true, ih (fun j hj => hl j (by simp [hj]))]
 exact this _ fun j hj => List.mem_range.1 hj
theorem insB_same {L : Array Bool} {i : Nat} (hi : ∀ j, j < 45 → i ≠ 2 * j + 2) : insB (L.setIfInBounds i true) = insB L := by
 funext f
 unfold insB
 congr 1
 have : ∀ l : List Nat, (∀ j ∈ l, j < 45) → (l.find? fun j => decide (bKey j = f) && (L.setIfInBounds i true).getD (2 * j + 2) false) = l.find? fun j => decide (bKey j = f) && L.getD (2 * j + 2) false := by
  intro l
  induction l with
  | nil => intro _; rfl
  | cons a r ih =>
    intro hl
    simp only [List.find?_cons, getD_set_ne false (hi a (hl a (by simp))), ih (fun j hj => hl j (by simp [hj]))]
 exact this _ fun j hj => List.mem_range.1 hj
theorem insB_put {L : Array Bool} {j : Nat} (hj : j < 45) (hl : 2 * j + 2 < L.size) : insB (L.setIfInBounds (2 * j + 2) true) = fun f => if f = bKey j then some (bFn j) else insB L f := by
 funext f
 by_cases e : f = bKey j
 ·subst e
  rw [if_pos rfl]
  have : ((List.range 45).find? fun i => decide (bKey i = bKey j) && (L.setIfInBounds (2 * j + 2) true).getD (2 * i + 2) false) = some j := by
   rw [List.find?_eq_some_iff_getElem]; refine ⟨?_, j, by simpa using hj, by simp, fun i hi => ?_⟩
   ·simp [hl]
   ·have hne : bKey i ≠ bKey j := fun e => by have := bKey_inj i (by omega) j hj e; omega
    simp [hne]
  unfold insB
  rw [this]
  rfl
 ·rw [if_neg e]
  unfold insB
  congr 1
  have : ∀ l : List Nat, (l.find? fun i => decide (bKey i = f) && (L.setIfInBounds (2 * j + 2) true).getD (2 * i + 2) false) = l.find? fun i => decide (bKey i = f) && L.getD (2 * i + 2) false := by
   intro l
   induction l with
   | nil => rfl
   | cons a r ih =>
     simp only [List.find?_cons, ih]
     by_cases ha : a = j
     ·subst ha
      have : decide (bKey a = f) = false := by simpa using fun h => e h.symm
      simp [this]
     ·rw [getD_set_ne false (by omega)]
  exact this _
theorem find_any {α : Type} (p : α → Bool) : ∀ l : List α, (l.find? p).isSome = l.any p
 | [] => rfl
 | a :: r => by
   rw [List.find?_cons, List.any_cons]
   cases h : p a with
   | true => rfl
   | false => simp only [Bool.false_or]; exact find_any p r
theorem buTab_some (x : List UInt8) (a : Int) : (buTab (bOf x, a)).isSome = isBu x a := by
 rw [isBu_ents]
 have e : bEnts = (List.range 45).map bEnt := by rfl
 rw [e, List.any_map]
 unfold buTab
 rw [Option.isSome_map, find_any]
 congr 1
 funext j
 show decide (bKey j = (bOf x, a)) = (decide ((bEnt j).1 = x) && decide ((bEnt j).2 = a))
 rw [← Bool.decide_and]; refine decide_eq_decide.2 ⟨fun h => ⟨bOf_inj (Prod.mk.inj h).1, (Prod.mk.inj h).2⟩, fun h => ?_⟩; exact Prod.ext (congrArg bOf h.1) h.2
structure BInv (w0 : World) (L : Array Bool) (a : Act) (w : World) : Prop where
 lsz : L.size = 93
 tsz : a.tmps.size = 48
 dfs : a.defers = []
 bel : Below w0.heap.size w0 w
 key : ∀ j, j < 45 → L.getD (2 * j + 1) false = true → a.tmps[j + 2]? = some (bKeyV j)
 tab : if L.getD 0 false = true then ∃ b N, w0.heap.size ≤ b ∧ a.tmps[1]? = some (.map (some b)) ∧ N ≤ 92 ∧ N + unl L ≤ 92 ∧ BuIn w b N (insB L) else ∀ j, j < 45 → L.getD (2 * j + 2) false = false
 mov : L.getD 91 false = true → a.tmps[47]? = a.tmps[1]? ∧ L.getD 0 false = true ∧ ∀ j, j < 45 → L.getD (2 * j + 2) false = true
 fin : L.getD 92 false = true → a.tmps[0]? = a.tmps[47]? ∧ L.getD 91 false = true
theorem bop_build : ∀ j, j < 45 → ∃ o, bOps[2 * j + 1]? = some o ∧ o.guard = none ∧ o.dst = some (j + 2) ∧ o.op = .build 89 #[(0, .const (.string (bKey j).1)), (1, .const (.int .i64 (bKey j).2))]
 | 0, _ => ⟨_, rfl, rfl, rfl, rfl⟩
 | 1, _ => ⟨_, rfl, rfl, rfl, rfl⟩
 | 2, _ => ⟨_, rfl, rfl, rfl, rfl⟩
 | 3, _ => ⟨_, rfl, rfl, rfl, rfl⟩
 | 4, _ => ⟨_, rfl, rfl, rfl, rfl⟩
 | 5, _ => ⟨_, rfl, rfl, rfl, rfl⟩
 | 6, _ => ⟨_, rfl, rfl, rfl, rfl⟩
 | 7, _ => ⟨_, rfl, rfl, rfl, rfl⟩
 | 8, _ => ⟨_, rfl, rfl, rfl, rfl⟩
 | 9, _ => ⟨_, rfl, rfl, rfl, rfl⟩
 | 10, _ => ⟨_, rfl, rfl, rfl, rfl⟩
 | 11, _ => ⟨_, rfl, rfl, rfl, rfl⟩
 | 12, _ => ⟨_, rfl, rfl, rfl, rfl⟩
 | 13, _ => ⟨_, rfl, rfl, rfl, rfl⟩
 | 14, _ => ⟨_, rfl, rfl, rfl, rfl⟩
 | 15, _ => ⟨_, rfl, rfl, rfl, rfl⟩
 | 16, _ => ⟨_, rfl, rfl, rfl, rfl⟩
 | 17, _ => ⟨_, rfl, rfl, rfl, rfl⟩
 | 18, _ => ⟨_, rfl, rfl, rfl, rfl⟩
 | 19, _ => ⟨_, rfl, rfl, rfl, rfl⟩
 | 20, _ => ⟨_, rfl, rfl, rfl, rfl⟩
 | 21, _ => ⟨_, rfl, rfl, rfl, rfl⟩
 | 22, _ => ⟨_, rfl, rfl, rfl, rfl⟩
 | 23, _ => ⟨_, rfl, rfl, rfl, rfl⟩
 | 24, _ => ⟨_, rfl, rfl, rfl, rfl⟩
 | 25, _ => ⟨_, rfl, rfl, rfl, rfl⟩
 | 26, _ => ⟨_, rfl, rfl, rfl, rfl⟩
 | 27, _ => ⟨_, rfl, rfl, rfl, rfl⟩
 | 28, _ => ⟨_, rfl, rfl, rfl, rfl⟩
 | 29, _ => ⟨_, rfl, rfl, rfl, rfl⟩
 | 30, _ => ⟨_, rfl, rfl, rfl, rfl⟩
 | 31, _ => ⟨_, rfl, rfl, rfl, rfl⟩
 | 32, _ => ⟨_, rfl, rfl, rfl, rfl⟩
 | 33, _ => ⟨_, rfl, rfl, rfl, rfl⟩
 | 34, _ => ⟨_, rfl, rfl, rfl, rfl⟩
 | 35, _ => ⟨_, rfl, rfl, rfl, rfl⟩
 | 36, _ => ⟨_, rfl, rfl, rfl, rfl⟩
 | 37, _ => ⟨_, rfl, rfl, rfl, rfl⟩
 | 38, _ => ⟨_, rfl, rfl, rfl, rfl⟩
 | 39, _ => ⟨_, rfl, rfl, rfl, rfl⟩
 | 40, _ => ⟨_, rfl, rfl, rfl, rfl⟩
 | 41, _ => ⟨_, rfl, rfl, rfl, rfl⟩
 | 42, _ => ⟨_, rfl, rfl, rfl, rfl⟩
 | 43, _ => ⟨_, rfl, rfl, rfl, rfl⟩
 | 44, _ => ⟨_, rfl, rfl, rfl, rfl⟩
 | j + 45, h => by omega
theorem bop_put : ∀ j, j < 45 → ∃ o, bOps[2 * j + 2]? = some o ∧ o.guard = none ∧ o.dst = none ∧ o.op = .insert 62 (.tmp 1) (.tmp (j + 2)) (.func (bFn j)) ∧ ([0, 2 * j + 1].all fun i => o.after.toList.any fun e => (e.on == i) && Region.binds .any e) = true
 | 0, _ => ⟨_, rfl, rfl, rfl, rfl, by kernel_rfl⟩
 | 1, _ => ⟨_, rfl, rfl, rfl, rfl, by kernel_rfl⟩
 | 2, _ => ⟨_, rfl, rfl, rfl, rfl, by kernel_rfl⟩
 | 3, _ => ⟨_, rfl, rfl, rfl, rfl, by kernel_rfl⟩
 | 4, _ => ⟨_, rfl, rfl, rfl, rfl, by kernel_rfl⟩
 | 5, _ => ⟨_, rfl, rfl, rfl, rfl, by kernel_rfl⟩
 | 6, _ => ⟨_, rfl, rfl, rfl, rfl, by kernel_rfl⟩
 | 7, _ => ⟨_, rfl, rfl, rfl, rfl, by kernel_rfl⟩
 | 8, _ => ⟨_, rfl, rfl, rfl, rfl, by kernel_rfl⟩
 | 9, _ => ⟨_, rfl, rfl, rfl, rfl, by kernel_rfl⟩
 | 10, _ => ⟨_, rfl, rfl, rfl, rfl, by kernel_rfl⟩
 | 11, _ => ⟨_, rfl, rfl, rfl, rfl, by kernel_rfl⟩
 | 12, _ => ⟨_, rfl, rfl, rfl, rfl, by kernel_rfl⟩
 | 13, _ => ⟨_, rfl, rfl, rfl, rfl, by kernel_rfl⟩
 | 14, _ => ⟨_, rfl, rfl, rfl, rfl, by kernel_rfl⟩
 | 15, _ => ⟨_, rfl, rfl, rfl, rfl, by kernel_rfl⟩
 | 16, _ => ⟨_, rfl, rfl, rfl, rfl, by kernel_rfl⟩
 | 17, _ => ⟨_, rfl, rfl, rfl, rfl, by kernel_rfl⟩
 | 18, _ => ⟨_, rfl, rfl, rfl, rfl, by kernel_rfl⟩
 | 19, _ => ⟨_, rfl, rfl, rfl, rfl, by kernel_rfl⟩
 | 20, _ => ⟨_, rfl, rfl, rfl, rfl, by kernel_rfl⟩
 | 21, _ => ⟨_, rfl, rfl, rfl, rfl, by kernel_rfl⟩
 | 22, _ => ⟨_, rfl, rfl, rfl, rfl, by kernel_rfl⟩
 | 23, _ => ⟨_, rfl, rfl, rfl, rfl, by kernel_rfl⟩
 | 24, _ => ⟨_, rfl, rfl, rfl, rfl, by kernel_rfl⟩
 | 25, _ => ⟨_, rfl, rfl, rfl, rfl, by kernel_rfl⟩
 | 26, _ => ⟨_, rfl, rfl, rfl, rfl, by kernel_rfl⟩
 | 27, _ => ⟨_, rfl, rfl, rfl, rfl, by kernel_rfl⟩
 | 28, _ => ⟨_, rfl, rfl, rfl, rfl, by kernel_rfl⟩
 | 29, _ => ⟨_, rfl, rfl, rfl, rfl, by kernel_rfl⟩
 | 30, _ => ⟨_, rfl, rfl, rfl, rfl, by kernel_rfl⟩
 | 31, _ => ⟨_, rfl, rfl, rfl, rfl, by kernel_rfl⟩
 | 32, _ => ⟨_, rfl, rfl, rfl, rfl, by kernel_rfl⟩
 | 33, _ => ⟨_, rfl, rfl, rfl, rfl, by kernel_rfl⟩
 | 34, _ => ⟨_, rfl, rfl, rfl, rfl, by kernel_rfl⟩
 | 35, _ => ⟨_, rfl, rfl, rfl, rfl, by kernel_rfl⟩
 | 36, _ => ⟨_, rfl, rfl, rfl, rfl, by kernel_rfl⟩
 | 37, _ => ⟨_, rfl, rfl, rfl, rfl, by kernel_rfl⟩
 | 38, _ => ⟨_, rfl, rfl, rfl, rfl, by kernel_rfl⟩
 | 39, _ => ⟨_, rfl, rfl, rfl, rfl, by kernel_rfl⟩
 | 40, _ => ⟨_, rfl, rfl, rfl, rfl, by kernel_rfl⟩
 | 41, _ => ⟨_, rfl, rfl, rfl, rfl, by kernel_rfl⟩
 | 42, _ => ⟨_, rfl, rfl, rfl, rfl, by kernel_rfl⟩
 | 43, _ => ⟨_, rfl, rfl, rfl, rfl, by kernel_rfl⟩
 | 44, _ => ⟨_, rfl, rfl, rfl, rfl, by kernel_rfl⟩
 | j + 45, h => by omega
theorem bop_last : ∃ o, bOps[92]? = some o ∧ o.guard = none ∧ o.dst = some 0 ∧ o.op = .assign (.tmp 47) ∧ ((List.range 92).all fun i => o.after.toList.any fun e => (e.on == i) && Region.binds .any e) = true := ⟨_, rfl, rfl, rfl, rfl, by kernel_rfl⟩
theorem bop_move : ∃ o, bOps[91]? = some o ∧ o.guard = none ∧ o.dst = some 47 ∧ o.op = .move (.tmp 1) ∧ ((List.range 91).all fun i => o.after.toList.any fun e => (e.on == i) && Region.binds .any e) = true := ⟨_, rfl, rfl, rfl, rfl, by kernel_rfl⟩
theorem bop_map : ∃ o, bOps[0]? = some o ∧ o.guard = none ∧ o.dst = some 1 ∧ o.op = .makeMap 62 none := ⟨_, rfl, rfl, rfl, rfl⟩
theorem bsize_ops : bOps.size = 93 := rfl
theorem bback_only : ((List.range 93).all fun i => (bOps[i]?).all fun o => o.after.toList.all fun e => decide (e.on < i)) = true := by kernel_rfl
theorem bEnt_small : ((List.range 45).all fun j => decide ((bEnt j).1.length ≤ 100 ∧ 0 ≤ (bEnt j).2 ∧ (bEnt j).2 ≤ 3)) = true := by decide
theorem bKey_ok (j : Nat) (hj : j < 45) : okN (bKey j) := by
 have h6 := List.all_eq_true.1 bEnt_small j (List.mem_range.2 hj); simp only [decide_eq_true_eq] at h6; refine ⟨?_, WalkArith.wf_i64 ?_⟩
 ·show (bOf (bEnt j).1).size ≤ _
  rw [bOf_size]; omega
 ·show _ ≤ (bEnt j).2 ∧ (bEnt j).2 ≤ _
  omega
set_option maxHeartbeats 4000000 in
theorem bnew_step {Q : Exit → Act → World → Prop} (w0 : World) (L : Array Bool) (a : Act) (w : World) (I : BInv w0 L a w) (i : Nat) (hi : i ∈ Region.ready .any bOps L) : wpOp Tryz.prog bOps Q i (fun a' w' => BInv w0 (L.setIfInBounds i true) a' w') a w := by
 obtain ⟨hn, o, ho, haft⟩ := mem_ready.1 hi
 have hi93 : i < 93 := by
  rw [← bsize_ops]; exact (Array.getElem?_eq_some_iff.1 ho).1
 have hLs : L.size = 93 := I.lsz; have hnf : L.getD i false = false := getD_false hn; have hu := unl_set hn
 have hcase : i = 0 ∨ i = 91 ∨ i = 92 ∨ (i % 2 = 1 ∧ i / 2 < 45) ∨ (i % 2 = 0 ∧ 2 ≤ i ∧ i ≤ 90) := by omega
 rcases hcase with h | h | h | ⟨h, h2⟩ | ⟨h, h2⟩
 ·subst h
  obtain ⟨o', ho', hg, hd, hop⟩ := bop_map; obtain rfl := Option.some.inj (ho.symm.trans ho'); have ht := I.tab; rw [if_neg (by rw [hnf]; decide)] at ht; refine op_value (v := .map (some w.heap.size)) (w' := w.alloc (.map #[] 0)) ho hg (by simp [execOp, hop, go_sem, run_makeMap, Result.andThen]) ?_; rw [hd]; refine ⟨by simpa using hLs, by rw [put_size]; exact I.tsz, by rw [put_defs]; exact I.dfs, I.bel.alloc I.bel.size _, fun j hj h => ?_, ?_, fun h => ?_, fun h => ?_⟩
  ·rw [put_other (by omega)]; exact I.key j hj (set_at h (by omega))
  ·rw [if_pos (set_self (by omega))]
   refine ⟨w.heap.size, 0, I.bel.size, put_same (by rw [I.tsz]; decide), by omega, ?_, ?_⟩
   ·have := unl_le L; omega
   ·rw [insB_same (fun j _ => by omega), insB_none ht]; exact BuIn.made w
  ·have := (I.mov (set_at h (by decide))).2.1
   rw [hnf] at this; cases this
  ·have := (I.mov (I.fin (set_at h (by decide))).2).2.1
   rw [hnf] at this; cases this
 ·subst h
  obtain ⟨o', ho', hg, hd, hop, hall⟩ := bop_move; obtain rfl := Option.some.inj (ho.symm.trans ho')
  have hdep : ∀ p, p < 91 → L.getD p false = true := fun p hp => dep_of (List.all_eq_true.1 hall p (List.mem_range.2 hp)) haft
  have ht := I.tab; rw [if_pos (hdep 0 (by decide))] at ht; obtain ⟨b, N, h1, h2, h3, h4, h5⟩ := ht; refine op_value (v := .map (some b)) (w' := w) ho hg (by simp [execOp, hop, go_sem, Act.eval, h2]) ?_; rw [hd]; refine ⟨by simpa using hLs, by rw [put_size]; exact I.tsz, by rw [put_defs]; exact I.dfs, I.bel, fun j hj h => ?_, ?_, fun h => ?_, fun h => ?_⟩
  ·rw [put_other (by omega)]; exact I.key j hj (set_at h (by omega))
  ·rw [if_pos (by rw [getD_set_ne false (by decide)]; exact hdep 0 (by decide))]
   exact ⟨b, N, h1, by rw [put_other (by decide)]; exact h2, h3, by omega, by rw [insB_same (fun j _ => by omega)]; exact h5⟩
  ·refine ⟨by rw [put_same (by rw [I.tsz]; decide), put_other (by decide), h2], by rw [getD_set_ne false (by decide)]; exact hdep 0 (by decide), fun j hj => ?_⟩
   rw [getD_set_ne false (by omega)]; exact hdep _ (by omega)
  ·have := (I.fin (set_at h (by decide))).2
   rw [hnf] at this
   cases this
 ·subst h
  obtain ⟨o', ho', hg, hd, hop, hall⟩ := bop_last; obtain rfl := Option.some.inj (ho.symm.trans ho')
  have hdep : ∀ p, p < 92 → L.getD p false = true := fun p hp => dep_of (List.all_eq_true.1 hall p (List.mem_range.2 hp)) haft
  have ht := I.tab; rw [if_pos (hdep 0 (by decide))] at ht; obtain ⟨b, N, h1, h2, h3, h4, h5⟩ := ht; have hm := I.mov (hdep 91 (by decide)); have h47 : a.tmps[47]? = some (.map (some b)) := hm.1.trans h2; refine op_value (v := .map (some b)) (w' := w) ho hg (by simp [execOp, hop, go_sem, Act.eval, h47]) ?_; rw [hd]; refine ⟨by simpa using hLs, by rw [put_size]; exact I.tsz, by rw [put_defs]; exact I.dfs, I.bel, fun j hj h => ?_, ?_, fun h => ?_, fun h => ?_⟩
  ·rw [put_other (by omega)]; exact I.key j hj (set_at h (by omega))
  ·rw [if_pos (by rw [getD_set_ne false (by decide)]; exact hdep 0 (by decide))]
   exact ⟨b, N, h1, by rw [put_other (by decide)]; exact h2, h3, by omega, by rw [insB_same (fun j _ => by omega)]; exact h5⟩
  ·exact ⟨by rw [put_other (by decide), put_other (by decide)]; exact hm.1, by rw [getD_set_ne false (by decide)]; exact hm.2.1, fun j hj => by rw [getD_set_ne false (by omega)]; exact hm.2.2 j hj⟩
  ·exact ⟨by rw [put_same (by rw [I.tsz]; decide), put_other (by decide), h47], by rw [getD_set_ne false (by decide)]; exact hdep 91 (by decide)⟩
 ·obtain ⟨j, hj, rfl⟩ : ∃ j, j < 45 ∧ i = 2 * j + 1 := ⟨i / 2, h2, by omega⟩
  obtain ⟨o', ho', hg, hd, hop⟩ := bop_build j hj; obtain rfl := Option.some.inj (ho.symm.trans ho'); refine op_value (v := bKeyV j) (w' := w) ho hg (by simp [execOp, hop, go_sem, Act.eval, bKeyV]) ?_; rw [hd]; refine ⟨by simpa using hLs, by rw [put_size]; exact I.tsz, by rw [put_defs]; exact I.dfs, I.bel, fun j' hj' h => ?_, ?_, fun h => ?_, fun h => ?_⟩
  ·by_cases e : j' = j
   ·subst e; exact put_same (by rw [I.tsz]; omega)
   ·rw [put_other (by omega)]; exact I.key j' hj' (set_at h (by omega))
  ·have ht := I.tab
   by_cases hz : L.getD 0 false = true
   ·rw [if_pos hz] at ht
    obtain ⟨b, N, h1, h2, h3, h4, h5⟩ := ht; rw [if_pos (by rw [getD_set_ne false (by omega)]; exact hz)]; exact ⟨b, N, h1, by rw [put_other (by omega)]; exact h2, h3, by omega, by rw [insB_same (fun j _ => by omega)]; exact h5⟩
   ·rw [if_neg hz] at ht
    rw [if_neg (by rw [getD_set_ne false (by omega)]; exact hz)]
    exact fun j' hj' => by rw [getD_set_ne false (by omega)]; exact ht j' hj'
  ·have hm := I.mov (set_at h (by omega))
   exact ⟨by rw [put_other (by omega), put_other (by omega)]; exact hm.1, by rw [getD_set_ne false (by omega)]; exact hm.2.1, fun j' hj' => by rw [getD_set_ne false (by omega)]; exact hm.2.2 j' hj'⟩
  ·have hm := I.fin (set_at h (by omega))
   exact ⟨by rw [put_other (by omega), put_other (by omega)]; exact hm.1, by rw [getD_set_ne false (by omega)]; exact hm.2⟩
 ·obtain ⟨j, hj, rfl⟩ : ∃ j, j < 45 ∧ i = 2 * j + 2 := ⟨i / 2 - 1, by omega, by omega⟩
  obtain ⟨o', ho', hg, hd, hop, hall⟩ := bop_put j hj; obtain rfl := Option.some.inj (ho.symm.trans ho')
  have hdep : ∀ p, p ∈ [0, 2 * j + 1] → L.getD p false = true := fun p hp => dep_of (List.all_eq_true.1 hall p hp) haft
  have ht := I.tab; rw [if_pos (hdep 0 (by simp))] at ht; obtain ⟨b, N, h1, h2, h3, h4, h5⟩ := ht; have hk := I.key j hj (hdep _ (by simp)); obtain ⟨w', hrun, hT', hgr⟩ := h5.put (by omega) (bKey j) (bKey_ok j hj) (bFn j); have hb : Below w0.heap.size w0 w' := I.bel.trans ((Below.refl _ _).grown hgr I.bel.size (fun k e => by cases e; exact h1))
  unfold wpOp
  simp only [ho, Region.wanted, hg, if_true]
  left
  unfold Oper.wp
  have hfv : a.eval (.func (bFn j)) = .func (.func (bFn j)) #[] #[] := rfl
  simp [execOp, hop, eval_tmp h2, eval_tmp hk, hfv, bKeyV, hrun, Result.andThen, Oper.upon]
  rw [hd]; refine ⟨by simpa using hLs, by rw [put_size]; exact I.tsz, by rw [put_defs]; exact I.dfs, hb, fun j' hj' h => ?_, ?_, fun h => ?_, fun h => ?_⟩
  ·exact I.key j' hj' (set_at h (by omega))
  ·rw [if_pos (by rw [getD_set_ne false (by omega)]; exact hdep 0 (by simp))]
   exact ⟨b, N + 1, h1, h2, by omega, by omega, by rw [insB_put hj (by omega)]; exact hT'⟩
  ·have := (I.mov (set_at h (by omega))).2.2 j hj
   rw [hnf] at this
   cases this
  ·have := (I.mov (I.fin (set_at h (by omega))).2).2.2 j hj
   rw [hnf] at this
   cases this
theorem bnew_end {w0 : World} {L : Array Bool} {a : Act} {w : World} (I : BInv w0 L a w) (hr : Region.ready .any bOps L = []) : ∃ b, a.tmps[0]? = some (.map (some b)) ∧ a.tmps.size = 48 ∧ a.defers = [] ∧ BuIn w b 92 buTab ∧ Below w0.heap.size w0 w := by
 have hall : ∀ n, n ≤ 93 → ∀ i, i < n → L.getD i true = true := by
  intro n
  induction n with
  | zero => intro _ i hi; omega
  | succ n ih =>
    intro hn i hi
    by_cases e : i = n
    ·subst e
     cases hl : L.getD i true with
     | true => rfl
     | false =>
       exfalso
       obtain ⟨o, ho⟩ : ∃ o, bOps[i]? = some o := ⟨_, Array.getElem?_eq_getElem (by rw [bsize_ops]; omega)⟩
       have hb := List.all_eq_true.1 bback_only i (List.mem_range.2 (by omega)); rw [ho] at hb; simp only [Option.all_some, List.all_eq_true, decide_eq_true_eq] at hb
       have : i ∈ Region.ready .any bOps L := mem_ready.2 ⟨hl, o, ho, fun e he _ => by
        have h1 := ih (by omega) e.on (hb e (by simpa using he))
        have hlt : e.on < L.size := by have := hb e (by simpa using he); rw [I.lsz]; omega
        simp only [Array.getD_eq_getD_getElem?, Array.getElem?_eq_getElem hlt, Option.getD_some] at h1 ⊢
        exact h1⟩
       rw [hr] at this
       cases this
    ·exact ih (by omega) i (by omega)
 have h92 : L.getD 92 false = true := by
  have h1 := hall 93 (Nat.le_refl _) 92 (by decide)
  have hlt : 92 < L.size := by rw [I.lsz]; decide
  simp only [Array.getD_eq_getD_getElem?, Array.getElem?_eq_getElem hlt, Option.getD_some] at h1 ⊢; exact h1
 obtain ⟨e0, h91⟩ := I.fin h92; obtain ⟨e1, e2, e3⟩ := I.mov h91; have ht := I.tab; rw [if_pos e2] at ht; obtain ⟨b, N, h1, h2, h3, h4, h5⟩ := ht; rw [insB_all e3] at h5; obtain ⟨D, hown, hD⟩ := h5; exact ⟨b, by rw [e0, e1, h2], I.tsz, I.dfs, ⟨D, hown.mono h3, hD⟩, I.bel⟩
set_option maxHeartbeats 1000000 in
theorem newBuiltins_any (w : World) : Calls Tryz.prog 24 #[] w fun e w' => ∃ b, e = .returned (.map (some b)) ∧ BuIn w' b 92 buTab ∧ Below w.heap.size w w' := by
 go_enter Tryz.func24, Tryz.ntmps24
 go_wp2_with fail; refine wp_region_any (ops := bOps) (by kernel_rfl) ?_; refine wpAny_inv (BInv w) (fun L a w' I i hi => bnew_step w L a w' I i hi) (fun L a w' I hr => ?_) _ _ _ _ ?_ (by have := unl_le (Array.replicate bOps.size false); simpa using this)
 ·obtain ⟨b, h0, hs, hd, hT, hB⟩ := bnew_end I hr
  refine ‹∀ (a : Act) (w : World), Code.wp _ Code.ret _ a w → _› _ _ ?_; refine wp_ret ?_; exact bodyPost_ret (v := .map (some b)) (by simp [results, Tryz.results24, h0]) hd ⟨b, rfl, hT, hB⟩
 ·have hz : ∀ k, (Array.replicate bOps.size false).getD k false = false := fun k => by
   simp only [Array.getD_eq_getD_getElem?, Array.getElem?_replicate]
   split <;> rfl
  refine ⟨by simp [bsize_ops], rfl, rfl, ⟨rfl, rfl, rfl, Nat.le_refl _, fun _ _ => rfl⟩, fun j hj h => ?_, ?_, fun h => ?_, fun h => ?_⟩
  ·rw [hz] at h; cases h
  ·rw [if_neg (by rw [hz]; decide)]
   exact fun j _ => hz _
  ·rw [hz] at h; cases h
  ·rw [hz] at h; cases h
end
section
open Go Go.RowKit
def unU (xs : List Int) : List UInt8 := xs.map fun n => UInt8.ofNat n.toNat
theorem str_unU (xs : List Int) : strOfNums xs = bOf (unU xs) := by
 apply ba_ext
 rw [str_list, bOf_list]; rfl
end
end Go.Proofs.YtickbkcpcgmlmaaGreatDoor
