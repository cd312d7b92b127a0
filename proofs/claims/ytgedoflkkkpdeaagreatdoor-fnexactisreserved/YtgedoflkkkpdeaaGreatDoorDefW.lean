/- The words of a text. Own work of the verifier. -/
import Derived.Test.YtgedoflkkkpdeaaGreatDoorStr0
namespace Go.Proofs.YtgedoflkkkpdeaaGreatDoor
open Go Go.RowKit
set_option linter.unusedVariables false

/-- The words of a text, behind the one that has begun. -/
def wd (word : List UInt8) : List UInt8 → List (List UInt8)
  | [] => if word = [] then [] else [word]
  | b :: r => if b = 32 then (if word = [] then wd [] r else word :: wd [] r) else wd (word ++ [b]) r
def bOf (l : List UInt8) : ByteArray := ⟨l.toArray⟩
theorem bOf_size (l : List UInt8) : (bOf l).size = l.length := by simp [bOf, ByteArray.size]
theorem bOf_list (l : List UInt8) : (bOf l).toList = l := by rw [ByteArray.toList_eq]; rfl
theorem bOf_empty (l : List UInt8) : (bOf l).toList.isEmpty = decide (l = []) := by rw [bOf_list]; cases l <;> simp
theorem drop_u (l : List UInt8) (k : Nat) (h : k < l.length) : l.drop k = l[k] :: l.drop (k + 1) := List.drop_eq_getElem_cons h
theorem wd_at (word l : List UInt8) (k : Nat) (h : k < l.length) : wd word (l.drop k) = if l[k] = 32 then (if word = [] then wd [] (l.drop (k + 1)) else word :: wd [] (l.drop (k + 1))) else wd (word ++ [l[k]]) (l.drop (k + 1)) := by
  rw [drop_u l k h, wd]
theorem infoStr : (Tryz.prog.info? 9).map (fun i => (i.zero, i.size, i.bytes)) = some (some (.string ⟨#[]⟩), 1, 16) := by kernel_rfl
theorem bOf_app (a b : List UInt8) : bOf a ++ bOf b = bOf (a ++ b) := by
  apply ByteArray.ext
  rw [ByteArray.data_append]
  simp [bOf]
theorem bOf_cut (l : List UInt8) (k : Nat) (h : k < l.length) : (bOf l).extract k (k + 1) = bOf [l[k]] := by
  apply ByteArray.ext
  rw [ByteArray.data_extract]
  apply Array.ext
  · simp [bOf]; omega
  · intro i h1 h2
    have : i = 0 := by simp [bOf] at h2; omega
    subst this
    simp [bOf]
def strV (x : List UInt8) : Value := .string (bOf x)

set_option maxRecDepth 100000 in
set_option maxHeartbeats 2000000 in
theorem l3words_any (l : List UInt8) (w : World) (hl : l.length ≤ 1000) :
    Calls Tryz.prog 18 #[.string (bOf l)] w fun e w' => ∃ p n c, e = .returned (.slice p n c) ∧ n = (wd [] l).length ∧ w'.ownsRow w.heap.size 9 1 (.slice p n c) n ((wd [] l).map strV) ∧ Below w.heap.size w w' := by
  obtain ⟨i0, hi, hz0, hz1, hz2⟩ := info_parts infoStr
  obtain ⟨s, es⟩ : ∃ s, s = bOf l := ⟨_, rfl⟩
  have hsz : s.size = l.length := by rw [es, bOf_size]
  have HES : Hid (s = bOf l) := es
  rw [← es]
  clear es
  go_enter Tryz.func18, Tryz.ntmps18
  go_wp2_with fail
  go_loopw [3, 4, 5] (fun o wv i wr => ∃ (k m c : Nat) (p : Option Addr) (word : List UInt8) (pre : List (List UInt8)) (ws : ByteArray), k ≤ l.length + 1 ∧ o = .slice p m c ∧ wv = .string ws ∧ i = .int .i64 k ∧ m ≤ k ∧ Hid (m = pre.length) ∧ Hid (ws = bOf word ∧ word.length ≤ k) ∧ Hid ((k ≤ l.length → wd [] l = pre ++ wd word (l.drop k)) ∧ (k = l.length + 1 → wd [] l = pre)) ∧
    Hid (wr.ownsRow w.heap.size 9 1 (.slice p m c) m (pre.map strV)) ∧ Hid (Below w.heap.size w wr)) (fun _ _ i _ => l.length + 2 - (intOf i).toNat)
  case atStart => exact ⟨0, 0, 0, none, [], [], _, by omega, rfl, rfl, rfl, Nat.le_refl _, rfl, ⟨rfl, Nat.le_refl _⟩, ⟨fun _ => rfl, fun h => by omega⟩, World.ownsRow_nil _ _ _ _, Below.refl _ _⟩
  case round =>
    obtain ⟨k, m, c, p, word, pre, ws, hk, rfl, rfl, rfl, hmk, HM, HWS, HQ, HR, HB⟩ := hrel
    have hbs : w.heap.size ≤ wr.heap.size := HB.out.size
    have hrow := HR.out.alloc (.cells #[.string ws] 9)
    have hBa : w.heap.size ≤ (wr.alloc (.cells #[.string ws] 9)).heap.size := by simp; omega
    have HEM : Hid (ws.toList.isEmpty = decide (word = [])) := by show _ = _; rw [HWS.out.1]; exact bOf_empty word
    have HNW : Hid (∀ j u, [Value.string ws][j]? = some u → (wr.alloc (.cells #[.string ws] 9)).cell? ((⟨wr.heap.size, 0, none⟩ : Addr).add j) = some u) := fun j u hu => by
      match j, hu with
      | 0, hu => simp at hu; rw [← hu]; simp [Addr.add, World.cell?_alloc_new]
      | j + 1, hu => simp at hu
    have HRL : Hid (∀ kk, Value.ownBlock (.slice p m c) = some kk → w.heap.size ≤ kk) := fun kk hkk => (HR.out.lt kk hkk).1
    by_cases hlt : k < l.length
    · have h2 : ((k : Int) == (l.length : Int)) = false := by simp; omega
      have h3 : (k : Int) ≤ (l.length : Int) := by omega
      have hks : k < s.size := by rw [hsz]; exact hlt
      have HGET : Hid (s[k] = l[k]) := by
        show _ = _
        have : ∀ (t : ByteArray) (h : k < t.size), t = bOf l → t[k] = l[k] := fun t h e => by subst e; rfl
        exact this s hks HES.out
      have HAT : Hid _ := wd_at word l k hlt
      by_cases hb : l[k] = 32
      · have hb' : ((s[k].toNat : Int) == 32) = true := by rw [HGET.out, hb]; rfl
        have HQ1 : Hid (wd [] l = pre ++ (if word = [] then [] else [word]) ++ wd [] (l.drop (k + 1))) := by
          show _ = _
          rw [HQ.out.1 (by omega), HAT.out, if_pos hb]
          split <;> simp
        clear HAT HGET HQ
        cases hw : ws.toList.isEmpty with
        | true =>
          have hwe : word = [] := by have := HEM.out; rw [hw] at this; exact of_decide_eq_true this.symm
          have HQ2 : Hid (wd [] l = pre ++ wd [] (l.drop (k + 1))) := by show _ = _; rw [HQ1.out, if_pos hwe]; simp
          clear HQ1 hwe hrow
          go_wp2_with fail
          go_roundw
          case rel => exact ⟨k + 1, m, c, p, [], pre, _, by omega, rfl, rfl, by go_num, by omega, HM, ⟨rfl, Nat.zero_le _⟩, ⟨fun _ => HQ2.out, fun h => by omega⟩, HR, HB⟩
          case measure => simp [intOf]; omega
        | false =>
          have hwe : ¬ word = [] := by have := HEM.out; rw [hw] at this; exact of_decide_eq_false this.symm
          have HQ2 : Hid (wd [] l = (pre ++ [word]) ++ wd [] (l.drop (k + 1))) := by show _ = _; rw [HQ1.out, if_neg hwe]
          clear HQ1 hwe
          go_wp2_with (at_builtin; refine wpList_append_lies _ rfl _ _ 26 rfl w.heap.size 9 i0 (.string ⟨#[]⟩) 1 16 Tryz.underlying26 hi hz0 hz1 hz2 rfl (by decide) (.slice p m c) m (pre.map strV) rfl hrow ⟨wr.heap.size, 0, none⟩ 1 1 [.string ws] rfl rfl HNW.out (fun u hu => by simp at hu; rw [hu]; rfl) (by decide) (by unfold maxLen; omega) (by omega) hBa _ rfl ?_; intro g6 cap6 w6 hrow6 hgrow6 hat6 hlt6)
          have HR6 : Hid (w6.ownsRow w.heap.size 9 1 (.slice (some ⟨g6, 0, none⟩) (m + 1) cap6) (m + 1) ((pre ++ [word]).map strV)) := by rw [List.map_append]; have h9 := hrow6; rw [HWS.out.1] at h9; exact h9
          have HB6 : Hid (Below w.heap.size w w6) := (HB.out.alloc hbs _).grown hgrow6 hBa (fun kk hkk => HRL.out kk hkk)
          have HM6 : Hid (m + 1 = (pre ++ [word]).length) := by show _ = _; rw [HM.out]; simp
          clear hrow6 hgrow6 hat6 hlt6 hrow
          go_wp2_with fail
          go_roundw
          case rel => exact ⟨k + 1, m + 1, cap6, _, [], pre ++ [word], _, by omega, rfl, rfl, by go_num, by omega, HM6, ⟨rfl, Nat.zero_le _⟩, ⟨fun _ => HQ2.out, fun h => by omega⟩, HR6, HB6⟩
          case measure => simp [intOf]; omega
      · have hb' : ((s[k].toNat : Int) == 32) = false := by
          rw [HGET.out]
          cases h9 : ((l[k].toNat : Int) == 32) with
          | false => rfl
          | true =>
            exfalso
            apply hb
            have h10 : (l[k].toNat : Int) = 32 := by simpa using h9
            exact UInt8.toNat_inj.1 (by rw [show (32 : UInt8).toNat = 32 from rfl]; omega)
        have HQ2 : Hid (wd [] l = pre ++ wd (word ++ [l[k]]) (l.drop (k + 1))) := by show _ = _; rw [HQ.out.1 (by omega), HAT.out, if_neg hb]
        have HCAT : Hid (ws ++ s.extract k (k + 1) = bOf (word ++ [l[k]])) := by show _ = _; rw [HWS.out.1, HES.out, bOf_cut l k hlt, bOf_app]
        have h5 : (k : Int) + 1 ≤ (l.length : Int) := by omega
        have h6 : k + 1 ≤ l.length := by omega
        have h7 : ws.size ≤ 1000 := by have := HWS.out.2; rw [HWS.out.1, bOf_size]; omega
        clear HAT HGET HQ hrow
        go_wp2_with fail
        go_roundw
        case rel => exact ⟨k + 1, m, c, p, word ++ [l[k]], pre, _, by omega, rfl, rfl, by go_num, by omega, HM, ⟨HCAT.out, by simp; exact HWS.out.2⟩, ⟨fun _ => HQ2.out, fun h => by omega⟩, HR, HB⟩
        case measure => simp [intOf]; omega
    · by_cases he : k = l.length
      · subst he
        have h2 : ((l.length : Int) == (l.length : Int)) = true := by simp
        have HQ1 : Hid (wd [] l = pre ++ (if word = [] then [] else [word])) := by
          show _ = _
          have h9 := HQ.out.1 (Nat.le_refl _)
          rw [List.drop_length] at h9
          exact h9
        clear HQ
        cases hw : ws.toList.isEmpty with
        | true =>
          have hwe : word = [] := by have := HEM.out; rw [hw] at this; exact of_decide_eq_true this.symm
          have HQ2 : Hid (wd [] l = pre) := by show _ = _; rw [HQ1.out, if_pos hwe]; simp
          clear HQ1 hwe hrow
          go_wp2_with fail
          go_roundw
          case rel => exact ⟨l.length + 1, m, c, p, [], pre, _, by omega, rfl, rfl, by go_num, by omega, HM, ⟨rfl, Nat.zero_le _⟩, ⟨fun h => by omega, fun _ => HQ2.out⟩, HR, HB⟩
          case measure => simp [intOf]
        | false =>
          have hwe : ¬ word = [] := by have := HEM.out; rw [hw] at this; exact of_decide_eq_false this.symm
          have HQ2 : Hid (wd [] l = pre ++ [word]) := by show _ = _; rw [HQ1.out, if_neg hwe]
          clear HQ1 hwe
          go_wp2_with (at_builtin; refine wpList_append_lies _ rfl _ _ 26 rfl w.heap.size 9 i0 (.string ⟨#[]⟩) 1 16 Tryz.underlying26 hi hz0 hz1 hz2 rfl (by decide) (.slice p m c) m (pre.map strV) rfl hrow ⟨wr.heap.size, 0, none⟩ 1 1 [.string ws] rfl rfl HNW.out (fun u hu => by simp at hu; rw [hu]; rfl) (by decide) (by unfold maxLen; omega) (by omega) hBa _ rfl ?_; intro g6 cap6 w6 hrow6 hgrow6 hat6 hlt6)
          have HR6 : Hid (w6.ownsRow w.heap.size 9 1 (.slice (some ⟨g6, 0, none⟩) (m + 1) cap6) (m + 1) ((pre ++ [word]).map strV)) := by rw [List.map_append]; have h9 := hrow6; rw [HWS.out.1] at h9; exact h9
          have HB6 : Hid (Below w.heap.size w w6) := (HB.out.alloc hbs _).grown hgrow6 hBa (fun kk hkk => HRL.out kk hkk)
          have HM6 : Hid (m + 1 = (pre ++ [word]).length) := by show _ = _; rw [HM.out]; simp
          clear hrow6 hgrow6 hat6 hlt6 hrow
          go_wp2_with fail
          go_roundw
          case rel => exact ⟨l.length + 1, m + 1, cap6, _, [], pre ++ [word], _, by omega, rfl, rfl, by go_num, by omega, HM6, ⟨rfl, Nat.zero_le _⟩, ⟨fun h => by omega, fun _ => HQ2.out⟩, HR6, HB6⟩
          case measure => simp [intOf]
      · have h3 : ¬ (k : Int) ≤ (l.length : Int) := by omega
        have HQ1 : Hid (wd [] l = pre) := HQ.out.2 (by omega)
        have HF : Hid (∃ p' n' c', Ending.returned (.slice p m c) = .returned (.slice p' n' c') ∧ n' = (wd [] l).length ∧ wr.ownsRow w.heap.size 9 1 (.slice p' n' c') n' ((wd [] l).map strV) ∧ Below w.heap.size w wr) := ⟨p, m, c, rfl, by rw [HQ1.out]; exact HM.out, by rw [HQ1.out]; exact HR.out, HB.out⟩
        clear HQ hrow
        go_wp2_with fail
        go_ret
        exact HF.out

end Go.Proofs.YtgedoflkkkpdeaaGreatDoor
