/- Strings made of bytes, held against constants. Own work of the verifier. -/
import Derived.Test.YtfhelmhcmfpedaaDoorPure
import Derived.Test.YtfhelmhcmfpedaaDoorBase2
import Derived.Laws.BytesArg
import Derived.Lib.Strings
import Derived.WideShapes
namespace Go.Proofs.YtfhelmhcmfpedaaDoor
open Go Go.RowKit

theorem u8_of {x : Int} (h0 : 0 ≤ x) (h1 : x < 256) : ((UInt8.ofNat x.toNat).toNat : Int) = x := by
  simp only [UInt8.toNat_ofNat']; omega
theorem str_list {xs : List Int} : (strOfNums xs).toList = xs.map fun n => UInt8.ofNat n.toNat := by
  rw [ByteArray.toList_eq]; rfl
theorem map_back : ∀ {xs : List Int}, Bytes xs → (xs.map fun n => UInt8.ofNat n.toNat).map (fun u => (u.toNat : Int)) = xs
  | [], _ => rfl
  | x :: r, h => by
    have hx := h x (List.mem_cons_self ..)
    simp only [List.map_cons]
    rw [u8_of hx.1 hx.2, map_back (fun y hy => h y (List.mem_cons_of_mem _ hy))]
theorem map_forth (l : List UInt8) : ((l.map (fun u => (u.toNat : Int))).map fun n => UInt8.ofNat n.toNat) = l := by
  induction l with
  | nil => rfl
  | cons a r ih => simp only [List.map_cons, ih]; simp
theorem str_eq {xs : List Int} (hb : Bytes xs) (l : List UInt8) : (strOfNums xs).toList = l ↔ xs = l.map (fun u => (u.toNat : Int)) := by
  rw [str_list]
  constructor
  · intro h; rw [← h, map_back hb]
  · intro h; rw [h, map_forth]
theorem str_cut {xs : List Int} (n : Nat) : (strOfNums xs).extract 0 n = strOfNums (xs.take n) := by
  apply Go.WideShapes.bytes_inj
  rw [Lib.extract_data, strOfNums_data, strOfNums_data]
  simp [List.map_take]

theorem runLen_eq (s : Bool) (xs : List Int) : ((runLen (clsB s) xs : Int) == (xs.length : Int)) = xs.all (clsB s) := by
  have := runLen_all (clsB s) xs
  rw [Bool.eq_iff_iff, ← this, beq_iff_eq]
  omega

theorem plain_str {xs : List Int} (hb : Bytes xs) {s : ByteArray} (hs : s = strOfNums xs) {x : Int} (hx : x = xs.getD 0 0) :
    plainB xs = if xs.length = 0 ∨ 100 < xs.length then false
      else if s.toList = [33] ∨ s.toList = [59] ∨ s.toList = [91, 93] ∨ s.toList = [123, 125] then true
      else if smallB x = true then xs.all (clsB false)
      else if s.toList = [46] ∨ (s.extract 0 2).toList = [47, 42] then false
      else xs.all (clsB true) := by
  subst hs; subst hx
  simp only [str_cut, str_eq hb, str_eq (hb.take 2)]
  rfl

end Go.Proofs.YtfhelmhcmfpedaaDoor
