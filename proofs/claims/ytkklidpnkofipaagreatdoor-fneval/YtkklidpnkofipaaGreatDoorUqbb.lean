/- Texts of LawFe. Own work of the verifier. -/
import Derived.Test.YtkklidpnkofipaaGreatDoorUqay
import Derived.Test.YtkklidpnkofipaaGreatDoorUqba
import Derived.Test.YtkklidpnkofipaaGreatDoorUqaz
namespace Go.Proofs.YtkklidpnkofipaaGreatDoor
open Go Go.RowKit
set_option linter.unusedVariables false
set_option maxRecDepth 100000 in
theorem lawFe_any (p : Option Addr) (cap n : Nat) (xs : List Int) (pm : Option Addr) (capm nm : Nat) (ms : List Int) (a a2 : Addr) (w : World) (hn : n = xs.length) (hnm : nm = ms.length) (hb : Bytes xs) (hbm : Bytes ms) (hc : n ≤ cap) (hcm : nm ≤ capm)
  (hm : n ≤ 9223372036854775807) (hmm : nm ≤ 9223372036854775807) (hx : BIn w p xs) (hxm : BIn w pm ms) (hg : FeW w a a2) :
  Calls Tryz.prog 3 #[.slice p n cap, .slice pm nm capm] w fun e w' => e = .returned (.bool true) ∧ Below w.heap.size w w' := by
 by_cases h1 : 1048576 < n
 ·have h1' : (1048576 : Int) < (n : Int) := by omega
  clear hg hx hxm hb hbm hc hcm hn hnm
  go_enter Tryz.func3, Tryz.ntmps3
  go_wp2_with fail; go_ret; exact ⟨rfl, Below.refl _ _⟩
 by_cases h2 : 1048576 < nm
 ·have h2' : (1048576 : Int) < (nm : Int) := by omega
  have h1' : n ≤ 1048576 := by omega
  clear hg hx hxm hb hbm hc hcm hn hnm h1
  go_enter Tryz.func3, Tryz.ntmps3
  go_wp2_with fail; go_ret; exact ⟨rfl, Below.refl _ _⟩
 have HX : CodeIn w p cap n xs := ⟨hb, hn, by omega, by omega, hx⟩
 have HY : CodeIn w pm capm nm ms := ⟨hbm, hnm, by omega, by omega, hxm⟩
 cases hv : validB (evD (xs.take 500)) with
 | false => exact lawFe_bad p cap n xs pm capm nm ms a a2 w HX HY hg _ rfl hv
 | true =>
   obtain ⟨c, k, hT, hok, hlen⟩ := tree_of (fun i hi => (evD_fine (xs.take 500)).2.2.get i hi) hv; have hT' : evD (xs.take 500) = Tr.cs (c, k) := hT; rw [hT'] at hv
   cases he : evT (c, k) with
   | ok v => exact lawFe_ok p cap n xs pm capm nm ms a a2 w HX HY hg (c, k) v hT' hok hv he
   | error t => exact lawFe_er p cap n xs pm capm nm ms a a2 w HX HY hg (c, k) t _ rfl hT' hok hv he
end Go.Proofs.YtkklidpnkofipaaGreatDoor
