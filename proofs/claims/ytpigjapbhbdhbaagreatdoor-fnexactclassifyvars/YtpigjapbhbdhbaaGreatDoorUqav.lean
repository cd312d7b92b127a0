/- Texts of ClZA, IsG, SpK, IbT. Own work of the verifier. -/
import Derived.Test.YtpigjapbhbdhbaaGreatDoorUqau
import Derived.Test.YtpigjapbhbdhbaaGreatDoorUqae
import Derived.Test.YtpigjapbhbdhbaaGreatDoorUqar
import Derived.Test.YtpigjapbhbdhbaaGreatDoorUqac
import Derived.Test.YtpigjapbhbdhbaaGreatDoorUqas
namespace Go.Proofs.YtpigjapbhbdhbaaGreatDoor
open Go Go.RowKit Go.Maps
set_option linter.unusedVariables false
set_option maxRecDepth 100000 in
set_option maxHeartbeats 1000000 in
theorem classes_any (hc : Cel) (hk : Fo) (ht : TypeId) (hx : Value) (gs : List Tr) (vs : List Value) (p : Option Addr) (n cp B0 : Nat) (w : World) (hok : (Fo.node hc hk .nil).ok) (hfo : FoIn w 0 (.node hc hk .nil) [.iface ht hx]) (hgo : (itsF gs).ok) (hgf : FoIn w 0 (itsF gs) vs) (hn : n = gs.length)
    (hrow : w.ownsRow B0 87 2 (.slice p n cp) n (gRow gs vs)) (hov : okV 0 (vsC (hc :: hk.cells) ++ vsG gs)) (hsz : endV 0 (vsC (hc :: hk.cells) ++ vsG gs) ≤ 2001) (hl : hk.cells.length ≤ 2000) (hgl : ∀ g ∈ gs, g.2.cells.length ≤ 2000 ∧ goodG g = true) (hnl : n ≤ 2001) :
    Calls Tryz.prog 19 #[.agg #[.iface ht hx, .slice p n cp]] w fun e w' => ∃ q m c2, e = .returned (.slice q m c2) ∧ OwnI w' w.heap.size 3 q m c2 (goalsP 0 (meetsP 0 ([], []) (vsC (hc :: hk.cells))) gs).1 ∧ Below w.heap.size w w' := by
  rw [okV_append] at hov
  rw [endV_append] at hsz
  have hA : Below w.heap.size w (w.alloc (.cells #[.iface ht hx, .slice p n cp] 48)) := (Below.refl _ _).alloc (Nat.le_refl _) _
  have es : (w.alloc (.cells #[.iface ht hx, .slice p n cp] 48)).heap.size = w.heap.size + 1 := by simp
  have hlen : (meetsP 0 ([], []) (vsC (hc :: hk.cells))).1.length = endV 0 (vsC (hc :: hk.cells)) := meets_len 0 _ ([], []) hov.1
  -- the walk of the head
  have HWK : Hid (∀ W b3 b4 b5 K ob, MSx W (w.heap.size + 1) b3 b4 b5 K ob 0 ([], []) → Below (w.heap.size + 1) (w.alloc (.cells #[.iface ht hx, .slice p n cp] 48)) W →
      Calls Tryz.prog 84 #[.iface ht hx, .func (.func 83) #[] #[.pointer (some ⟨b3, 0, none⟩), .pointer (some ⟨b4, 0, none⟩), .pointer (some ⟨b5, 0, none⟩)]] W (WalkC W (w.heap.size + 1) b3 b4 b5 K ob 0 (meetsP 0 ([], []) (vsC (hc :: hk.cells))))) := fun W b3 b4 b5 K ob hm hb =>
    walkC_any hk.cells.length hc hk _ 0 (w.heap.size + 1) b3 b4 b5 K ob 0 ([], []) w W (Nat.le_refl _) hok hfo (hA.trans (hb.mono (Nat.le_succ _))) (Nat.le_succ _) (by have := hb.size; omega) hm (by simp; omega) hov.1
  -- the walk of a goal
  have HWG : Hid (∀ j (h : j < gs.length) t x W b3 b4 b5 K ob q P, vs[j]? = some (.iface t x) → MSx W (w.heap.size + 1) b3 b4 b5 K ob q P → Below (w.heap.size + 1) (w.alloc (.cells #[.iface ht hx, .slice p n cp] 48)) W → okV P.1.length (vsG (gs.drop j)) → endV P.1.length (vsG (gs.drop j)) ≤ 2001 →
      Calls Tryz.prog 84 #[.iface t x, .func (.func 83) #[] #[.pointer (some ⟨b3, 0, none⟩), .pointer (some ⟨b4, 0, none⟩), .pointer (some ⟨b5, 0, none⟩)]] W (WalkC W (w.heap.size + 1) b3 b4 b5 K ob q (meetsP q P (vsC (gs[j].1 :: gs[j].2.cells))))) := fun j h t x W b3 b4 b5 K ob q P hat hm hb ho he => by
    obtain ⟨t1, x1, hat1, hnode⟩ := FoIn.atC gs vs hgf j h
    rw [hat] at hat1
    injection hat1 with hat1
    injection hat1 with e1 e2
    subst e1 e2
    rw [vsG_drop h, okV_append] at ho
    have h2 := endV_le (vsG (gs.drop j)) P.1.length
    have h3 := (hgl gs[j] (List.getElem_mem h)).1
    exact walkC_any _ gs[j].1 gs[j].2 _ 0 (w.heap.size + 1) b3 b4 b5 K ob q P w W (Nat.le_refl _) (itsF_ok_at gs hgo j h) hnode (hA.trans (hb.mono (Nat.le_succ _))) (Nat.le_succ _) (by have := hb.size; omega) hm (by omega) ho.1
  have HSTEP : Hid (∀ j (h : j < gs.length) q P, okV P.1.length (vsG (gs.drop j)) → endV P.1.length (vsG (gs.drop j)) ≤ 2001 → okV (meetsP q P (vsC (gs[j].1 :: gs[j].2.cells))).1.length (vsG (gs.drop (j + 1))) ∧ endV (meetsP q P (vsC (gs[j].1 :: gs[j].2.cells))).1.length (vsG (gs.drop (j + 1))) ≤ 2001) := fun j h q P ho he => by
    rw [vsG_drop h, okV_append] at ho
    rw [vsG_drop h, endV_append] at he
    rw [meets_len q _ P ho.1]
    exact ⟨ho.2, he⟩
  have HAT : Hid (∀ j (h : j < gs.length), ∃ t x, vs[j]? = some (.iface t x) ∧ (gRow gs vs)[j * 2]? = some (.iface t x) ∧ (gRow gs vs)[j * 2 + 1]? = some (.int .i64 (giO gs[j].1)) ∧ (giO gs[j].1 == 19) = !inlG gs[j]) := fun j h => by
    obtain ⟨t1, x1, hat1, hnode⟩ := FoIn.atC gs vs hgf j h
    have h2 := gRow_at gs vs (FoIn.lenC hgf) j h _ hat1
    exact ⟨t1, x1, hat1, h2.1, h2.2, giO_call (itsF_ok_at gs hgo j h) (hgl gs[j] (List.getElem_mem h)).2⟩
  have HROW : Hid (∀ W, Below (w.heap.size + 1) (w.alloc (.cells #[.iface ht hx, .slice p n cp] 48)) W → W.ownsRow B0 87 2 (.slice p n cp) n (gRow gs vs)) := fun W hW => row_below hrow (hA.trans (hW.mono (Nat.le_succ _)))
  have HBOX : Hid (∀ W, Below (w.heap.size + 1) (w.alloc (.cells #[.iface ht hx, .slice p n cp] 48)) W → W.cell? ⟨w.heap.size, 0, none⟩ = some (.iface ht hx) ∧ W.cell? ⟨w.heap.size, 1, none⟩ = some (.slice p n cp)) := fun W hW => by
    have h0 := (hW.block w.heap.size (by omega)).trans (heap_alloc_new w _)
    exact ⟨cell_of_row _ _ 0 _ _ _ h0, cell_of_row _ _ 1 _ _ _ h0⟩
  have HN : Hid (n = gs.length) := hn
  have HOV : Hid (okV (meetsP 0 ([], []) (vsC (hc :: hk.cells))).1.length (vsG (gs.drop 0)) ∧ endV (meetsP 0 ([], []) (vsC (hc :: hk.cells))).1.length (vsG (gs.drop 0)) ≤ 2001) := by
    show _ ∧ _
    rw [hlen]; exact ⟨hov.2, hsz⟩
  have HA : Hid _ := hA
  have HMN : Hid _ := ms_new w (.cells #[.iface ht hx, .slice p n cp] 48)
  have HBL : Hid (Below (w.heap.size + 1) (w.alloc (.cells #[.iface ht hx, .slice p n cp] 48)) ((((w.alloc (.cells #[.iface ht hx, .slice p n cp] 48)).alloc (.cells #[.slice none 0 0] 24)).alloc (.cells #[.slice none 0 0] 24)).alloc (.cells #[.int .i64 0] 3))) := (((Below.refl _ _).alloc (by simp) _).alloc (by simp <;> omega) _).alloc (by simp <;> omega) _
  obtain ⟨P0, eP0⟩ : ∃ P0, P0 = meetsP 0 ([], []) (vsC (hc :: hk.cells)) := ⟨_, rfl⟩
  have HFIN : Hid (∀ W K ob q P, MSx W (w.heap.size + 1) (w.heap.size + 1) (w.heap.size + 1 + 1) (w.heap.size + 1 + 1 + 1) K ob q P → Below (w.heap.size + 1) (w.alloc (.cells #[.iface ht hx, .slice p n cp] 48)) W → goalsP 0 P0 gs = P → ∃ p2 n2 c2, W.cell? ⟨w.heap.size + 1, 0, none⟩ = some (.slice p2 n2 c2) ∧ OwnI W w.heap.size 3 p2 n2 c2 (goalsP 0 P0 gs).1 ∧ Below w.heap.size w W) := fun W K ob q P hm hb hg => by
    obtain ⟨p2, p2', n2, c2, c2', hm, _⟩ := hm
    exact ⟨p2, n2, c2, hm.c3, ⟨by rw [hg]; exact hm.l1, by rw [hg]; exact row_mono hm.r1 (Nat.le_succ _)⟩, hA.trans (hb.mono (Nat.le_succ _))⟩
  rw [← eP0] at HWK HOV ⊢
  clear hok hfo hgo hgf hn hrow hov hsz hl hgl hA hlen es eP0
  go_enter Tryz.func19, Tryz.ntmps19
  go_wp2_with fail
  refine (HWK.out _ _ _ _ _ _ HMN.out HBL.out).mono ?_
  rintro e w1 ⟨rfl, hm1, hb1⟩
  have HM1 : Hid (∃ K ob, MSx w1 (w.heap.size + 1) (w.heap.size + 1) (w.heap.size + 1 + 1) (w.heap.size + 1 + 1 + 1) K ob 0 P0) := ⟨_, _, hm1⟩
  have HB1 : Hid (Below (w.heap.size + 1) (w.alloc (.cells #[.iface ht hx, .slice p n cp] 48)) w1) := HBL.out.trans hb1
  obtain ⟨k0, k1⟩ := HBOX.out w1 HB1.out
  clear hm1 hb1 HWK HMN HBL k0
  go_wp2_with fail
  go_loopw [17] (fun i wr => ∃ (j : Nat) (q : Int) (P : List Int × List Int), j ≤ n ∧ i = .int .i64 j ∧ 0 ≤ q ∧ q ≤ j ∧ Hid (∃ K ob, MSx wr (w.heap.size + 1) (w.heap.size + 1) (w.heap.size + 1 + 1) (w.heap.size + 1 + 1 + 1) K ob q P) ∧ Hid (Below (w.heap.size + 1) (w.alloc (.cells #[.iface ht hx, .slice p n cp] 48)) wr) ∧ Hid (okV P.1.length (vsG (gs.drop j)) ∧ endV P.1.length (vsG (gs.drop j)) ≤ 2001) ∧ Hid (goalsP 0 P0 gs = goalsP q P (gs.drop j))) (fun i _ => n - (intOf i).toNat)
  case atStart => exact ⟨0, 0, P0, Nat.zero_le _, rfl, Int.le_refl _, Int.le_refl _, HM1, HB1, HOV, rfl⟩
  case round =>
    obtain ⟨j, q, P, hj, rfl, hq0, hq1, HM, HB, HO, HG⟩ := hrel
    by_cases hlt : j < n
    · have hjg : j < gs.length := by rw [← HN.out]; exact hlt
      obtain ⟨t, x, hat, r0, r1, hcl⟩ := HAT.out j hjg
      have HR := HROW.out wr HB.out
      obtain ⟨g1, cap1, hv1, hbg1, hgl1⟩ := World.ownsRow.form HR (by omega)
      obtain ⟨ep, ecp⟩ : p = some ⟨g1, 0, none⟩ ∧ cp = cap1 := by injection hv1 with h1 _ h2; exact ⟨h1, h2⟩
      subst ep ecp
      have d0 := (HR.cellAt (j * 2) (by omega)).trans r0
      have d1 := (HR.cellAt (j * 2 + 1) (by omega)).trans r1
      obtain ⟨op, eop⟩ : ∃ op, op = giO gs[j].1 := ⟨_, rfl⟩
      rw [← eop] at d1 hcl
      have hsB : w.heap.size + 1 ≤ wr.heap.size := by have := HB.out.size; simp at this; omega
      have HB2 : Hid (Below (w.heap.size + 1) (w.alloc (.cells #[.iface ht hx, .slice (some ⟨g1, 0, none⟩) n cp] 48)) (wr.alloc (.cells #[.iface t x, .int .i64 op] 87))) := HB.out.alloc hsB _
      obtain ⟨K, ob, hm⟩ := HM.out
      have HWJ := HWG.out j hjg t x _ _ _ _ _ _ q P hat (hm.fresh (.cells #[.iface t x, .int .i64 op] 87)) HB2.out HO.out.1 HO.out.2
      have HNX : Hid _ := HSTEP.out j hjg q P HO.out.1 HO.out.2
      have HGX : Hid (goalsP 0 P0 gs = goalsP (if inlG gs[j] then q else q + 1) (meetsP q P (vsC (gs[j].1 :: gs[j].2.cells))) (gs.drop (j + 1))) := by show _ = _; rw [HG.out, goalsP_drop hjg]
      obtain ⟨P2, eP2⟩ : ∃ P2, P2 = meetsP q P (vsC (gs[j].1 :: gs[j].2.cells)) := ⟨_, rfl⟩
      rw [← eP2] at HWJ HNX HGX
      obtain ⟨il, eil⟩ : ∃ il, il = inlG gs[j] := ⟨_, rfl⟩
      rw [← eil] at HGX hcl
      clear HR hv1 hbg1 hgl1 hm hat r0 r1 eop eP2 eil HM HG HO HWG HSTEP HROW HAT k1
      go_wp2_with fail
      refine HWJ.mono ?_
      rintro e w3 ⟨rfl, hm3, hb3⟩
      have HB3 : Hid (Below (w.heap.size + 1) (w.alloc (.cells #[.iface ht hx, .slice (some ⟨g1, 0, none⟩) n cp] 48)) w3) := HB2.out.trans hb3
      obtain ⟨_, _, _, _, _, ms3, kp3⟩ := id hm3
      have q0 := cell_of_row w3 wr.heap.size 0 _ _ _ kp3.1
      have q1 := cell_of_row w3 wr.heap.size 1 _ _ _ kp3.1
      have HM3 : Hid (MSx w3 (w.heap.size + 1) (w.heap.size + 1) (w.heap.size + 1 + 1) (w.heap.size + 1 + 1 + 1) wr.heap.size (.cells #[.iface t x, .int .i64 op] 87) q P2) := hm3
      clear hm3 hb3 ms3 kp3 HWJ HB2 d0 d1
      have HIC := isCall_any t x op w3
      go_wp2_with fail
      refine HIC.mono ?_
      rintro e w4 ⟨rfl, hb4⟩
      have hsB3 : w.heap.size + 1 ≤ w3.heap.size := by have := HB3.out.size; simp at this; omega
      have HM4 : Hid (MSx w4 (w.heap.size + 1) (w.heap.size + 1) (w.heap.size + 1 + 1) (w.heap.size + 1 + 1 + 1) wr.heap.size (.cells #[.iface t x, .int .i64 op] 87) q P2) := HM3.out.below hb4
      have HB4 : Hid (Below (w.heap.size + 1) (w.alloc (.cells #[.iface ht hx, .slice (some ⟨g1, 0, none⟩) n cp] 48)) w4) := HB3.out.trans (hb4.mono hsB3)
      obtain ⟨_, _, _, _, _, ms4, _⟩ := id HM4.out
      have c5 := ms4.c5
      have f5 := ms4.f5
      clear hb4 HIC q0 q1 HM3 HB3 ms4
      cases il with
      | false =>
        have hop : (op == 19) = true := by rw [hcl]; rfl
        go_wp2_with fail
        go_roundw
        case rel => exact ⟨j + 1, q + 1, P2, by omega, by go_num, by omega, by omega, ⟨_, _, MSx.chunk HM4.out (q + 1)⟩, HB4.out.setCell (p := ⟨w.heap.size + 1 + 1 + 1, 0, none⟩) (by show w.heap.size + 1 ≤ w.heap.size + 1 + 1 + 1; omega) _, HNX, HGX⟩
        case measure => simp [intOf]; omega
      | true =>
        have hop : (op == 19) = false := by rw [hcl]; rfl
        go_wp2_with fail
        go_roundw
        case rel => exact ⟨j + 1, q, P2, by omega, by go_num, by omega, by omega, ⟨_, _, HM4.out⟩, HB4, HNX, HGX⟩
        case measure => simp [intOf]; omega
    · obtain rfl : j = n := by omega
      have hd : gs.drop j = [] := by rw [HN.out]; exact List.drop_length
      obtain ⟨K, ob, hm⟩ := HM.out
      obtain ⟨p2, n2, c2, x3, hO, hb⟩ := HFIN.out wr K ob q P hm HB.out (by rw [HG.out, hd]; rfl)
      have HO2 : Hid (OwnI wr w.heap.size 3 p2 n2 c2 (goalsP 0 P0 gs).1 ∧ Below w.heap.size w wr) := ⟨hO, hb⟩
      clear hm hO hb HM HB HG HO HFIN HROW HAT HWG HSTEP
      go_wp2_with fail
      go_ret
      exact ⟨p2, n2, c2, rfl, HO2.out.1, HO2.out.2⟩
end Go.Proofs.YtpigjapbhbdhbaaGreatDoor

namespace Go.Proofs.YtpigjapbhbdhbaaGreatDoor
open Go Go.RowKit
set_option linter.unusedVariables false
def isB (s nm : ByteArray) (k n ar : Int) : Bool := (s.toList == nm.toList) && (if ar == 0 then k == 2 else (k == 3 && n == ar))
set_option maxRecDepth 100000 in
theorem l2isG_any (s nm : ByteArray) (k n ar : Int) (b o : Nat) (q : Option Addr) (m qc len cap : Nat) (w : World) (hlen : 0 < len)
    (d0 : w.cell? ⟨b, o, none⟩ = some (.int .i64 k)) (d1 : w.cell? ⟨b, o + 1, none⟩ = some (.int .i64 n)) (d2 : w.cell? ⟨b, o + 2, none⟩ = some (.slice q m qc))
    (hcv : (convert 35 9 (.slice q m qc)).run Tryz.prog w = .ok (.string s) w) :
    Calls Tryz.prog 24 #[.slice (some ⟨b, o, none⟩) len cap, .string nm, .int .i64 ar] w fun e w' => e = .returned (.bool (isB s nm k n ar)) ∧ w' = w := by
  have hlt : (0 : Int) < len := by omega
  have HF : Hid (∀ b, b = isB s nm k n ar → Ending.returned (.bool b) = .returned (.bool (isB s nm k n ar))) := fun b h => ret_bool h
  have HR : Hid (isB s nm k n ar = ((s.toList == nm.toList) && (if ar == 0 then k == 2 else (k == 3 && n == ar)))) := rfl
  clear hlen
  cases h1 : (s.toList == nm.toList)
  · rw [h1] at HR
    go_enter Tryz.func24, Tryz.ntmps24
    go_wp2_with fail
    go_ret
    exact ⟨HF.out _ (by rw [HR.out]; rfl), rfl⟩
  · rw [h1] at HR
    cases h2 : (ar == 0)
    · rw [h2] at HR
      have h2' : ¬ ar = 0 := by simpa using h2
      cases h3 : (k == 3)
      · rw [h3] at HR
        go_enter Tryz.func24, Tryz.ntmps24
        go_wp2_with fail
        go_ret
        exact ⟨HF.out _ (by rw [HR.out]; rfl), rfl⟩
      · rw [h3] at HR
        cases h4 : (n == ar)
        · rw [h4] at HR
          have h4' : ¬ n = ar := by simpa using h4
          go_enter Tryz.func24, Tryz.ntmps24
          go_wp2_with fail
          go_ret
          exact ⟨HF.out _ (by rw [HR.out]; rfl), rfl⟩
        · rw [h4] at HR
          go_enter Tryz.func24, Tryz.ntmps24
          go_wp2_with fail
          go_ret
          exact ⟨HF.out _ (by rw [HR.out]; rfl), rfl⟩
    · rw [h2] at HR
      cases h3 : (k == 2)
      · rw [h3] at HR
        go_enter Tryz.func24, Tryz.ntmps24
        go_wp2_with fail
        go_ret
        exact ⟨HF.out _ (by rw [HR.out]; rfl), rfl⟩
      · rw [h3] at HR
        go_enter Tryz.func24, Tryz.ntmps24
        go_wp2_with fail
        go_ret
        exact ⟨HF.out _ (by rw [HR.out]; rfl), rfl⟩
end Go.Proofs.YtpigjapbhbdhbaaGreatDoor

namespace Go.Proofs.YtpigjapbhbdhbaaGreatDoor
open Go Go.RowKit
set_option linter.unusedVariables false
def con7 (s : ByteArray) (k n : Int) : Bool := isB s ⟨#[44]⟩ k n 2 || isB s ⟨#[59]⟩ k n 2 || isB s ⟨#[45, 62]⟩ k n 2 || isB s ⟨#[92, 43]⟩ k n 1 || isB s ⟨#[111, 110, 99, 101]⟩ k n 1 || isB s ⟨#[102, 111, 114, 97, 108, 108]⟩ k n 2 || isB s ⟨#[33]⟩ k n 0
set_option maxRecDepth 100000 in
set_option maxHeartbeats 400000 in
theorem l8construct_any (s : ByteArray) (k n : Int) (b o : Nat) (q : Option Addr) (m qc len cap : Nat) (w : World) (hlen : 0 < len)
    (d0 : w.cell? ⟨b, o, none⟩ = some (.int .i64 k)) (d1 : w.cell? ⟨b, o + 1, none⟩ = some (.int .i64 n)) (d2 : w.cell? ⟨b, o + 2, none⟩ = some (.slice q m qc))
    (hcv : (convert 35 9 (.slice q m qc)).run Tryz.prog w = .ok (.string s) w) :
    Calls Tryz.prog 92 #[.slice (some ⟨b, o, none⟩) len cap] w fun e w' => e = .returned (.bool (con7 s k n)) ∧ w' = w := by
  have HL := fun nm ar => l2isG_any s nm k n ar b o q m qc len cap w hlen d0 d1 d2 hcv
  have HF : Hid (∀ b, b = con7 s k n → Ending.returned (.bool b) = .returned (.bool (con7 s k n))) := fun b h => ret_bool h
  have HR : Hid (con7 s k n = (isB s ⟨#[44]⟩ k n 2 || isB s ⟨#[59]⟩ k n 2 || isB s ⟨#[45, 62]⟩ k n 2 || isB s ⟨#[92, 43]⟩ k n 1 || isB s ⟨#[111, 110, 99, 101]⟩ k n 1 || isB s ⟨#[102, 111, 114, 97, 108, 108]⟩ k n 2 || isB s ⟨#[33]⟩ k n 0)) := rfl
  have H0 := HL ⟨#[44]⟩ 2
  have H1 := HL ⟨#[59]⟩ 2
  have H2 := HL ⟨#[45, 62]⟩ 2
  have H3 := HL ⟨#[92, 43]⟩ 1
  have H4 := HL ⟨#[111, 110, 99, 101]⟩ 1
  have H5 := HL ⟨#[102, 111, 114, 97, 108, 108]⟩ 2
  have H6 := HL ⟨#[33]⟩ 0
  clear HL d0 d1 d2 hcv hlen
  cases h0 : isB s ⟨#[44]⟩ k n 2
  rotate_left
  · rw [h0] at HR
    rw [h0] at H0
    go_enter Tryz.func92, Tryz.ntmps92
    go_wp2_with fail
    refine H0.mono ?_
    rintro e w0 ⟨rfl, rfl⟩
    go_wp2_with fail
    go_ret
    exact ⟨HF.out _ (by rw [HR.out]; rfl), rfl⟩
  cases h1 : isB s ⟨#[59]⟩ k n 2
  rotate_left
  · rw [h0, h1] at HR
    rw [h0] at H0
    rw [h1] at H1
    go_enter Tryz.func92, Tryz.ntmps92
    go_wp2_with fail
    refine H0.mono ?_
    rintro e w0 ⟨rfl, rfl⟩
    go_wp2_with fail
    refine H1.mono ?_
    rintro e w1 ⟨rfl, rfl⟩
    go_wp2_with fail
    go_ret
    exact ⟨HF.out _ (by rw [HR.out]; rfl), rfl⟩
  cases h2 : isB s ⟨#[45, 62]⟩ k n 2
  rotate_left
  · rw [h0, h1, h2] at HR
    rw [h0] at H0
    rw [h1] at H1
    rw [h2] at H2
    go_enter Tryz.func92, Tryz.ntmps92
    go_wp2_with fail
    refine H0.mono ?_
    rintro e w0 ⟨rfl, rfl⟩
    go_wp2_with fail
    refine H1.mono ?_
    rintro e w1 ⟨rfl, rfl⟩
    go_wp2_with fail
    refine H2.mono ?_
    rintro e w2 ⟨rfl, rfl⟩
    go_wp2_with fail
    go_ret
    exact ⟨HF.out _ (by rw [HR.out]; rfl), rfl⟩
  cases h3 : isB s ⟨#[92, 43]⟩ k n 1
  rotate_left
  · rw [h0, h1, h2, h3] at HR
    rw [h0] at H0
    rw [h1] at H1
    rw [h2] at H2
    rw [h3] at H3
    go_enter Tryz.func92, Tryz.ntmps92
    go_wp2_with fail
    refine H0.mono ?_
    rintro e w0 ⟨rfl, rfl⟩
    go_wp2_with fail
    refine H1.mono ?_
    rintro e w1 ⟨rfl, rfl⟩
    go_wp2_with fail
    refine H2.mono ?_
    rintro e w2 ⟨rfl, rfl⟩
    go_wp2_with fail
    refine H3.mono ?_
    rintro e w3 ⟨rfl, rfl⟩
    go_wp2_with fail
    go_ret
    exact ⟨HF.out _ (by rw [HR.out]; rfl), rfl⟩
  cases h4 : isB s ⟨#[111, 110, 99, 101]⟩ k n 1
  rotate_left
  · rw [h0, h1, h2, h3, h4] at HR
    rw [h0] at H0
    rw [h1] at H1
    rw [h2] at H2
    rw [h3] at H3
    rw [h4] at H4
    go_enter Tryz.func92, Tryz.ntmps92
    go_wp2_with fail
    refine H0.mono ?_
    rintro e w0 ⟨rfl, rfl⟩
    go_wp2_with fail
    refine H1.mono ?_
    rintro e w1 ⟨rfl, rfl⟩
    go_wp2_with fail
    refine H2.mono ?_
    rintro e w2 ⟨rfl, rfl⟩
    go_wp2_with fail
    refine H3.mono ?_
    rintro e w3 ⟨rfl, rfl⟩
    go_wp2_with fail
    refine H4.mono ?_
    rintro e w4 ⟨rfl, rfl⟩
    go_wp2_with fail
    go_ret
    exact ⟨HF.out _ (by rw [HR.out]; rfl), rfl⟩
  cases h5 : isB s ⟨#[102, 111, 114, 97, 108, 108]⟩ k n 2
  rotate_left
  · rw [h0, h1, h2, h3, h4, h5] at HR
    rw [h0] at H0
    rw [h1] at H1
    rw [h2] at H2
    rw [h3] at H3
    rw [h4] at H4
    rw [h5] at H5
    go_enter Tryz.func92, Tryz.ntmps92
    go_wp2_with fail
    refine H0.mono ?_
    rintro e w0 ⟨rfl, rfl⟩
    go_wp2_with fail
    refine H1.mono ?_
    rintro e w1 ⟨rfl, rfl⟩
    go_wp2_with fail
    refine H2.mono ?_
    rintro e w2 ⟨rfl, rfl⟩
    go_wp2_with fail
    refine H3.mono ?_
    rintro e w3 ⟨rfl, rfl⟩
    go_wp2_with fail
    refine H4.mono ?_
    rintro e w4 ⟨rfl, rfl⟩
    go_wp2_with fail
    refine H5.mono ?_
    rintro e w5 ⟨rfl, rfl⟩
    go_wp2_with fail
    go_ret
    exact ⟨HF.out _ (by rw [HR.out]; rfl), rfl⟩
  cases h6 : isB s ⟨#[33]⟩ k n 0
  rotate_left
  · rw [h0, h1, h2, h3, h4, h5, h6] at HR
    rw [h0] at H0
    rw [h1] at H1
    rw [h2] at H2
    rw [h3] at H3
    rw [h4] at H4
    rw [h5] at H5
    rw [h6] at H6
    go_enter Tryz.func92, Tryz.ntmps92
    go_wp2_with fail
    refine H0.mono ?_
    rintro e w0 ⟨rfl, rfl⟩
    go_wp2_with fail
    refine H1.mono ?_
    rintro e w1 ⟨rfl, rfl⟩
    go_wp2_with fail
    refine H2.mono ?_
    rintro e w2 ⟨rfl, rfl⟩
    go_wp2_with fail
    refine H3.mono ?_
    rintro e w3 ⟨rfl, rfl⟩
    go_wp2_with fail
    refine H4.mono ?_
    rintro e w4 ⟨rfl, rfl⟩
    go_wp2_with fail
    refine H5.mono ?_
    rintro e w5 ⟨rfl, rfl⟩
    go_wp2_with fail
    refine H6.mono ?_
    rintro e w6 ⟨rfl, rfl⟩
    go_wp2_with fail
    go_ret
    exact ⟨HF.out _ (by rw [HR.out]; rfl), rfl⟩
  rw [h0, h1, h2, h3, h4, h5, h6] at HR
  rw [h0] at H0
  rw [h1] at H1
  rw [h2] at H2
  rw [h3] at H3
  rw [h4] at H4
  rw [h5] at H5
  rw [h6] at H6
  go_enter Tryz.func92, Tryz.ntmps92
  go_wp2_with fail
  refine H0.mono ?_
  rintro e w0 ⟨rfl, rfl⟩
  go_wp2_with fail
  refine H1.mono ?_
  rintro e w1 ⟨rfl, rfl⟩
  go_wp2_with fail
  refine H2.mono ?_
  rintro e w2 ⟨rfl, rfl⟩
  go_wp2_with fail
  refine H3.mono ?_
  rintro e w3 ⟨rfl, rfl⟩
  go_wp2_with fail
  refine H4.mono ?_
  rintro e w4 ⟨rfl, rfl⟩
  go_wp2_with fail
  refine H5.mono ?_
  rintro e w5 ⟨rfl, rfl⟩
  go_wp2_with fail
  refine H6.mono ?_
  rintro e w6 ⟨rfl, rfl⟩
  go_wp2_with fail
  go_ret
  exact ⟨HF.out _ (by rw [HR.out]; rfl), rfl⟩
end Go.Proofs.YtpigjapbhbdhbaaGreatDoor

namespace Go.Proofs.YtpigjapbhbdhbaaGreatDoor
open Go Go.RowKit
set_option linter.unusedVariables false
def bAt (j : Nat) : List UInt8 × Int := (bTab 4).getD j ([], 0)
theorem bAt_get (j : Nat) (h : j < 45) : (bTab 4)[j]? = some (bAt j) := by
  have : j < (bTab 4).length := by rw [bTab_len.1]; exact h
  rw [bAt, List.getD_eq_getElem?_getD, List.getElem?_eq_getElem this]; rfl
theorem isBu_hit {x : List UInt8} {a : Int} {j : Nat} (hj : j < 45) (h1 : (bAt j).1 = x) (h2 : (bAt j).2 = a) : isBu x a = true := by
  unfold isBu
  refine List.any_eq_true.2 ⟨bAt j, List.mem_of_getElem? (bAt_get j hj), ?_⟩
  simp [h1, h2]
theorem isBu_miss {x : List UInt8} {a : Int} (h : ∀ q, q < 45 → ¬ ((bAt q).1 = x ∧ (bAt q).2 = a)) : isBu x a = false := by
  cases hb : isBu x a with
  | false => rfl
  | true =>
    exfalso
    unfold isBu at hb
    obtain ⟨p, hp, h2⟩ := List.any_eq_true.1 hb
    obtain ⟨j, hj, rfl⟩ := List.mem_iff_getElem.1 hp
    have hj' : j < 45 := by rw [← bTab_len.1]; exact hj
    have h3 := bAt_get j hj'
    rw [List.getElem?_eq_getElem hj] at h3
    rw [Option.some.inj h3] at h2
    simp only [Bool.and_eq_true, decide_eq_true_eq] at h2
    exact h j hj' h2
set_option maxRecDepth 100000 in
theorem bAt_small : ((List.range 45).all fun j => decide (0 ≤ (bAt j).2 ∧ (bAt j).2 ≤ 3)) = true := by decide
set_option maxRecDepth 100000 in
set_option maxHeartbeats 2000000 in
theorem specIsBu_any (p : Option Addr) (cap : Nat) (xs : List Int) (a : Int) (w : World) (hin : BIn w p xs) :
    Calls Tryz.prog 145 #[.slice p xs.length cap, .int .i64 a] w fun e w' => e = .returned (.bool (isBu (unU xs) a)) ∧ Below w.heap.size w w' := by
  obtain ⟨l, el⟩ : ∃ l, l = xs.length := ⟨_, rfl⟩
  obtain ⟨s, es⟩ : ∃ s, s = strOfNums xs := ⟨_, rfl⟩
  have HCV : Hid (∀ W, Below w.heap.size w W → (convert 35 9 (.slice p l cap)).run Tryz.prog W = .ok (.string s) W) := fun W hW => by rw [es]; exact conv_str (hin.below hW) l cap el 9 Tryz.underlying9
  have HS : Hid (s = bOf (unU xs)) := by rw [es]; exact str_unU xs
  have HT := l7table_any w
  rw [← el]
  clear hin el es
  go_enter Tryz.func145, Tryz.ntmps145
  go_wp2_with fail
  refine HT.mono ?_
  rintro e w2 ⟨p1, p2, n, c1, c2, rfl, rfl, ⟨B, htb⟩, hb2⟩
  obtain ⟨g1, cap1, hv1, _⟩ := htb.nam.form (by decide)
  simp only [Value.slice.injEq] at hv1
  obtain ⟨rfl, hq1⟩ := hv1
  obtain ⟨g2, cap2, hv2, _⟩ := htb.ari.form (by decide)
  simp only [Value.slice.injEq] at hv2
  obtain ⟨rfl, hq2⟩ := hv2
  have HC : Hid (∀ j, j < 45 → w2.cell? ⟨g1, j, none⟩ = some (.string (bOf (bAt j).1)) ∧ w2.cell? ⟨g2, j, none⟩ = some (.int .i64 (bAt j).2)) := fun j hj => by
    have h1 := htb.nam.cellAt j (by omega)
    have h2 := htb.ari.cellAt j (by omega)
    rw [List.getElem?_map, bAt_get j hj] at h1 h2
    exact ⟨h1, h2⟩
  have HB2 : Hid (Below w.heap.size w w2) := hb2
  clear htb hb2 HT hq1 hq2
  go_wp2_with fail
  go_loopw [7] (fun i wr => ∃ j : Nat, j ≤ 45 ∧ i = .int .i64 j ∧ Hid (∀ q, q < j → ¬ ((bAt q).1 = unU xs ∧ (bAt q).2 = a)) ∧ Hid (Below w2.heap.size w2 wr)) (fun i _ => 45 - (intOf i).toNat)
  case atStart => exact ⟨0, by omega, rfl, fun q hq => absurd hq (Nat.not_lt_zero _), Below.refl _ _⟩
  case round =>
    obtain ⟨j, hj, rfl, HP, HB⟩ := hrel
    by_cases hlt : j < 45
    · obtain ⟨h1, h2⟩ := HC.out j hlt
      have d1 := (HB.out.cell (World.block_lt_of_cell? _ _ h1)).trans h1
      have d2 := (HB.out.cell (World.block_lt_of_cell? _ _ h2)).trans h2
      have hsm := List.all_eq_true.1 bAt_small j (List.mem_range.2 hlt)
      simp only [decide_eq_true_eq] at hsm
      have hBw : Below w.heap.size w wr := Below.on HB2.out HB.out
      have hk0 : (0 : Int) ≤ (j : Int) := by omega
      have hk1 : (j : Int) < 45 := by omega
      have hcv2 := HCV.out wr.drew hBw.drew
      have HQ1 : Hid (((bOf (bAt j).1).toList == s.toList) = decide ((bAt j).1 = unU xs)) := by
        show _ = _
        rw [HS.out, bOf_list, bOf_list]
        by_cases h : (bAt j).1 = unU xs
        · rw [h]; simp
        · rw [decide_eq_false h]; simpa using h
      obtain ⟨sj, esj⟩ : ∃ sj, sj = bOf (bAt j).1 := ⟨_, rfl⟩
      obtain ⟨aj, eaj⟩ : ∃ aj, aj = (bAt j).2 := ⟨_, rfl⟩
      rw [← esj] at d1 HQ1
      rw [← eaj] at d2 hsm
      have HEA : Hid (aj = (bAt j).2) := eaj
      clear esj eaj h1 h2 hBw
      by_cases hA : (bAt j).1 = unU xs
      · have hs1 : (sj.toList == s.toList) = true := by rw [HQ1.out]; simpa using hA
        by_cases hB : aj = a
        · have HF : Hid (isBu (unU xs) a = true) := isBu_hit hlt hA (by rw [← HEA.out]; exact hB)
          have ha1 : (aj == a) = true := by simpa using hB
          clear hA hB HQ1
          go_wp2_with fail
          go_region_held3 (fun W => W = wr.drew) (rfl) (fail)
          all_goals go_wp2_with fail
          all_goals go_ret
          all_goals exact ⟨ret_bool HF.out.symm, (Below.on HB2.out HB.out).drew⟩
        · have HN : Hid (∀ q, q < j + 1 → ¬ ((bAt q).1 = unU xs ∧ (bAt q).2 = a)) := fun q hq hh => by
            by_cases e : q = j
            · subst e; exact hB (HEA.out.trans hh.2)
            · exact HP.out q (by omega) hh
          have ha1 : (aj == a) = false := by simpa using hB
          have HB3 : Hid (Below w2.heap.size w2 wr.drew) := HB.out.drew
          clear hA hB HQ1
          go_wp2_with fail
          go_region_held3 (fun W => W = wr.drew) (rfl) (fail)
          all_goals go_wp2_with fail
          all_goals go_roundw
          all_goals first
            | (simp [intOf]; omega)
            | exact ⟨j + 1, by omega, by go_num, HN, HB3⟩
      · have hs1 : (sj.toList == s.toList) = false := by rw [HQ1.out]; simpa using hA
        have HN : Hid (∀ q, q < j + 1 → ¬ ((bAt q).1 = unU xs ∧ (bAt q).2 = a)) := fun q hq hh => by
          by_cases e : q = j
          · subst e; exact hA hh.1
          · exact HP.out q (by omega) hh
        have HB3 : Hid (Below w2.heap.size w2 wr.drew) := HB.out.drew
        clear hA HQ1
        go_wp2_with fail
        refine wp_region_held_drew (S := fun W => W = wr.drew) (by kernel_rfl) ?_ (fun hHeld => ?_)
        · exact rfl
        refine hTake (i := 0) (v := .slice (some ⟨g1, 0, none⟩) 45 c1) (some 18) (by kernel_rfl) (by kernel_rfl) (by kernel_rfl) (by kernel_rfl) (by kernel_rfl) (fun _ _ _ h => h) (fun o ho W hSw => ?y0) (by assumption) ?_
        case y0 =>
          cases ho
          simp [execOp, go_sem, Act.eval]
        simp only [Act.put, List.setIfInBounds_toArray, List.set_cons_zero, List.set_cons_succ]
        refine hTake (i := 1) (v := .int .i64 j) (some 19) (by kernel_rfl) (by kernel_rfl) (by kernel_rfl) (by kernel_rfl) (by kernel_rfl) (fun _ _ _ h => h) (fun o ho W hSw => ?y1) (by assumption) ?_
        case y1 =>
          cases ho
          simp [execOp, go_sem, Act.eval]
        simp only [Act.put, List.setIfInBounds_toArray, List.set_cons_zero, List.set_cons_succ]
        refine hTake (i := 2) (v := .pointer (some ⟨g1, j, none⟩)) (some 20) (by kernel_rfl) (by kernel_rfl) (by kernel_rfl) (by kernel_rfl) (by kernel_rfl) (fun _ _ _ h => h) (fun o ho W hSw => ?y2) (by assumption) ?_
        case y2 =>
          cases ho
          simp [execOp, go_sem, Act.eval, hk0, hk1]
        simp only [Act.put, List.setIfInBounds_toArray, List.set_cons_zero, List.set_cons_succ]
        refine hTake (i := 3) (v := .string sj) (some 21) (by kernel_rfl) (by kernel_rfl) (by kernel_rfl) (by kernel_rfl) (by kernel_rfl) (fun _ _ _ h => h) (fun o ho W hSw => ?y3) (by assumption) ?_
        case y3 =>
          cases ho
          subst hSw
          simp [execOp, go_sem, Act.eval, d1]
        simp only [Act.put, List.setIfInBounds_toArray, List.set_cons_zero, List.set_cons_succ]
        refine hTake (i := 4) (v := .slice p l cap) (some 22) (by kernel_rfl) (by kernel_rfl) (by kernel_rfl) (by kernel_rfl) (by kernel_rfl) (fun _ _ _ h => h) (fun o ho W hSw => ?y4) (by assumption) ?_
        case y4 =>
          cases ho
          simp [execOp, go_sem, Act.eval]
        simp only [Act.put, List.setIfInBounds_toArray, List.set_cons_zero, List.set_cons_succ]
        refine hTake (i := 5) (v := .string s) (some 23) (by kernel_rfl) (by kernel_rfl) (by kernel_rfl) (by kernel_rfl) (by kernel_rfl) (fun _ _ _ h => h) (fun o ho W hSw => ?y5) (by assumption) ?_
        case y5 =>
          cases ho
          subst hSw
          simp [execOp, go_sem, Act.eval, hcv2]
        simp only [Act.put, List.setIfInBounds_toArray, List.set_cons_zero, List.set_cons_succ]
        refine hTake (i := 6) (v := .bool false) (some 24) (by kernel_rfl) (by kernel_rfl) (by kernel_rfl) (by kernel_rfl) (by kernel_rfl) (fun _ _ _ h => h) (fun o ho W hSw => ?y6) (by assumption) ?_
        case y6 =>
          cases ho
          simp [execOp, go_sem, Act.eval, hs1]
        simp only [Act.put, List.setIfInBounds_toArray, List.set_cons_zero, List.set_cons_succ]
        refine hTake (i := 7) (v := .bool false) (some 25) (by kernel_rfl) (by kernel_rfl) (by kernel_rfl) (by kernel_rfl) (by kernel_rfl) (fun _ _ _ h => h) (fun o ho W hSw => ?y7) (by assumption) ?_
        case y7 =>
          cases ho
          simp [execOp, go_sem, Act.eval]
        simp only [Act.put, List.setIfInBounds_toArray, List.set_cons_zero, List.set_cons_succ]
        refine hSkip (i := 8) (some 26) (by kernel_rfl) (by kernel_rfl) (by kernel_rfl) (by kernel_rfl) (by kernel_rfl) (fun _ _ _ h => h) (by assumption) ?_
        simp only [Act.put, List.setIfInBounds_toArray, List.set_cons_zero, List.set_cons_succ]
        refine hSkip (i := 9) (some 27) (by kernel_rfl) (by kernel_rfl) (by kernel_rfl) (by kernel_rfl) (by kernel_rfl) (fun _ _ _ h => h) (by assumption) ?_
        simp only [Act.put, List.setIfInBounds_toArray, List.set_cons_zero, List.set_cons_succ]
        refine hSkip (i := 10) (some 28) (by kernel_rfl) (by kernel_rfl) (by kernel_rfl) (by kernel_rfl) (by kernel_rfl) (fun _ _ _ h => h) (by assumption) ?_
        simp only [Act.put, List.setIfInBounds_toArray, List.set_cons_zero, List.set_cons_succ]
        refine hSkip (i := 11) (some 29) (by kernel_rfl) (by kernel_rfl) (by kernel_rfl) (by kernel_rfl) (by kernel_rfl) (fun _ _ _ h => h) (by assumption) ?_
        simp only [Act.put, List.setIfInBounds_toArray, List.set_cons_zero, List.set_cons_succ]
        refine hSkip (i := 12) (some 30) (by kernel_rfl) (by kernel_rfl) (by kernel_rfl) (by kernel_rfl) (by kernel_rfl) (fun _ _ _ h => h) (by assumption) ?_
        simp only [Act.put, List.setIfInBounds_toArray, List.set_cons_zero, List.set_cons_succ]
        refine hSkip (i := 13) (some 31) (by kernel_rfl) (by kernel_rfl) (by kernel_rfl) (by kernel_rfl) (by kernel_rfl) (fun _ _ _ h => h) (by assumption) ?_
        simp only [Act.put, List.setIfInBounds_toArray, List.set_cons_zero, List.set_cons_succ]
        refine hTake (i := 14) (v := .bool false) (some 32) (by kernel_rfl) (by kernel_rfl) (by kernel_rfl) (by kernel_rfl) (by kernel_rfl) (fun _ _ _ h => h) (fun o ho W hSw => ?y14) (by assumption) ?_
        case y14 =>
          cases ho
          simp [execOp, go_sem, Act.eval]
        simp only [Act.put, List.setIfInBounds_toArray, List.set_cons_zero, List.set_cons_succ]
        refine wpAnyH_done (by kernel_rfl) ?_ _
        change Exit.then _ _ _ _ wr.drew
        go_wp2_with fail
        go_roundw
        case rel => exact ⟨j + 1, by omega, by go_num, HN, HB3⟩
        case measure => simp [intOf]; omega
    · obtain rfl : j = 45 := by omega
      have HF : Hid (isBu (unU xs) a = false) := isBu_miss HP.out
      go_wp2_with fail
      go_ret
      exact ⟨ret_bool HF.out.symm, Below.on HB2.out HB.out⟩
end Go.Proofs.YtpigjapbhbdhbaaGreatDoor

