/- Texts of CeI, CeJ, CeK, CeL. Own work of the verifier. -/
import Derived.Test.YtickbkcpcgmlmaaGreatDoorUqbc
import Derived.Test.YtickbkcpcgmlmaaGreatDoorUqaz
namespace Go.Proofs.YtickbkcpcgmlmaaGreatDoor
set_option maxRecDepth 100000
open Go Go.RowKit Go.Maps
set_option linter.unusedVariables false
set_option linter.unusedSimpArgs false
def GsIn (W0 : World) (p : Option Addr) (gs : List Tr) : Prop := ∀ (j : Nat) (x : Tr), gs[j]? = some x → ∃ g ty y, p = some ⟨g, 0, none⟩ ∧ W0.cell? ⟨g, j * 2, none⟩ = some (.iface ty y) ∧ W0.cell? ⟨g, j * 2 + 1, none⟩ = some (.int .i64 (giO x.1)) ∧ FoIn W0 0 x.fo [.iface ty y]
theorem gsIn_of {W0 : World} {B n cp : Nat} {p : Option Addr} {gs : List Tr} {vs : List Value} (hn : n = gs.length) (hrow : W0.ownsRow B 118 2 (.slice p n cp) n (gRow gs vs)) (hf : FoIn W0 0 (itsF gs) vs) : GsIn W0 p gs := fun j x hx => by
 obtain ⟨hj, ex⟩ := List.getElem?_eq_some_iff.1 hx; obtain ⟨ty, y, h1, h2⟩ := FoIn.atC gs vs hf j hj; obtain ⟨h3, h4⟩ := gRow_at gs vs (FoIn.lenC hf) j hj _ h1; obtain ⟨g, cap, hv, hb, hg⟩ := hrow.form (by omega)
 have hp : p = some ⟨g, 0, none⟩ := by injection hv
 subst hp; rw [ex] at h2 h4; exact ⟨g, ty, y, rfl, by rw [hrow.cellAt _ (by omega)]; exact h3, by rw [hrow.cellAt _ (by omega)]; exact h4, h2⟩
theorem GsIn.below {W0 W : World} {p : Option Addr} {gs : List Tr} (h : GsIn W0 p gs) (hb : Below W0.heap.size W0 W) : GsIn W p gs := fun j x hx => by
 obtain ⟨g, ty, y, h1, h2, h3, h4⟩ := h j x hx; exact ⟨g, ty, y, h1, (hb.cell (World.block_lt_of_cell? _ _ h2)).trans h2, (hb.cell (World.block_lt_of_cell? _ _ h3)).trans h3, h4.below hb⟩
theorem ariT_len {t : Tr} (hok : t.fo.ok) : ariT t.1 = (trs t.2).length := by
 unfold ariT
 rw [trs_len]
 split
 ·rename_i h
  have := hok.2.2.1 h
  omega
 ·rename_i h
  rw [hok.2.2.2.1 h]; rfl
theorem ariM_step (gs : List Tr) (m0 : Nat) {j : Nat} {x : Tr} (hx : gs[j]? = some x) : (gs.take (j + 1)).foldl (fun m g => max m (ariT g.1)) m0 = max ((gs.take j).foldl (fun m g => max m (ariT g.1)) m0) (ariT x.1) := by
 rw [List.take_add_one, hx]
 simp [List.foldl_append]
theorem envB_any : ∀ gs : List Tr, envB gs = (gs.take (gs.length - 1)).any (fun g => !inlG g)
 | [] => rfl
 | [g] => by simp [envB]
 | g :: x :: r => by
   have := envB_any (x :: r)
   unfold envB
   rw [this]
   simp
abbrev fcV (ht : TypeId) (hx : Value) (p : Option Addr) (n cp : Nat) : Value := .agg #[.iface ht hx, .slice p n cp]
section
variable {W0 w : World}
set_option maxHeartbeats 2000000 in
theorem greatest_any (h : Tr) (ht : TypeId) (hx : Value) (gs : List Tr) (p : Option Addr) (n cp : Nat) (hw : Below W0.heap.size W0 w) (hok : h.fo.ok) (hcal : calC h.1 = true) (hfo : FoIn W0 0 h.fo [.iface ht hx]) (hgs : GsIn W0 p gs) (hn : n = gs.length) (hgo : ∀ g ∈ gs, g.fo.ok ∧ calC g.1 = true ∧ g.2.cells.length ≤ 2000) (hl : h.2.cells.length ≤ 2000) (hnl : n ≤ 2001) (hcp : n ≤ cp) :
  Calls Tryz.prog 171 #[fcV ht hx p n cp] w fun e w' => e = .returned (.int .i64 (ariM h gs)) ∧ Below w.heap.size w w' := by
 obtain ⟨V, eV⟩ : ∃ V, V = w.alloc (.cells #[.iface ht hx, .slice p n cp] 59) := ⟨_, rfl⟩
 have hV : Below w.heap.size w V := by rw [eV]; exact new_lowK w _
 have hbV : V.heap[w.heap.size]? = some (.cells #[.iface ht hx, .slice p n cp] 59 (0, 0)) := by rw [eV]; exact heap_alloc_new w _
 obtain ⟨pa, _, HAR⟩ := argsK hok (by unfold calC at hcal; simpa using hcal) hfo; have HA0 := HAR V (Below.on hw hV); rw [← ariT_len hok] at HA0
 have hlh : ariT h.1 ≤ 2000 := by rw [ariT_len hok, trs_len]; have := Fo.count_le h.2; omega
 have y1 : V.cell? ⟨w.heap.size, 1, none⟩ = some (.slice p n cp) := by rw [cell_block hbV]; rfl
 have HGS : Hid (∀ j, j < n → ∃ x g ty y, gs[j]? = some x ∧ p = some ⟨g, 0, none⟩ ∧ (∀ W, Below W0.heap.size W0 W → W.cell? ⟨g, j * 2, none⟩ = some (.iface ty y) ∧ W.cell? ⟨g, j * 2 + 1, none⟩ = some (.int .i64 (giO x.1))) ∧ ariT x.1 ≤ 2000 ∧ ∃ pq, ∀ W, Below W0.heap.size W0 W → Calls Tryz.prog 101 #[.iface ty y] W fun e w' => e = .returned (.slice pq (ariT x.1) (ariT x.1)) ∧ w' = W) := fun j hj => by
  obtain ⟨x, ex⟩ : ∃ x, gs[j]? = some x := ⟨_, List.getElem?_eq_getElem (by omega)⟩
  obtain ⟨g, ty, y, h1, h2, h3, h4⟩ := hgs j x ex; obtain ⟨o1, o2, o3⟩ := hgo x (List.mem_of_getElem? ex); obtain ⟨pq, _, hq⟩ := argsK o1 (by unfold calC at o2; simpa using o2) h4; rw [← ariT_len o1] at hq; exact ⟨x, g, ty, y, ex, h1, fun W hW => ⟨(hW.cell (World.block_lt_of_cell? _ _ h2)).trans h2, (hW.cell (World.block_lt_of_cell? _ _ h3)).trans h3⟩, by rw [ariT_len o1, trs_len]; have := Fo.count_le x.2; omega, pq, hq⟩
 have HB : Hid (Below W0.heap.size W0 w ∧ Below w.heap.size w V ∧ n = gs.length) := ⟨hw, hV, hn⟩
 have HV : Hid (V = w.alloc (.cells #[.iface ht hx, .slice p n cp] 59)) := eV
 obtain ⟨m0, em0⟩ : ∃ m0, m0 = ariT h.1 := ⟨_, rfl⟩
 obtain ⟨R, eR⟩ : ∃ R, R = ariM h gs := ⟨_, rfl⟩
 have HR : Hid (R = gs.foldl (fun m g => max m (ariT g.1)) m0) := by rw [eR, em0]; rfl
 rw [← em0] at HA0 hlh; rw [← eR]
 have HA0' : Calls Tryz.prog 101 #[.iface ht hx] (w.alloc (.cells #[.iface ht hx, .slice p n cp] 59)) fun e w' => e = .returned (.slice pa m0 m0) ∧ w' = V := by rw [← eV]; exact HA0
 clear hw hok hcal hfo hgs hn hgo hl hV hbV eV HAR em0 eR HA0
 go_enter Tryz.func171, Tryz.ntmps171
 go_wp2_with fail; refine HA0'.mono ?_; rintro e W2 ⟨rfl, hW2⟩; rw [hW2]; clear hW2 HA0'; go_wp2_with fail
 go_loopw [3, 13] (fun gv iv wr => ∃ (j M : Nat), j ≤ n ∧ M ≤ 2000 ∧ gv = .int .i64 M ∧ iv = .int .i64 j ∧ Hid (M = (gs.take j).foldl (fun m g => max m (ariT g.1)) m0 ∧ Below w.heap.size w wr)) (fun _ iv _ => n - (intOf iv).toNat)
 case atStart => exact ⟨0, m0, Nat.zero_le _, hlh, by go_num, by go_num, rfl, HB.out.2.1⟩
 case round =>
  obtain ⟨j, M, hjn, hM, rfl, rfl, HI⟩ := hrel
  by_cases hj : j < n
  ·obtain ⟨x, g, ty, y, ex, ep, hc, hax, pq, hq⟩ := HGS.out j hj
   subst ep; have hbs : Below W0.heap.size W0 wr := Below.on HB.out.1 HI.out.2; obtain ⟨d0, d1⟩ := hc wr hbs; have HQ := hq (wr.alloc (.cells #[.iface ty y, .int .i64 (giO x.1)] 118)) (Below.on hbs (new_lowK wr _))
   obtain ⟨ax, eax⟩ : ∃ ax, ax = ariT x.1 := ⟨_, rfl⟩
   obtain ⟨gi, egi⟩ : ∃ gi, gi = giO x.1 := ⟨_, rfl⟩
   rw [← eax, ← egi] at HQ; rw [← eax] at hax; rw [← egi] at d1
   have HN : Hid (max M ax = (gs.take (j + 1)).foldl (fun m g => max m (ariT g.1)) m0 ∧ ∀ o, Below w.heap.size w (wr.alloc o)) := by
    refine ⟨?_, fun o => Below.on HI.out.2 (new_lowK wr o)⟩; rw [ariM_step gs m0 ex, ← HI.out.1, eax]
   clear hq hc hbs eax egi ex HI; go_wp2_with fail; refine HQ.mono ?_; rintro e W3 ⟨rfl, hW3⟩; rw [hW3]; clear hW3 HQ; go_wp2_with fail; go_roundw
   case rel => exact ⟨j + 1, max M ax, by omega, by omega, by go_num, by go_num, HN.out.1, HN.out.2 _⟩
   case measure => (simp [intOf] <;> omega)
  ·obtain rfl : j = n := by omega
   have HEND : Hid (M = R ∧ Below w.heap.size w wr) := by
    refine ⟨?_, HI.out.2⟩; rw [HR.out, HI.out.1, HB.out.2.2, List.take_length]
   clear HI; go_wp2_with fail; go_ret; exact ⟨by rw [← HEND.out.1]; rfl, HEND.out.2⟩
set_option maxHeartbeats 2000000 in
theorem indexE_any (gs : List Tr) (p : Option Addr) (n cp : Nat) (hw : Below W0.heap.size W0 w) (hgs : GsIn W0 p gs) (hn : n ≤ gs.length) (hgo : ∀ g ∈ gs, g.fo.ok ∧ goodG g = true) (hnl : n ≤ 2001) :
  Calls Tryz.prog 220 #[.slice p n cp, .func (.func 108) #[] #[]] w fun e w' => ∃ r : Int, e = .returned (.int .i64 r) ∧ -1 ≤ r ∧ r ≤ 3000 ∧ (0 ≤ r ↔ (gs.take n).any (fun g => !inlG g) = true) ∧ Below w.heap.size w w' := by
 have HGS : Hid (∀ j, j < n → ∃ x g ty y, gs[j]? = some x ∧ p = some ⟨g, 0, none⟩ ∧ (∀ W, Below W0.heap.size W0 W → W.cell? ⟨g, j * 2, none⟩ = some (.iface ty y) ∧ W.cell? ⟨g, j * 2 + 1, none⟩ = some (.int .i64 (giO x.1))) ∧ (giO x.1 == 19) = !inlG x) := fun j hj => by
  obtain ⟨x, ex⟩ : ∃ x, gs[j]? = some x := ⟨_, List.getElem?_eq_getElem (by omega)⟩
  obtain ⟨g, ty, y, h1, h2, h3, h4⟩ := hgs j x ex; obtain ⟨o1, o2⟩ := hgo x (List.mem_of_getElem? ex); exact ⟨x, g, ty, y, ex, h1, fun W hW => ⟨(hW.cell (World.block_lt_of_cell? _ _ h2)).trans h2, (hW.cell (World.block_lt_of_cell? _ _ h3)).trans h3⟩, giO_call o1 o2⟩
 have HB : Hid (Below W0.heap.size W0 w) := hw; clear hw hgs hn hgo
 go_enter Tryz.func220, Tryz.ntmps220
 go_wp2_with fail
 go_loopw [8] (fun i wr => ∃ (j : Nat), j ≤ n ∧ i = .int .i64 j ∧ Hid ((gs.take j).any (fun g => !inlG g) = false ∧ Below w.heap.size w wr)) (fun i _ => n - (intOf i).toNat)
 case atStart => exact ⟨0, Nat.zero_le _, by go_num, rfl, Below.refl _ _⟩
 case round =>
  obtain ⟨j, hj, rfl, HI⟩ := hrel
  by_cases hlt : j < n
  ·obtain ⟨x, g, ty, y, ex, ep, hc, hgi⟩ := HGS.out j hlt
   subst ep; have hbs : Below W0.heap.size W0 wr := Below.on HB.out HI.out.2; obtain ⟨d0, d1⟩ := hc wr hbs; have HQ := isCall_any ty y (giO x.1) wr; rw [hgi] at HQ
   have ht : (gs.take (j + 1)).any (fun g => !inlG g) = !inlG x := by
    rw [List.take_add_one, ex]
    simp [List.any_append, HI.out.1]
   obtain ⟨gi, egi⟩ : ∃ gi, gi = giO x.1 := ⟨_, rfl⟩
   rw [← egi] at HQ d1
   cases hb : inlG x with
   | true =>
     rw [hb] at HQ ht; have HN : Hid ((gs.take (j + 1)).any (fun g => !inlG g) = false) := ht; clear hc hbs egi ex hgi ht; go_wp2_with fail; refine HQ.mono ?_; rintro e W3 ⟨rfl, hb3⟩; have HB3 : Hid (Below w.heap.size w W3) := Below.on HI.out.2 hb3; clear hb3 HQ HI; go_wp2_with fail; go_roundw
     case rel => exact ⟨j + 1, by omega, by go_num, HN.out, HB3.out⟩
     case measure => (simp [intOf] <;> omega)
   | false =>
     rw [hb] at HQ ht
     have HN : Hid ((gs.take n).any (fun g => !inlG g) = true) := by
      show _ = _
      have h5 : gs.take (j + 1) = (gs.take n).take (j + 1) := by rw [List.take_take]; congr 1; omega
      rw [h5, Bool.not_false] at ht; rw [List.any_eq_true] at ht ⊢; obtain ⟨z, hz, hz2⟩ := ht; exact ⟨z, List.mem_of_mem_take hz, hz2⟩
     clear hc hbs egi ex hgi ht; go_wp2_with fail; refine HQ.mono ?_; rintro e W3 ⟨rfl, hb3⟩; have HB3 : Hid (Below w.heap.size w W3) := Below.on HI.out.2 hb3; clear hb3 HQ HI; go_wp2_with fail; go_ret; exact ⟨(j : Int), rfl, by omega, by omega, ⟨fun _ => HN.out, fun _ => by omega⟩, HB3.out⟩
  ·obtain rfl : j = n := by omega
   go_wp2_with fail; go_ret; exact ⟨-1, rfl, by omega, by omega, ⟨fun h => by omega, fun h => by rw [HI.out.1] at h; cases h⟩, HI.out.2⟩
theorem contE_any (gs : List Tr) (p : Option Addr) (n cp : Nat) (hw : Below W0.heap.size W0 w) (hgs : GsIn W0 p gs) (hn : n ≤ gs.length) (hgo : ∀ g ∈ gs, g.fo.ok ∧ goodG g = true) (hnl : n ≤ 2001) :
  Calls Tryz.prog 172 #[.slice p n cp, .func (.func 108) #[] #[]] w fun e w' => e = .returned (.bool ((gs.take n).any (fun g => !inlG g))) ∧ Below w.heap.size w w' := by
 have HI := indexE_any gs p n cp hw hgs hn hgo hnl
 obtain ⟨R, eR⟩ : ∃ R, R = (gs.take n).any (fun g => !inlG g) := ⟨_, rfl⟩
 rw [← eR] at HI ⊢; clear hw hgs hn hgo eR
 go_enter Tryz.func172, Tryz.ntmps172
 go_wp2_with fail; refine HI.mono ?_; rintro e w1 ⟨r, rfl, h1, h2, h3, hb⟩; have HB : Hid (Below w.heap.size w w1) := hb
 have HR : Hid (decide (0 ≤ r) = R) := by
  show _ = _
  cases R with
  | true => exact decide_eq_true (h3.2 rfl)
  | false => exact decide_eq_false fun h => by have := h3.1 h; cases this
 clear hb h3 HI; go_wp2_with fail; go_ret; exact ⟨by rw [← HR.out]; rfl, HB.out⟩
set_option maxHeartbeats 2000000 in
theorem hasEnv_any (ht : TypeId) (hx : Value) (gs : List Tr) (p : Option Addr) (n cp : Nat) (hw : Below W0.heap.size W0 w) (hgs : GsIn W0 p gs) (hn : n = gs.length) (hgo : ∀ g ∈ gs, g.fo.ok ∧ goodG g = true) (hnl : n ≤ 2001) (hcp : n ≤ cp) (hcm : cp ≤ 9223372036854775807) :
  Calls Tryz.prog 104 #[fcV ht hx p n cp] w fun e w' => e = .returned (.bool (envB gs)) ∧ Below w.heap.size w w' := by
 by_cases h1 : 1 < n
 ·obtain ⟨x0, ex0⟩ : ∃ x, gs[0]? = some x := ⟨_, List.getElem?_eq_getElem (by omega)⟩
  obtain ⟨g, _, _, ep, _⟩ := hgs 0 x0 ex0; subst ep
  obtain ⟨m, rfl⟩ : ∃ m, n = m + 1 := ⟨n - 1, by omega⟩
  have HC := contE_any (w := w.alloc (.cells #[.iface ht hx, .slice (some ⟨g, 0, none⟩) (m + 1) cp] 59)) gs (some ⟨g, 0, none⟩) m cp (Below.on hw (new_lowK w _)) hgs (by omega) hgo (by omega)
  have e1 : (gs.take m).any (fun g => !inlG g) = envB gs := by rw [envB_any, ← hn]; rfl
  rw [e1] at HC
  obtain ⟨R, eR⟩ : ∃ R, R = envB gs := ⟨_, rfl⟩
  rw [← eR] at HC ⊢
  have HB : Hid (∀ o, Below w.heap.size w (w.alloc o)) := fun o => new_lowK w o
  have hm : (m : Int) ≤ 2000 := by omega
  clear hw hgs hn hgo ex0 eR e1
  go_enter Tryz.func104, Tryz.ntmps104
  go_wp2_with fail; refine HC.mono ?_; rintro e w1 ⟨rfl, hb⟩; have HB1 : Hid (Below w.heap.size w w1) := Below.on (HB.out _) hb; clear hb HC; go_wp2_with fail; go_ret; exact ⟨rfl, HB1.out⟩
 ·have e1 : envB gs = false := by
   rw [envB_any, ← hn, show n - 1 = 0 by omega]; rfl
  rw [e1]
  have HB : Hid (∀ o, Below w.heap.size w (w.alloc o)) := fun o => new_lowK w o
  clear hw hgs hn hgo e1
  go_enter Tryz.func104, Tryz.ntmps104
  go_wp2_with fail; go_ret; exact ⟨rfl, HB.out _⟩
end
noncomputable def ncOps : Array Oper := match Tryz.f103.body with
 | some (.seq _ (.seq (.region _ ops _) _)) => ops
 | _ => #[]
theorem nc_size : ncOps.size = 9 := by kernel_rfl
abbrev afterN (o : Oper) (l : List Nat) : Bool := l.all fun i => o.after.toList.any fun e => (e.on == i) && Region.binds .any e
theorem nop0 : ∃ o, ncOps[0]? = some o ∧ o.guard = none ∧ o.dst = some 6 ∧ o.op = .load 59 (.tmp 1) := ⟨_, rfl, rfl, rfl, rfl⟩
theorem nop1 : ∃ o, ncOps[1]? = some o ∧ o.guard = none ∧ o.dst = some 7 ∧ o.op = .call { callee := .value (.func 170), args := #[.tmp 6], argTypes := #[59] } ∧ afterN o [0] = true := ⟨_, rfl, rfl, rfl, rfl, by kernel_rfl⟩
theorem nop2 : ∃ o, ncOps[2]? = some o ∧ o.guard = none ∧ o.dst = some 8 ∧ o.op = .makeMap 112 none := ⟨_, rfl, rfl, rfl, rfl⟩
theorem nop3 : ∃ o, ncOps[3]? = some o ∧ o.guard = none ∧ o.dst = some 9 ∧ o.op = .makeMap 113 none := ⟨_, rfl, rfl, rfl, rfl⟩
theorem nop4 : ∃ o, ncOps[4]? = some o ∧ o.guard = none ∧ o.dst = some 10 ∧ o.op = .load 59 (.tmp 1) := ⟨_, rfl, rfl, rfl, rfl⟩
theorem nop5 : ∃ o, ncOps[5]? = some o ∧ o.guard = none ∧ o.dst = some 11 ∧ o.op = .call { callee := .value (.func 171), args := #[.tmp 10], argTypes := #[59] } ∧ afterN o [4] = true := ⟨_, rfl, rfl, rfl, rfl, by kernel_rfl⟩
theorem nop6 : ∃ o, ncOps[6]? = some o ∧ o.guard = none ∧ o.dst = some 12 ∧ o.op = .build 115 #[(1, .tmp 7), (2, .tmp 8), (3, .tmp 9), (4, .tmp 11)] ∧ afterN o [1, 2, 3, 5] = true := ⟨_, rfl, rfl, rfl, rfl, by kernel_rfl⟩
theorem nop7 : ∃ o, ncOps[7]? = some o ∧ o.guard = none ∧ o.dst = some 13 ∧ o.op = .box 115 (.tmp 12) ∧ afterN o [6] = true := ⟨_, rfl, rfl, rfl, rfl, by kernel_rfl⟩
theorem nop8 : ∃ o, ncOps[8]? = some o ∧ o.guard = none ∧ o.dst = some 3 ∧ o.op = .assign (.tmp 13) ∧ afterN o [7] = true := ⟨_, rfl, rfl, rfl, rfl, by kernel_rfl⟩
theorem nlast : lastB .any ncOps 8 = true := by kernel_rfl
theorem lset {L : Array Bool} {i : Nat} (hi : i < L.size) (j : Nat) : (L.setIfInBounds i true).getD j false = (decide (j = i) || L.getD j false) := by
 simp only [Array.getD_eq_getD_getElem?, Array.getElem?_setIfInBounds]
 by_cases e : j = i
 ·subst e; simp [hi]
 ·simp [e, Ne.symm e]
def ncA (fv : Value) (fb : Nat) (v3 v6 v7 v8 v9 v10 v11 v12 v13 : Value) : Act := ⟨#[fv, .pointer (some ⟨fb, 0, none⟩), .pointer none, v3, undef, undef, v6, v7, v8, v9, v10, v11, v12, v13, undef, undef, undef, undef, undef, undef, undef, undef, undef, undef, undef, undef, undef, undef, undef, undef, undef, undef, undef, undef], []⟩
structure NCS (V : World) (fv : Value) (C : List Int) (ar : Int) (l : Nat → Bool) (v3 v6 v7 v8 v9 v10 v11 v12 v13 : Value) (w : World) : Prop where
 low : Below V.heap.size V w
 f0 : l 0 = true → v6 = fv
 f1 : l 1 = true → ∃ q m c2, v7 = .slice q m c2 ∧ OwnI w V.heap.size 3 q m c2 C
 f2 : l 2 = true → ∃ b, v8 = .map (some b) ∧ V.heap.size ≤ b ∧ w.heap[b]? = some (.map #[] 0)
 f3 : l 3 = true → ∃ b, v9 = .map (some b) ∧ V.heap.size ≤ b ∧ w.heap[b]? = some (.map #[] 0)
 f23 : l 2 = true → l 3 = true → v8 ≠ v9
 f4 : l 4 = true → v10 = fv
 f5 : l 5 = true → v11 = .int .i64 ar
 f6 : l 6 = true → v12 = .agg #[.slice none 0 0, v7, v8, v9, v11] ∧ l 1 = true ∧ l 2 = true ∧ l 3 = true ∧ l 5 = true
 f7 : l 7 = true → l 6 = true ∧ ∃ kb, v13 = ptrK kb ∧ V.heap.size ≤ kb ∧ w.heap[kb]? = some (.cells #[.slice none 0 0, v7, v8, v9, v11] 115 (0, 0))
 f8 : l 8 = true → l 7 = true ∧ v3 = v13
section
variable {V w w' : World} {fv : Value} {C : List Int} {ar : Int} {l : Nat → Bool} {v3 v6 v7 v8 v9 v10 v11 v12 v13 : Value}
theorem NCS.below (S : NCS V fv C ar l v3 v6 v7 v8 v9 v10 v11 v12 v13 w) (hb : Below w.heap.size w w') : NCS V fv C ar l v3 v6 v7 v8 v9 v10 v11 v12 v13 w' := by
 refine ⟨Below.on S.low hb, S.f0, fun h => ?_, fun h => ?_, fun h => ?_, S.f23, S.f4, S.f5, S.f6, fun h => ?_, S.f8⟩
 ·obtain ⟨q, m, c2, h1, h2⟩ := S.f1 h
  exact ⟨q, m, c2, h1, h2.below hb⟩
 ·obtain ⟨b, h1, h2, h3⟩ := S.f2 h
  exact ⟨b, h1, h2, (hb.block b (Array.getElem?_eq_some_iff.1 h3).1).trans h3⟩
 ·obtain ⟨b, h1, h2, h3⟩ := S.f3 h
  exact ⟨b, h1, h2, (hb.block b (Array.getElem?_eq_some_iff.1 h3).1).trans h3⟩
 ·obtain ⟨h0, kb, h1, h2, h3⟩ := S.f7 h
  exact ⟨h0, kb, h1, h2, (hb.block kb (Array.getElem?_eq_some_iff.1 h3).1).trans h3⟩
abbrev pl (i : Nat) (l : Nat → Bool) : Nat → Bool := fun j => decide (j = i) || l j
theorem NCS.s0 (S : NCS V fv C ar l v3 v6 v7 v8 v9 v10 v11 v12 v13 w) : NCS V fv C ar (pl 0 l) v3 fv v7 v8 v9 v10 v11 v12 v13 w :=
 ⟨S.low, fun _ => rfl, by simpa using S.f1, by simpa using S.f2, by simpa using S.f3, by simpa using S.f23, by simpa using S.f4, by simpa using S.f5, by simpa using S.f6, by simpa using S.f7, by simpa using S.f8⟩
theorem NCS.s4 (S : NCS V fv C ar l v3 v6 v7 v8 v9 v10 v11 v12 v13 w) : NCS V fv C ar (pl 4 l) v3 v6 v7 v8 v9 fv v11 v12 v13 w :=
 ⟨S.low, by simpa using S.f0, by simpa using S.f1, by simpa using S.f2, by simpa using S.f3, by simpa using S.f23, fun _ => rfl, by simpa using S.f5, by simpa using S.f6, by simpa using S.f7, by simpa using S.f8⟩
theorem NCS.s1 (S : NCS V fv C ar l v3 v6 v7 v8 v9 v10 v11 v12 v13 w) (hn : l 1 = false) (q : Option Addr) (m c2 : Nat) (hb : Below w.heap.size w w') (ho : OwnI w' w.heap.size 3 q m c2 C) : NCS V fv C ar (pl 1 l) v3 v6 (.slice q m c2) v8 v9 v10 v11 v12 v13 w' := by
 have S' := S.below hb
 have h6 : l 6 = false := by
  cases h : l 6 with
  | false => rfl
  | true => have := (S.f6 h).2.1; rw [hn] at this; cases this
 have h7 : l 7 = false := by
  cases h : l 7 with
  | false => rfl
  | true => have := (S.f7 h).1; rw [h6] at this; cases this
 exact ⟨S'.low, by simpa using S'.f0, fun _ => ⟨q, m, c2, rfl, ho.mono S.low.size⟩, by simpa using S'.f2, by simpa using S'.f3, by simpa using S'.f23, by simpa using S'.f4, by simpa using S'.f5, fun h => by simp [h6] at h, fun h => by simp [h7] at h, by simpa using S'.f8⟩
theorem NCS.s5 (S : NCS V fv C ar l v3 v6 v7 v8 v9 v10 v11 v12 v13 w) (hn : l 5 = false) (hb : Below w.heap.size w w') : NCS V fv C ar (pl 5 l) v3 v6 v7 v8 v9 v10 (.int .i64 ar) v12 v13 w' := by
 have S' := S.below hb
 have h6 : l 6 = false := by
  cases h : l 6 with
  | false => rfl
  | true => have := (S.f6 h).2.2.2.2; rw [hn] at this; cases this
 have h7 : l 7 = false := by
  cases h : l 7 with
  | false => rfl
  | true => have := (S.f7 h).1; rw [h6] at this; cases this
 exact ⟨S'.low, by simpa using S'.f0, by simpa using S'.f1, by simpa using S'.f2, by simpa using S'.f3, by simpa using S'.f23, by simpa using S'.f4, fun _ => rfl, fun h => by simp [h6] at h, fun h => by simp [h7] at h, by simpa using S'.f8⟩
theorem NCS.s2 (S : NCS V fv C ar l v3 v6 v7 v8 v9 v10 v11 v12 v13 w) (hn : l 2 = false) : NCS V fv C ar (pl 2 l) v3 v6 v7 (.map (some w.heap.size)) v9 v10 v11 v12 v13 (w.alloc (.map #[] 0)) := by
 have S' := S.below (new_lowK w (.map #[] 0))
 have h6 : l 6 = false := by
  cases h : l 6 with
  | false => rfl
  | true => have := (S.f6 h).2.2.1; rw [hn] at this; cases this
 have h7 : l 7 = false := by
  cases h : l 7 with
  | false => rfl
  | true => have := (S.f7 h).1; rw [h6] at this; cases this
 refine ⟨S'.low, by simpa using S'.f0, by simpa using S'.f1, fun _ => ⟨_, rfl, S.low.size, heap_alloc_new w _⟩, by simpa using S'.f3, fun _ h => ?_, by simpa using S'.f4, by simpa using S'.f5, fun h => by simp [h6] at h, fun h => by simp [h7] at h, by simpa using S'.f8⟩; obtain ⟨b, h1, h2, h3⟩ := S.f3 (by simpa using h); rw [h1]
 intro e
 injection e with e
 injection e with e
 have := (Array.getElem?_eq_some_iff.1 h3).1
 omega
theorem NCS.s3 (S : NCS V fv C ar l v3 v6 v7 v8 v9 v10 v11 v12 v13 w) (hn : l 3 = false) : NCS V fv C ar (pl 3 l) v3 v6 v7 v8 (.map (some w.heap.size)) v10 v11 v12 v13 (w.alloc (.map #[] 0)) := by
 have S' := S.below (new_lowK w (.map #[] 0))
 have h6 : l 6 = false := by
  cases h : l 6 with
  | false => rfl
  | true => have := (S.f6 h).2.2.2.1; rw [hn] at this; cases this
 have h7 : l 7 = false := by
  cases h : l 7 with
  | false => rfl
  | true => have := (S.f7 h).1; rw [h6] at this; cases this
 refine ⟨S'.low, by simpa using S'.f0, by simpa using S'.f1, by simpa using S'.f2, fun _ => ⟨_, rfl, S.low.size, heap_alloc_new w _⟩, fun h _ => ?_, by simpa using S'.f4, by simpa using S'.f5, fun h => by simp [h6] at h, fun h => by simp [h7] at h, by simpa using S'.f8⟩; obtain ⟨b, h1, h2, h3⟩ := S.f2 (by simpa using h); rw [h1]
 intro e
 injection e with e
 injection e with e
 have := (Array.getElem?_eq_some_iff.1 h3).1
 omega
theorem NCS.s6 (S : NCS V fv C ar l v3 v6 v7 v8 v9 v10 v11 v12 v13 w) (h1 : l 1 = true) (h2 : l 2 = true) (h3 : l 3 = true) (h5 : l 5 = true) : NCS V fv C ar (pl 6 l) v3 v6 v7 v8 v9 v10 v11 (.agg #[.slice none 0 0, v7, v8, v9, v11]) v13 w :=
 ⟨S.low, by simpa using S.f0, by simpa using S.f1, by simpa using S.f2, by simpa using S.f3, by simpa using S.f23, by simpa using S.f4, by simpa using S.f5, fun _ => ⟨rfl, by simp [h1], by simp [h2], by simp [h3], by simp [h5]⟩, fun h => ⟨by simp, (S.f7 (by simpa using h)).2⟩, by simpa using S.f8⟩
theorem NCS.s7 (S : NCS V fv C ar l v3 v6 v7 v8 v9 v10 v11 v12 v13 w) (hn : l 7 = false) (h6 : l 6 = true) : NCS V fv C ar (pl 7 l) v3 v6 v7 v8 v9 v10 v11 v12 (ptrK w.heap.size) (w.alloc (.cells #[.slice none 0 0, v7, v8, v9, v11] 115)) := by
 have S' := S.below (new_lowK w (.cells #[.slice none 0 0, v7, v8, v9, v11] 115)); refine ⟨S'.low, by simpa using S'.f0, by simpa using S'.f1, by simpa using S'.f2, by simpa using S'.f3, by simpa using S'.f23, by simpa using S'.f4, by simpa using S'.f5, by simpa using S'.f6, fun _ => ⟨by simp [h6], _, rfl, S.low.size, heap_alloc_new w _⟩, fun h => ?_⟩; have := (S.f8 (by simpa using h)).1
 rw [hn] at this; cases this
theorem NCS.s8 (S : NCS V fv C ar l v3 v6 v7 v8 v9 v10 v11 v12 v13 w) (h7 : l 7 = true) : NCS V fv C ar (pl 8 l) v13 v6 v7 v8 v9 v10 v11 v12 v13 w :=
 ⟨S.low, by simpa using S.f0, by simpa using S.f1, by simpa using S.f2, by simpa using S.f3, by simpa using S.f23, by simpa using S.f4, by simpa using S.f5, by simpa using S.f6, by simpa using S.f7, fun _ => ⟨by simp [h7], rfl⟩⟩
end
def NCI (V : World) (fv : Value) (fb : Nat) (C : List Int) (ar : Int) (L : Array Bool) (a : Act) (w : World) : Prop := L.size = 9 ∧ ∃ v3 v6 v7 v8 v9 v10 v11 v12 v13, a = ncA fv fb v3 v6 v7 v8 v9 v10 v11 v12 v13 ∧ NCS V fv C ar (fun i => L.getD i false) v3 v6 v7 v8 v9 v10 v11 v12 v13 w
theorem nci_set {V w : World} {fv : Value} {fb : Nat} {C : List Int} {ar : Int} {L : Array Bool} {a : Act} {i : Nat} {v3 v6 v7 v8 v9 v10 v11 v12 v13 : Value} (hs : L.size = 9) (hi : i < 9) (ha : a = ncA fv fb v3 v6 v7 v8 v9 v10 v11 v12 v13) (S : NCS V fv C ar (pl i (fun j => L.getD j false)) v3 v6 v7 v8 v9 v10 v11 v12 v13 w) : NCI V fv fb C ar (L.setIfInBounds i true) a w := by
 refine ⟨by simpa using hs, _, _, _, _, _, _, _, _, _, ha, ?_⟩
 have e : (fun j => (L.setIfInBounds i true).getD j false) = pl i (fun j => L.getD j false) := funext fun j => lset (by omega) j
 rw [e]; exact S
set_option maxHeartbeats 4000000 in
theorem nc_step {Q : Exit → Act → World → Prop} (V : World) (ht : TypeId) (hx : Value) (p : Option Addr) (n cp fb : Nat) (C : List Int) (ar : Int) (b0 : V.cell? ⟨fb, 0, none⟩ = some (.iface ht hx)) (b1 : V.cell? ⟨fb, 1, none⟩ = some (.slice p n cp))
  (HCL : ∀ W, Below V.heap.size V W → Calls Tryz.prog 170 #[fcV ht hx p n cp] W fun e w' => ∃ q m c2, e = .returned (.slice q m c2) ∧ OwnI w' W.heap.size 3 q m c2 C ∧ Below W.heap.size W w')
  (HGR : ∀ W, Below V.heap.size V W → Calls Tryz.prog 171 #[fcV ht hx p n cp] W fun e w' => e = .returned (.int .i64 ar) ∧ Below W.heap.size W w')
  (L : Array Bool) (a : Act) (w : World) (I : NCI V (fcV ht hx p n cp) fb C ar L a w) (i : Nat) (hi : i ∈ Region.ready .any ncOps L) : wpOp Tryz.prog ncOps Q i (fun a' w' => NCI V (fcV ht hx p n cp) fb C ar (L.setIfInBounds i true) a' w') a w := by
 obtain ⟨hLs, v3, v6, v7, v8, v9, v10, v11, v12, v13, rfl, S⟩ := I; obtain ⟨o, ho, hn, haft⟩ := mem_ready.1 hi
 have hi9 : i < 9 := by
  rw [← nc_size]; exact (Array.getElem?_eq_some_iff.1 ho).1
 have hnf : L.getD i false = false := getD_false hn; have c0 := (S.low.cell (World.block_lt_of_cell? _ _ b0)).trans b0; have c1 := (S.low.cell (World.block_lt_of_cell? _ _ b1)).trans b1
 have hcase : i = 0 ∨ i = 1 ∨ i = 2 ∨ i = 3 ∨ i = 4 ∨ i = 5 ∨ i = 6 ∨ i = 7 ∨ i = 8 := by omega
 rcases hcase with rfl | rfl | rfl | rfl | rfl | rfl | rfl | rfl | rfl
 ·obtain ⟨o', ho', hg, hd, hop⟩ := nop0
  obtain rfl := Option.some.inj (ho.symm.trans ho'); refine op_value (v := fcV ht hx p n cp) (w' := w) ho hg (by simp [execOp, hop, go_sem, Act.eval, ncA, c0, c1]) ?_; rw [hd]; exact nci_set hLs (by omega) rfl S.s0
 ·obtain ⟨o', ho', hg, hd, hop, hall⟩ := nop1
  obtain rfl := Option.some.inj (ho.symm.trans ho'); have d0 : L.getD 0 false = true := dep_of (List.all_eq_true.1 hall 0 (by simp)) haft; have e6 := S.f0 d0; subst e6; refine opCall (f := 170) (args := #[fcV ht hx p n cp]) (some 7) (by rw [ho]; simp [hd]) (by rw [ho]; simp [Region.wanted, hg]) (fun o2 ho2 => ?_) (HCL w S.low) ?_ (fun ch w' hh => by obtain ⟨_, _, _, h, _⟩ := hh; cases h) (fun w' hh => by obtain ⟨_, _, _, h, _⟩ := hh; cases h)
  ·obtain rfl := Option.some.inj (ho.symm.trans ho2)
   simp [execOp, hop, go_sem, Act.eval, ncA]
  ·rintro u w' ⟨q, m, c2, eq, ho3, hb⟩
   cases eq
   exact nci_set hLs (by omega) rfl (S.s1 hnf q m c2 hb ho3)
 ·obtain ⟨o', ho', hg, hd, hop⟩ := nop2
  obtain rfl := Option.some.inj (ho.symm.trans ho'); refine op_value (v := .map (some w.heap.size)) (w' := w.alloc (.map #[] 0)) ho hg (by simp [execOp, hop, go_sem, run_makeMap, Result.andThen]) ?_; rw [hd]; exact nci_set hLs (by omega) rfl (S.s2 hnf)
 ·obtain ⟨o', ho', hg, hd, hop⟩ := nop3
  obtain rfl := Option.some.inj (ho.symm.trans ho'); refine op_value (v := .map (some w.heap.size)) (w' := w.alloc (.map #[] 0)) ho hg (by simp [execOp, hop, go_sem, run_makeMap, Result.andThen]) ?_; rw [hd]; exact nci_set hLs (by omega) rfl (S.s3 hnf)
 ·obtain ⟨o', ho', hg, hd, hop⟩ := nop4
  obtain rfl := Option.some.inj (ho.symm.trans ho'); refine op_value (v := fcV ht hx p n cp) (w' := w) ho hg (by simp [execOp, hop, go_sem, Act.eval, ncA, c0, c1]) ?_; rw [hd]; exact nci_set hLs (by omega) rfl S.s4
 ·obtain ⟨o', ho', hg, hd, hop, hall⟩ := nop5
  obtain rfl := Option.some.inj (ho.symm.trans ho'); have d4 : L.getD 4 false = true := dep_of (List.all_eq_true.1 hall 4 (by simp)) haft; have e10 := S.f4 d4; subst e10; refine opCall (f := 171) (args := #[fcV ht hx p n cp]) (some 11) (by rw [ho]; simp [hd]) (by rw [ho]; simp [Region.wanted, hg]) (fun o2 ho2 => ?_) (HGR w S.low) ?_ (fun ch w' hh => by obtain ⟨h, _⟩ := hh; cases h) (fun w' hh => by obtain ⟨h, _⟩ := hh; cases h)
  ·obtain rfl := Option.some.inj (ho.symm.trans ho2)
   simp [execOp, hop, go_sem, Act.eval, ncA]
  ·rintro u w' ⟨eq, hb⟩
   cases eq
   exact nci_set hLs (by omega) rfl (S.s5 hnf hb)
 ·obtain ⟨o', ho', hg, hd, hop, hall⟩ := nop6
  obtain rfl := Option.some.inj (ho.symm.trans ho'); have d1 : L.getD 1 false = true := dep_of (List.all_eq_true.1 hall 1 (by simp)) haft; have d2 : L.getD 2 false = true := dep_of (List.all_eq_true.1 hall 2 (by simp)) haft; have d3 : L.getD 3 false = true := dep_of (List.all_eq_true.1 hall 3 (by simp)) haft; have d5 : L.getD 5 false = true := dep_of (List.all_eq_true.1 hall 5 (by simp)) haft; obtain ⟨q, m, c2, e7, _⟩ := S.f1 d1; obtain ⟨b2, e8, _⟩ := S.f2 d2; obtain ⟨b3, e9, _⟩ := S.f3 d3; have e11 := S.f5 d5; have S6 := S.s6 d1 d2 d3 d5; subst e7 e8 e9 e11; refine op_value (v := .agg #[.slice none 0 0, .slice q m c2, .map (some b2), .map (some b3), .int .i64 ar]) (w' := w) ho hg (by simp [execOp, hop, go_sem, Act.eval, ncA]) ?_; rw [hd]; exact nci_set hLs (by omega) rfl S6
 ·obtain ⟨o', ho', hg, hd, hop, hall⟩ := nop7
  obtain rfl := Option.some.inj (ho.symm.trans ho'); have d6 : L.getD 6 false = true := dep_of (List.all_eq_true.1 hall 6 (by simp)) haft; obtain ⟨e12, d1, d2, d3, d5⟩ := S.f6 d6; have S7 := S.s7 hnf d6; obtain ⟨q, m, c2, e7, _⟩ := S.f1 d1; obtain ⟨b2, e8, _⟩ := S.f2 d2; obtain ⟨b3, e9, _⟩ := S.f3 d3; have e11 := S.f5 d5; subst e12; subst e7 e8 e9 e11; refine op_value (v := ptrK w.heap.size) (w' := w.alloc (.cells #[.slice none 0 0, .slice q m c2, .map (some b2), .map (some b3), .int .i64 ar] 115)) ho hg (by simp [execOp, hop, go_sem, Act.eval, ncA]) ?_; rw [hd]; exact nci_set hLs (by omega) rfl S7
 ·obtain ⟨o', ho', hg, hd, hop, hall⟩ := nop8
  obtain rfl := Option.some.inj (ho.symm.trans ho'); have d7 : L.getD 7 false = true := dep_of (List.all_eq_true.1 hall 7 (by simp)) haft; have S8 := S.s8 d7; obtain ⟨_, kb, e13, _⟩ := S.f7 d7; subst e13; refine op_value (v := ptrK kb) (w' := w) ho hg (by simp [execOp, hop, go_sem, Act.eval, ncA]) ?_; rw [hd]; exact nci_set hLs (by omega) rfl S8
theorem nc_region {Q : Exit → Act → World → Prop} (V : World) (ht : TypeId) (hx : Value) (p : Option Addr) (n cp fb : Nat) (C : List Int) (ar : Int) (b0 : V.cell? ⟨fb, 0, none⟩ = some (.iface ht hx)) (b1 : V.cell? ⟨fb, 1, none⟩ = some (.slice p n cp))
  (HCL : ∀ W, Below V.heap.size V W → Calls Tryz.prog 170 #[fcV ht hx p n cp] W fun e w' => ∃ q m c2, e = .returned (.slice q m c2) ∧ OwnI w' W.heap.size 3 q m c2 C ∧ Below W.heap.size W w')
  (HGR : ∀ W, Below V.heap.size V W → Calls Tryz.prog 171 #[fcV ht hx p n cp] W fun e w' => e = .returned (.int .i64 ar) ∧ Below W.heap.size W w')
  (h : ∀ (w : World) (q : Option Addr) (m c2 pb rb kb : Nat), Below V.heap.size V w → OwnI w V.heap.size 3 q m c2 C → V.heap.size ≤ pb → w.heap[pb]? = some (.map #[] 0) → V.heap.size ≤ rb → w.heap[rb]? = some (.map #[] 0) → pb ≠ rb → V.heap.size ≤ kb → w.heap[kb]? = some (.cells #[.slice none 0 0, .slice q m c2, .map (some pb), .map (some rb), .int .i64 ar] 115 (0, 0)) →
    Q .normal (ncA (fcV ht hx p n cp) fb (ptrK kb) (fcV ht hx p n cp) (.slice q m c2) (.map (some pb)) (.map (some rb)) (fcV ht hx p n cp) (.int .i64 ar) (.agg #[.slice none 0 0, .slice q m c2, .map (some pb), .map (some rb), .int .i64 ar]) (ptrK kb)) w) :
  wpAny Tryz.prog .any ncOps Q 9 (Array.replicate 9 false) (ncA (fcV ht hx p n cp) fb undef undef undef undef undef undef undef undef undef) V := by
 refine wpAny_inv (NCI V (fcV ht hx p n cp) fb C ar) (nc_step V ht hx p n cp fb C ar b0 b1 HCL HGR) ?_ 9 _ _ _ ⟨rfl, _, _, _, _, _, _, _, _, _, rfl, ?_⟩ (by decide)
 ·intro L a w ⟨hLs, v3, v6, v7, v8, v9, v10, v11, v12, v13, ea, S⟩ hr
  have hall : ∀ k, k < 9 → L.getD k false = true := fun k hk => by
   cases hb : L.getD k true with
   | false =>
     obtain ⟨i, hi⟩ := ready_some nlast (by rw [hLs, nc_size]) k (by rw [nc_size]; exact hk) hb
     rw [hr] at hi; cases hi
   | true => rw [← getD_two (by omega)]; exact hb
  obtain ⟨_, e3⟩ := S.f8 (hall 8 (by omega)); have e6 := S.f0 (hall 0 (by omega)); obtain ⟨q, m, c2, e7, ho⟩ := S.f1 (hall 1 (by omega)); obtain ⟨pb, e8, hp1, hp2⟩ := S.f2 (hall 2 (by omega)); obtain ⟨rb, e9, hr1, hr2⟩ := S.f3 (hall 3 (by omega)); have hne := S.f23 (hall 2 (by omega)) (hall 3 (by omega)); have e10 := S.f4 (hall 4 (by omega)); have e11 := S.f5 (hall 5 (by omega)); have e12 := (S.f6 (hall 6 (by omega))).1; obtain ⟨_, kb, e13, hk1, hk2⟩ := S.f7 (hall 7 (by omega)); subst e12; subst e3 e6 e7 e8 e9 e10 e11; subst e13; rw [ea]; exact h w q m c2 pb rb kb S.low ho hp1 hp2 hr1 hr2 (fun e => hne (by rw [e])) hk1 hk2
 ·have hz : ∀ k, (Array.replicate 9 false).getD k false = true → False := fun k h => by
   by_cases hk : k < 9 <;> simp [hk] at h
  exact ⟨Below.refl _ _, fun h => (hz _ h).elim, fun h => (hz _ h).elim, fun h => (hz _ h).elim, fun h => (hz _ h).elim, fun h => (hz _ h).elim, fun h => (hz _ h).elim, fun h => (hz _ h).elim, fun h => (hz _ h).elim, fun h => (hz _ h).elim, fun h => (hz _ h).elim⟩
def prmJ (C : List Int) (j : Nat) : List Int := ((List.range j).filter fun v => decide (C.getD v 0 = 2)).map fun v : Nat => (v : Int)
theorem prmJ_all (C : List Int) : prmJ C C.length = prmL C := rfl
theorem prmJ_skip {C : List Int} {j : Nat} (h : ¬ C.getD j 0 = 2) : prmJ C (j + 1) = prmJ C j := by
 unfold prmJ
 rw [List.range_succ, List.filter_append, List.filter_cons, if_neg (by simpa using h)]
 simp
theorem prmJ_put {C : List Int} {j : Nat} (h : C.getD j 0 = 2) : putV (prmJ C j) j = prmJ C (j + 1) := by
 have hn : (j : Int) ∉ prmJ C j := fun hm => by
  obtain ⟨u, hu, e⟩ := List.mem_map.1 hm; have := List.mem_range.1 (List.mem_filter.1 hu).1
  omega
 unfold putV
 rw [if_neg hn]
 unfold prmJ
 have hd : decide (C.getD j 0 = 2) = true := decide_eq_true h; rw [List.range_succ, List.filter_append, List.filter_cons, if_pos hd]
 simp
theorem prmJ_len (C : List Int) (j : Nat) : (prmJ C j).length ≤ j := by
 unfold prmJ
 rw [List.length_map]; have := List.length_filter_le (fun v => decide (C.getD v 0 = 2)) (List.range j)
 simpa using this
theorem ownsMap_empty {w : World} {b : Nat} (h : w.heap[b]? = some (.map #[] 0)) (k : TypeId) (R : Value → Option (DataW Unit × List MemPlace)) : w.ownsMap Tryz.prog k R b 0 (.map []) := ⟨#[], 0, h, (by obtain ⟨es, clock, h1, F, _⟩ := World.ownsMap_made w Tryz.prog k R; rw [heap_alloc_new w] at h1; cases h1; exact F), Nat.le_refl _, rfl⟩
theorem NumMap.empty {w : World} {b : Nat} (h : w.heap[b]? = some (.map #[] 0)) : NumMap w b [] := ⟨_, ownsMap_empty h _ _, rfl, fun x => rfl, fun x hx => by cases hx⟩
theorem RegMap.empty {w : World} {b : Nat} (h : w.heap[b]? = some (.map #[] 0)) (n : Nat) (hn : n ≤ 3000) : RegMap w b (List.replicate n none) := by
 refine ⟨_, 0, ownsMap_empty h _ _, ?_, fun v => by rw [getD_replN]; rfl, fun v r h => by rw [getD_replN] at h; cases h⟩; have := List.countP_le_length (p := fun o : Option Int => o.isNone) (l := List.replicate n none); rw [List.length_replicate] at this
 omega
structure NC (w : World) (q : Option Addr) (m c2 pb rb kb : Nat) (C : List Int) (ar : Int) (ks : List Int) (wr : World) : Prop where
 low : Below w.heap.size w wr
 k : wr.heap[kb]? = some (.cells #[.slice none 0 0, .slice q m c2, .map (some pb), .map (some rb), .int .i64 ar] 115 (0, 0))
 cl : OwnI wr w.heap.size 3 q m c2 C
 pm : NumMap wr pb ks
 rm : RegMap wr rb (List.replicate C.length none)
 ge : w.heap.size ≤ pb ∧ w.heap.size ≤ rb ∧ w.heap.size ≤ kb
 ne : pb ≠ rb ∧ kb ≠ pb ∧ kb ≠ rb
section
variable {w wr w' : World} {q : Option Addr} {m c2 pb rb kb : Nat} {C : List Int} {ar : Int} {ks ks' : List Int}
theorem map_cells_ne {w : World} {b : Nat} {cs : Array Value} {t : TypeId} {fr : Nat × Nat} {ks : List Int} (h : NumMap w b ks) (hb : w.heap[b]? = some (.cells cs t fr)) : False := by
 obtain ⟨D, ⟨es, clock, h1, _⟩, _⟩ := h
 rw [h1] at hb; cases hb
theorem NC.grow (h : NC w q m c2 pb rb kb C ar ks wr) (hg : wr.grownBy w' (some pb)) (hp : NumMap w' pb ks') : NC w q m c2 pb rb kb C ar ks' w' := by
 have hblk : ∀ k, k < wr.heap.size → k ≠ pb → w'.heap[k]? = wr.heap[k]? := fun k hk hne => hg.block k hk fun e => hne (by injection e)
 refine ⟨⟨hg.os.trans h.low.os, hg.tape.trans h.low.tape, hg.output.trans h.low.output, Nat.le_trans h.low.size hg.size, fun k hk => (hblk k (Nat.lt_of_lt_of_le hk h.low.size) (by have := h.ge.1; omega)).trans (h.low.block k hk)⟩, (hblk kb (Array.getElem?_eq_some_iff.1 h.k).1 h.ne.2.1).trans h.k, ⟨h.cl.1, h.cl.2.1, ?_⟩, hp, h.rm.of_block (hblk rb h.rm.lt (Ne.symm h.ne.1)), h.ge, h.ne⟩
 rcases h.cl.2.2 with h' | ⟨g, cap, cur, hv, hB, hgg, r⟩
 ·exact .inl h'
 ·exact .inr ⟨g, cap, cur, hv, hB, (hblk g (Array.getElem?_eq_some_iff.1 hgg).1 fun e => map_cells_ne h.pm (e ▸ hgg)).trans hgg, r⟩
theorem NC.cls (h : NC w q m c2 pb rb kb C ar ks wr) {j : Nat} (hj : j < m) : ∃ g, q = some ⟨g, 0, none⟩ ∧ wr.cell? ⟨g, j, none⟩ = some (.int .i64 (C.getD j 0)) ∧ m ≤ c2 := by
 have hm := h.cl.1; obtain ⟨g, cap, hv, hb, hg⟩ := h.cl.2.form (by omega); simp only [Value.slice.injEq, true_and] at hv; obtain ⟨rfl, rfl⟩ := hv; refine ⟨g, rfl, ?_, ?_⟩
 ·have := h.cl.2.cellAt j (by omega)
  rw [this, List.getElem?_map, List.getElem?_eq_getElem (by omega)]
  simp [List.getD_eq_getElem?_getD, List.getElem?_eq_getElem (show j < C.length by omega)]
 ·rcases h.cl.2.2 with ⟨hv, _⟩ | ⟨g', cap', cur, hv, _, _, _, hle', _⟩
  ·simp at hv
  ·simp only [Value.slice.injEq, true_and] at hv
   omega
theorem NC.done (h : NC w q m c2 pb rb kb C ar (prmL C) wr) (nx : Nat) (har : ar = nx) (hlen : C.length ≤ 2000) (h3 : ∀ v, C.getD v 0 = 0 ∨ C.getD v 0 = 1 ∨ C.getD v 0 = 2) : CEnv wr kb pb rb q c2 C ∧ PK [] wr kb pb rb q c2 C ⟨[], List.replicate C.length none, nx⟩ wr := by
 have hm := h.cl.1; have hk := (Array.getElem?_eq_some_iff.1 h.k).1
 have hc : ∀ j v, (#[Value.slice none 0 0, .slice q m c2, .map (some pb), .map (some rb), .int .i64 ar])[j]? = some v → wr.cell? ⟨kb, j, none⟩ = some v := fun j v hv => by rw [cell_block h.k]; exact hv
 have hcap : C.length ≤ c2 := by
  rcases Nat.eq_zero_or_pos C.length with h0 | h0
  ·omega
  ·have := (h.cls (j := 0) (by omega)).choose_spec.2.2
   omega
 have hlt : ∀ b ∈ [kb, pb, rb], b < wr.heap.size := fun b hb => by
  simp at hb
  rcases hb with rfl | rfl | rfl
  ·exact hk
  ·exact h.pm.lt
  ·exact h.rm.lt
 refine ⟨⟨⟨hk, h.pm.lt, h.rm.lt⟩, ⟨h.ne.2.1, h.ne.2.2, h.ne.1⟩, hlen, h3, hcap, fun h0 => ?_⟩, StyX.refl _ _, ⟨none, 0, 0, hc 0 _ rfl, OwnIv.nil _ _ _⟩, by rw [← hm]; exact hc 1 _ rfl, hc 2 _ rfl, hc 3 _ rfl, by rw [hc 4 _ rfl, ← har]; rfl, fun o => frozen_block h.k o, h.pm, h.rm, by simp, ?_, hlt, fun z hz => by cases hz⟩
 ·obtain ⟨g, eg, _, _⟩ := h.cls (j := 0) (by omega)
  refine ⟨g, 0, eg, fun hmem => ?_, fun v hv => ?_⟩
  ·obtain ⟨g', cap, hv, hb, hg⟩ := h.cl.2.form (by omega)
   rcases h.cl.2.2 with ⟨hv2, _⟩ | ⟨g2, cap2, cur, hv2, _, hgg, _⟩
   ·rw [eg] at hv2; simp at hv2
   ·have e2 : g2 = g := by
     rw [eg] at hv2; simp only [Value.slice.injEq, Option.some.injEq, Addr.mk.injEq] at hv2; exact hv2.1.1.symm
    rw [e2] at hgg
    simp at hmem
    rcases hmem with rfl | rfl | rfl
    ·rw [h.k] at hgg; cases hgg
    ·exact map_cells_ne h.pm hgg
    ·obtain ⟨D, n, ⟨es, clock, h1, _⟩, _⟩ := h.rm
     rw [h1] at hgg; cases hgg
  ·obtain ⟨g3, e3, c3, _⟩ := h.cls (j := v) (by omega)
   rw [eg] at e3
   obtain rfl : g = g3 := by simpa using e3
   rw [Nat.zero_add]; exact c3
 ·intro v x hx
  rw [getD_replN] at hx; cases hx
end
section
variable {W0 w : World}
def NcOut (C : List Int) (nx : Nat) (w : World) (e : Ending) (w' : World) : Prop := ∃ kb pb rb q c2, e = .returned (ptrK kb) ∧ Below w.heap.size w w' ∧ CEnv w' kb pb rb q c2 C ∧ PK [] w' kb pb rb q c2 C ⟨[], List.replicate C.length none, nx⟩ w' ∧ ∀ x ∈ [kb, pb, rb], w.heap.size ≤ x
set_option maxHeartbeats 4000000 in
theorem newComp_any (ht : TypeId) (hx : Value) (p : Option Addr) (n cp : Nat) (C : List Int) (nx : Nat) (hnx : nx ≤ 2000) (hlen : C.length ≤ 2000) (h3 : ∀ v, C.getD v 0 = 0 ∨ C.getD v 0 = 1 ∨ C.getD v 0 = 2)
  (HCL : ∀ W, Below w.heap.size w W → Calls Tryz.prog 170 #[fcV ht hx p n cp] W fun e w' => ∃ q m c2, e = .returned (.slice q m c2) ∧ OwnI w' W.heap.size 3 q m c2 C ∧ Below W.heap.size W w')
  (HGR : ∀ W, Below w.heap.size w W → Calls Tryz.prog 171 #[fcV ht hx p n cp] W fun e w' => e = .returned (.int .i64 nx) ∧ Below W.heap.size W w') :
  Calls Tryz.prog 103 #[fcV ht hx p n cp] w (NcOut C nx w) := by
 obtain ⟨V, eV⟩ : ∃ V, V = (w.alloc (.cells #[.iface ht hx, .slice p n cp] 59)).drew := ⟨_, rfl⟩
 have hV : Below w.heap.size w V := by rw [eV]; exact below_drewK (new_lowK w _)
 have hbV : V.heap[w.heap.size]? = some (.cells #[.iface ht hx, .slice p n cp] 59 (0, 0)) := by rw [eV]; exact heap_alloc_new w _
 have b0 : V.cell? ⟨w.heap.size, 0, none⟩ = some (.iface ht hx) := by rw [cell_block hbV]; rfl
 have b1 : V.cell? ⟨w.heap.size, 1, none⟩ = some (.slice p n cp) := by rw [cell_block hbV]; rfl
 have HCV : Hid (∀ W, Below V.heap.size V W → Calls Tryz.prog 170 #[fcV ht hx p n cp] W fun e w' => ∃ q m c2, e = .returned (.slice q m c2) ∧ OwnI w' W.heap.size 3 q m c2 C ∧ Below W.heap.size W w') := fun W hW => HCL W (Below.on hV hW)
 have HGV : Hid (∀ W, Below V.heap.size V W → Calls Tryz.prog 171 #[fcV ht hx p n cp] W fun e w' => e = .returned (.int .i64 nx) ∧ Below W.heap.size W w') := fun W hW => HGR W (Below.on hV hW)
 have HV : Hid (V = (w.alloc (.cells #[.iface ht hx, .slice p n cp] 59)).drew ∧ Below w.heap.size w V) := ⟨eV, hV⟩
 have HL : Hid (C.length ≤ 2000 ∧ ∀ v, C.getD v 0 = 0 ∨ C.getD v 0 = 1 ∨ C.getD v 0 = 2) := ⟨hlen, h3⟩
 clear HCL HGR hV eV hbV hlen h3
 go_enter Tryz.func103, Tryz.ntmps103
 go_wp2_with fail; refine wp_region_any (by kernel_rfl) ?_
 change wpAny Tryz.prog .any ncOps _ 9 (Array.replicate 9 false) (ncA (fcV ht hx p n cp) w.heap.size undef undef undef undef undef undef undef undef undef) (w.alloc (.cells #[.iface ht hx, .slice p n cp] 59)).drew
 rw [← HV.out.1]; refine nc_region V ht hx p n cp w.heap.size C nx b0 b1 HCV.out HGV.out ?_
 intro w2 q m c2 pb rb kb k1 k2 k3 k4 k5 k6 k7 k8 k9
 have HN0 : Hid (NC w q m c2 pb rb kb C nx (prmJ C 0) w2) := by
  exact ⟨Below.on HV.out.2 k1, k9, k2.mono HV.out.2.size, NumMap.empty k4, RegMap.empty k6 C.length (by have := HL.out.1; omega), ⟨Nat.le_trans HV.out.2.size k3, Nat.le_trans HV.out.2.size k5, Nat.le_trans HV.out.2.size k8⟩, ⟨k7, fun e => (by rw [e, k4] at k9; cases k9), fun e => (by rw [e, k6] at k9; cases k9)⟩⟩
 have HM : Hid (m = C.length) := k2.1
 have hml : m ≤ 2000 := by have := k2.1; have := HL.out.1; omega
 have d1 : w2.cell? ⟨kb, 1, none⟩ = some (.slice q m c2) := by rw [cell_block k9]; rfl
 clear k1 k2 k3 k4 k5 k6 k7 k8 k9 b0 b1 HCV HGV HV
 unfold ncA
 go_wp2_with fail
 go_loopw [19] (fun iv wr => ∃ (j : Nat), j ≤ m ∧ iv = .int .i64 j ∧ Hid (NC w q m c2 pb rb kb C nx (prmJ C j) wr)) (fun iv _ => m - (intOf iv).toNat)
 case atStart => exact ⟨0, Nat.zero_le _, by go_num, HN0.out⟩
 case round =>
  obtain ⟨j, hjm, rfl, HI⟩ := hrel; clear HN0 d1
  by_cases hj : j < m
  ·obtain ⟨g, eg, d0, hmc⟩ := HI.out.cls hj
   subst eg
   by_cases h2 : C.getD j 0 = 2
   ·rw [h2] at d0
    have d2 : wr.cell? ⟨kb, 2, none⟩ = some (.map (some pb)) := by rw [cell_block HI.out.k]; rfl
    have HO := of_any pb (prmJ C j) j wr (by omega) (by omega) (by have := prmJ_len C j; omega) HI.out.pm
    have HN : Hid (∀ W, NumMap W pb (putV (prmJ C j) j) → wr.grownBy W (some pb) → NC w (some ⟨g, 0, none⟩) m c2 pb rb kb C nx (prmJ C (j + 1)) W) := fun W h4 h5 => by
     rw [prmJ_put h2] at h4; exact HI.out.grow h5 h4
    clear HI h2; go_wp2_with fail; refine HO.mono ?_; rintro e W ⟨rfl, h4, h5⟩; have HN2 : Hid _ := HN.out W h4 h5; clear HO HN h4 h5 d0 d2; go_wp2_with fail; go_roundw
    case rel => exact ⟨j + 1, by omega, by go_num, HN2.out⟩
    case measure => (simp [intOf] <;> omega)
   ·have HN : Hid (NC w (some ⟨g, 0, none⟩) m c2 pb rb kb C nx (prmJ C (j + 1)) wr) := by rw [prmJ_skip h2]; exact HI.out
    obtain ⟨cv, ecv⟩ : ∃ cv, cv = C.getD j 0 := ⟨_, rfl⟩
    have hcr : 0 ≤ cv ∧ cv ≤ 2 := by rw [ecv]; rcases HL.out.2 j with h | h | h <;> omega
    rw [← ecv] at d0 h2; clear HI ecv; go_wp2_with fail; go_roundw
    case rel => exact ⟨j + 1, by omega, by go_num, HN.out⟩
    case measure => (simp [intOf] <;> omega)
  ·obtain rfl : j = m := by omega
   have HEND : Hid (NcOut C nx w (.returned (ptrK kb)) wr) := by
    have h1 := HI.out; rw [HM.out, prmJ_all, ← HM.out] at h1; obtain ⟨h4, h5⟩ := h1.done nx rfl HL.out.1 HL.out.2; refine ⟨kb, pb, rb, q, c2, rfl, h1.low, h4, h5, fun x hx => ?_⟩
    simp at hx
    rcases hx with rfl | rfl | rfl
    ·exact h1.ge.2.2
    ·exact h1.ge.1
    ·exact h1.ge.2.1
   clear HI; go_wp2_with fail; go_ret; exact HEND.out
end
theorem ownIv_grewZ {Z : List Nat} {w w' : World} {B g n cap cp : Nat} {p : Option Addr} {ts : List Iv} {rs : List R8} (hn : n = ts.length) (hl : rs.length = ts.length) (hr0 : w.ownsRow B 72 8 (.slice p n cp) n (flatI rs))
  (hf : ∀ i, i < ts.length → FitsI w B (rs.getD i R8.zero) (ts.getD i Iv.zero)) (ha : ApartI Z p rs) {x : Iv} {tp : Option Addr} {tn tc : Nat} (hK : x.K = [] ∧ x.L = []) (ht : OwnT w B tp tn tc x.c.2.2) (hz : 0 < tn → ∃ tb ∈ Z, tp = some ⟨tb, 0, none⟩)
  (hr : w'.ownsRow B 72 8 (.slice (some ⟨g, 0, none⟩) (n + 1) cap) (n + 1) (flatI rs ++ riV (hdI x, tp, tn, tc))) (hg : w.grownBy w' (Value.ownBlock (.slice p n cp))) (hat : Value.ownBlock (.slice p n cp) = some g ∨ g = w.heap.size) :
  OwnIv [] w' B (some ⟨g, 0, none⟩) (n + 1) cap (ts ++ [x]) := by
 have hown : ∀ k, Value.ownBlock (.slice p n cp) = some k → p = some ⟨k, 0, none⟩ ∧ k < w.heap.size := fun k hk => by
  rcases hr0.2 with ⟨hv, _⟩ | ⟨g', cap', cur, hv, hb, hg', _⟩
  ·simp only [Value.slice.injEq] at hv; rw [hv.1] at hk; simp [Value.ownBlock] at hk
  ·simp only [Value.slice.injEq] at hv
   rw [hv.1] at hk ⊢
   simp [Value.ownBlock] at hk
   subst hk; exact ⟨rfl, (Array.getElem?_eq_some_iff.1 hg').1⟩
 have hlow : ∀ i, i < ts.length → 0 < (rs.getD i R8.zero).2.2.1 → ∃ k, (rs.getD i R8.zero).2.1 = some ⟨k, 0, none⟩ ∧ k < w.heap.size := fun i hi hp => by
  obtain ⟨k, e, _, hlt, _⟩ := (hf i hi).2.2.2 hp; exact ⟨k, e, hlt⟩
 have htl : 0 < tn → ∃ k, k ∈ Z ∧ tp = some ⟨k, 0, none⟩ ∧ k < w.heap.size := fun hp => by
  obtain ⟨k, e, h1, h2, _⟩ := ht.2 hp; obtain ⟨tb, hm, e2⟩ := hz hp
  rw [e] at e2; cases e2
  exact ⟨k, hm, e, h2⟩
 refine ⟨by simp; omega, rs ++ [(hdI x, tp, tn, tc)], by simp; omega, by rw [flatI_append, flatI_one]; exact hr, fun i hi => ?_, fun i hi hp => ?_, fun i j hi hj hij hpi hpj => ?_, fun z hz => by cases hz⟩
 ·have hi' : i ≤ ts.length := by simp at hi; omega
  rw [r8_append_at _ _ _ (by omega), iv_append_at _ _ _ hi']
  by_cases e : i = ts.length
  ·rw [if_pos (by omega), if_pos e]
   refine ⟨rfl, hK, ht.other hg.size (fun k hn0 e' => ?_)⟩; obtain ⟨k', hm, e'', h2⟩ := htl hn0; have hkk : k = k' := congrArg Addr.block (Option.some.inj (e'.symm.trans e'')); refine hg.block k (by omega) (fun hk => ?_); exact (ha.2.2 k' hm).1 (by rw [(hown k hk.symm).1, hkk])
  ·rw [if_neg (by omega), if_neg e]
   refine ⟨(hf i (by omega)).1, (hf i (by omega)).2.1, (hf i (by omega)).2.2.other hg.size (fun k hn0 e' => ?_)⟩; obtain ⟨k', e'', h1⟩ := hlow i (by omega) hn0; have hkk : k = k' := congrArg Addr.block (Option.some.inj (e'.symm.trans e'')); refine hg.block k (by omega) (fun hk => ?_); exact ha.1 i (by omega) hn0 (by rw [e', (hown k hk.symm).1])
 ·have hi' : i ≤ rs.length := by simp at hi; omega
  rw [r8_append_at _ _ _ hi'] at hp ⊢
  by_cases e : i = rs.length
  ·rw [if_pos e] at hp ⊢
   obtain ⟨k', hm, e'', h2⟩ := htl hp; rw [show ((hdI x, tp, tn, tc) : R8).2.1 = tp from rfl, e'']
   rcases hat with h | h
   ·intro e9
    exact (ha.2.2 k' hm).1 (by rw [(hown g h).1, ← e9])
   ·exact ne_block (by omega) hp
  ·rw [if_neg e] at hp ⊢
   obtain ⟨k', e'', h1⟩ := hlow i (by omega) hp
   rcases hat with h | h
   ·rw [← (hown g h).1]
    exact ha.1 i (by omega) hp
   ·rw [e'']
    exact ne_block (by omega) hp
 ·have hi' : i ≤ rs.length := by simp at hi; omega
  have hj' : j ≤ rs.length := by simp at hj; omega
  rw [r8_append_at _ _ _ hi'] at hpi ⊢; rw [r8_append_at _ _ _ hj'] at hpj ⊢
  by_cases e : i = rs.length
  ·rw [if_pos e] at hpi ⊢
   rw [if_neg (by omega)] at hpj ⊢; obtain ⟨k', hm, e'', h2⟩ := htl hpi; rw [show ((hdI x, tp, tn, tc) : R8).2.1 = tp from rfl, e'']; exact ((ha.2.2 k' hm).2 j (by omega) hpj).symm
  ·rw [if_neg e] at hpi ⊢
   by_cases e' : j = rs.length
   ·rw [if_pos e'] at hpj ⊢
    obtain ⟨k', hm, e'', h2⟩ := htl hpj; rw [show ((hdI x, tp, tn, tc) : R8).2.1 = tp from rfl, e'']; exact (ha.2.2 k' hm).2 i (by omega) hpi
   ·rw [if_neg e'] at hpj ⊢
    exact ha.2.1 i j (by omega) (by omega) hij hpi hpj
theorem app_insZ {Z : List Nat} (w : World) {ops : Array Oper} {rest : List Oper} {o : Oper} {a : Act} {Q : Exit → Act → World → Prop} (hgd : o.guard = none) (s x : Operand)
  (ho : o.op = .call { callee := .builtin .append, args := #[s, x], argTypes := #[24, 24] }) (B : Nat) (p : Option Addr) (n c : Nat) (ts : List Iv)
  (hs : a.eval s = .slice p n c) (hown : OwnIv Z w B p n c ts) (hB : B ≤ w.heap.size) (ad : Addr) (c' : Nat) (hx : a.eval x = .slice (some ad) 1 c') (i : Iv) (tp : Option Addr) (tn tc : Nat) (hK : i.K = [] ∧ i.L = [])
  (ht : OwnT w B tp tn tc i.c.2.2) (hz : 0 < tn → ∃ tb ∈ Z, tp = some ⟨tb, 0, none⟩) (hnews : ∀ j u, (riV (hdI i, tp, tn, tc))[j]? = some u → w.cell? (ad.add j) = some u) (hlen : n + 1 ≤ 1000000000)
  (h : ∀ g n' cap w', OwnIv [] w' B (some ⟨g, 0, none⟩) n' cap (ts ++ [i]) → w.grownBy w' (Value.ownBlock (.slice p n c)) → Hid (n' = n + 1) → wpList Tryz.prog ops Q rest (a.put o.dst (.slice (some ⟨g, 0, none⟩) n' cap)) w') : wpList Tryz.prog ops Q (o :: rest) a w := by
 obtain ⟨i0, hi, hz0, hz1, hz2⟩ := info_parts infoIns8; obtain ⟨hn, rs, hl, hr, hf, ha⟩ := hown; refine wpList_append_lies w hgd s x 24 ho B 72 i0 (.agg #[.int .i64 0, .int .i64 0, .int .i64 0, .int .i64 0, .int .i64 0, .slice none 0 0, .slice none 0 0, .slice none 0 0]) 8 112 Tryz.underlying24 hi hz0 hz1 hz2 rfl (by decide) (.slice p n c) n (flatI rs) hs hr ad 1 c' (riV (hdI i, tp, tn, tc)) hx rfl hnews (riV_one _) (by decide) (by unfold maxLen; omega) (by omega) hB w.heap.size rfl ?_
 intro g cap w' hown' hgrow hat hlt
 exact h g _ cap w' (ownIv_grewZ hn hl hr hf ha hK ht hz hown' hgrow hat) hgrow rfl
section
variable {Z : List Nat} {W0 w1 : World} {kb pb rb : Nat} {pc : Option Addr} {cc : Nat} {C : List Int} {s : KS} {w : World}
set_option maxHeartbeats 1000000 in
theorem emitE_any (E : CEnv w1 kb pb rb pc cc C) (h : PK Z w1 kb pb rb pc cc C s w) (i : Iv) (tp : Option Addr) (tn tc g1 : Nat) (hK : i.K = [] ∧ i.L = []) (ht : OwnT w w1.heap.size tp tn tc i.c.2.2) (hz : 0 < tn → ∃ tb ∈ Z, tp = some ⟨tb, 0, none⟩)
  (hnw : ∀ j u, (riV (hdI i, tp, tn, tc))[j]? = some u → w.cell? ((⟨g1, 0, none⟩ : Addr).add j) = some u) (hn : s.out.length ≤ 900000000) :
  Calls Tryz.prog 105 #[ptrK kb, .slice (some ⟨g1, 0, none⟩) 1 1] w (PEm [] w1 kb pb rb pc cc C w (s.put i)) := by
 obtain ⟨p, n, c, h0, ho⟩ := h.c0; have hnl : n = s.out.length := ho.1; have h' := h.less (Y := []) (fun z hz => by cases hz)
 have HFIN : Hid (∀ g n' cap w', OwnIv [] w' w1.heap.size (some ⟨g, 0, none⟩) n' cap (s.out ++ [i]) → w.grownBy w' (Value.ownBlock (.slice p n c)) → (w'.cell? ⟨kb, 0, none⟩ = some (.slice p n c) ∧ w'.frozen? ⟨kb, 0, none⟩ = false ∧ kb < w'.heap.size) ∧
   PK [] w1 kb pb rb pc cc C (s.put i) (w'.setCell ⟨kb, 0, none⟩ (.slice (some ⟨g, 0, none⟩) n' cap)) ∧ FrP [] [kb, pb, rb] w (w'.setCell ⟨kb, 0, none⟩ (.slice (some ⟨g, 0, none⟩) n' cap))) := fun g n' cap w' ho' hg =>
  h'.put E h0 (ho.less fun z hz => by cases hz) hg ho'
 have HO : Hid (OwnIv Z w w1.heap.size p n c s.out ∧ w1.heap.size ≤ w.heap.size ∧ OwnT w w1.heap.size tp tn tc i.c.2.2 ∧ (0 < tn → ∃ tb ∈ Z, tp = some ⟨tb, 0, none⟩) ∧ (∀ j u, (riV (hdI i, tp, tn, tc))[j]? = some u → w.cell? ((⟨g1, 0, none⟩ : Addr).add j) = some u) ∧ i.K = [] ∧ i.L = []) := ⟨ho, h.sty.size, ht, hz, hnw, hK⟩
 have hn' : n ≤ 900000000 := by omega
 clear ho h h' E hn hnl ht hz hnw hK
 go_enter Tryz.func105, Tryz.ntmps105
 go_wp2_with (at_builtin; refine app_insZ w rfl _ _ rfl w1.heap.size p n c s.out rfl HO.out.1 HO.out.2.1 _ _ rfl i tp tn tc HO.out.2.2.2.2.2 HO.out.2.2.1 HO.out.2.2.2.1 HO.out.2.2.2.2.1 (by omega) ?_; intro g n' cap w' ho' hg hn2; obtain ⟨⟨k1, k2, k3⟩, k4, k5⟩ := HFIN.out g n' cap w' ho' hg; have K4 : Hid _ := k4; have K5 : Hid _ := k5; clear k4 k5 ho' hg); go_ret; exact ⟨⟨_, rfl⟩, K4.out, K5.out⟩
theorem mo_gol1 (C : List Int) (hC : C.length ≤ 2000) (f : Nat) (s : KS) (g : Tr) (l : Bool) : Kmo s (gol1 C f s g l) := by
 have h := mo_alls (golK C f) (mo_gol C hC f) (trs g.2) 0 s
 unfold gol1; split
 ·refine Kmo.trans ?_ (mo_put _ _)
  unfold choK; split
  ·exact Kmo.refl s
  ·exact mo_reg C hC s _
 ·split
  ·exact h.trans (mo_put _ _)
  ·split
   ·exact h
   ·exact h.trans (mo_put _ _)
theorem mo_golsK (C : List Int) (hC : C.length ≤ 2000) (f : Nat) : ∀ (gs : List Tr) (s : KS), Kmo s (golsK C f s gs)
 | [], s => Kmo.refl s
 | g :: gs, s => (mo_gol1 C hC f s g _).trans (mo_golsK C hC f gs _)
theorem up_golsK (C : List Int) (hC : C.length ≤ 2000) (f : Nat) : ∀ (gs : List Tr) (s : KS), Kup (gwK gs) s (golsK C f s gs)
 | [], s => Kup.refl s
 | g :: gs, s => ((up_gol1 C hC f s g _).trans (up_golsK C hC f gs _)).mono (by simp only [gwK]; omega)
theorem spc_kid {t : Tr} (hg : t.fo.ok) (hgd : goodG t = true) (hsp : spcC t.1 = true) : t.1.1 = 3 ∧ ∃ c, trs t.2 = [(c, .nil)] ∧ c.1 = 0 ∧ (kid0 t).1 = c := by
 have hs := hsp
 unfold spcC at hs
 rw [decide_eq_true_eq] at hs; obtain ⟨⟨k1, k2, tx⟩, kt⟩ := t; simp only at hs; obtain ⟨hk1, hk2, htx⟩ := hs; subst hk1 hk2
 have hcnt : kt.count = 1 := by have := hg.2.2.1 rfl; simp only at this; omega
 refine ⟨rfl, ?_⟩
 match kt, hcnt with
 | .node c1 k' .nil, _ =>
   have h0 : c1.1 = 0 := by
    unfold goodG at hgd
    rw [hsp] at hgd; simp only [Bool.and_eq_true, Bool.or_eq_true, Bool.not_true, decide_eq_true_eq] at hgd
    rcases hgd.2.2 with h9 | h9
    ·cases h9
    ·exact h9
   have hk := hg.2.2.2.2.1; have h9 := hk.2.2.2.1 (by rw [h0]; decide); subst h9; exact ⟨c1, rfl, h0, rfl⟩
 | .node c1 k' (.node c2 k2 r), h9 => simp [Fo.count] at h9
theorem goal_parts (E : CEnv w1 kb pb rb pc cc C) (hB : CBase W0 w1 kb pb rb) (t : Tr) (ty : TypeId) (x : Value) (hfo : FoIn W0 0 t.fo [.iface ty x]) (hg : TG C.length t) (hgd : goodG t = true) (l : Bool) (s : KS) (hM : (gol1 C 5000 s t l).out.length ≤ 600000000 ∧ (gol1 C 5000 s t l).nx ≤ 600000000) :
  ∃ sA, Kmo sA (gol1 C 5000 s t l) ∧ (∀ (Z : List Nat) (w : World), PK Z w1 kb pb rb pc cc C s w → Calls Tryz.prog 107 #[ptrK kb, fgV ty x (giO t.1)] w (PUnit' Z w1 kb pb rb pc cc C w sA)) ∧ (giO t.1 = 19 → l = true → gol1 C 5000 s t l = sA) ∧
    (¬ (giO t.1 = 19 ∧ l = true) → ∀ (Z : List Nat) (w : World), PK Z w1 kb pb rb pc cc C sA w → Calls Tryz.prog 110 #[ptrK kb, fgV ty x (giO t.1)] w (PUnit' Z w1 kb pb rb pc cc C w (gol1 C 5000 s t l))) := by
 have hcal : calC t.1 = true := by
  unfold goodG at hgd
  simp only [Bool.and_eq_true] at hgd; exact hgd.1
 have hmo := mo_gol1 C E.len 5000 s t l
 cases hsp : spcC t.1 with
 | true =>
   obtain ⟨e1, hop⟩ := giO_spc hsp; obtain ⟨h3, c, hk, hc0, hkid⟩ := spc_kid hg.ok hgd hsp
   have eg : gol1 C 5000 s t l = (choK C s c).2.put (insN (giO t.1) (choK C s c).1 0) := by unfold gol1; rw [if_pos hsp, hkid, e1]
   unfold Kmo at hmo
   refine ⟨s, hmo, fun Z w h => argumentsC_any h ty x _ hop, fun h19 => ?_, fun _ Z w h => ?_⟩
   ·rcases hop with h | h | h <;> omega
   ·rw [eg]
    exact carryC_any E hB h t c ty x _ hop hfo hg h3 hk hc0 (by omega) (by omega)
 | false =>
   have hop := giO_rest hsp; have e2 := giO_bu hg.ok hgd hsp
   obtain ⟨sA, esA⟩ : ∃ sA, sA = alls (golK C 5000) 0 s (trs t.2) := ⟨_, rfl⟩
   have hnam := namC_eq hg.ok hcal
   have eg : gol1 C 5000 s t l = if giO t.1 = 19 ∧ l = true then sA else sA.put (insC (giO t.1) 0 0 t.1) := by
    unfold gol1
    rw [hsp, if_neg (by decide), hnam, ← esA, e2]
    cases buC t.1 with
    | true => simp
    | false => cases l <;> simp
   have hkm : Kmo sA (gol1 C 5000 s t l) := by
    rw [eg]
    split
    ·exact Kmo.refl _
    ·exact mo_put _ _
   have hkm' := hkm
   unfold Kmo at hkm'
   refine ⟨sA, hkm, fun Z w h => ?_, fun h1 h2 => by rw [eg, if_pos ⟨h1, h2⟩], fun hn Z w h => ?_⟩
   ·rw [esA]
    exact argumentsA_any E hB h t ty x _ hop hfo hcal hg 5000 (Nat.le_refl _) (by rw [← esA]; omega)
   ·rw [eg, if_neg hn]
    exact carryA_any E hB h t ty x _ hop hfo hg.ok (by omega)
end
end Go.Proofs.YtickbkcpcgmlmaaGreatDoor
