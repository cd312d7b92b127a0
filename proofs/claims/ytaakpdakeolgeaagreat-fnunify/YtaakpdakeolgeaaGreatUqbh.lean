/- Texts of Um6, Um7, Um8, UmW. Own work of the verifier. -/
import Derived.Test.YtaakpdakeolgeaaGreatUqbg
import Derived.Test.YtaakpdakeolgeaaGreatUqax
namespace Go.Proofs.YtaakpdakeolgeaaGreat
open Go Go.RowKit
set_option linter.unusedVariables false
def unB (K S : List Int) : Nat := (K.filter (fun x => decide (x ∉ S))).length
theorem unB_mono (x : Int) (S : List Int) : ∀ K : List Int, unB K (x :: S) ≤ unB K S
  | [] => Nat.le_refl _
  | a :: K => by
    have ih := unB_mono x S K
    unfold unB at ih ⊢
    by_cases h1 : a ∈ S
    · rw [List.filter_cons_of_neg (by simp [h1]), List.filter_cons_of_neg (by simp [h1])]; exact ih
    · rw [List.filter_cons_of_pos (p := fun x => decide (x ∉ S)) (by simpa using h1)]
      by_cases h2 : a = x
      · rw [List.filter_cons_of_neg (by simp [h2])]; simp only [List.length_cons]; omega
      · rw [List.filter_cons_of_pos (by simp [h1, h2])]; simp only [List.length_cons]; omega
theorem unB_cons {x : Int} {S : List Int} (hx : x ∉ S) : ∀ {K : List Int}, x ∈ K → unB K (x :: S) + 1 ≤ unB K S
  | [], h => by cases h
  | a :: K, h => by
    by_cases e : a = x
    · subst e
      have := unB_mono a S K
      unfold unB at this ⊢
      rw [List.filter_cons_of_neg (by simp), List.filter_cons_of_pos (p := fun x => decide (x ∉ S)) (by simpa using hx)]
      simp only [List.length_cons]; omega
    · have h' : x ∈ K := by
        rcases List.mem_cons.1 h with h | h
        · exact absurd h.symm e
        · exact h
      have ih := unB_cons hx h'
      unfold unB at ih ⊢
      by_cases h1 : a ∈ S
      · rw [List.filter_cons_of_neg (by simp [h1]), List.filter_cons_of_neg (by simp [h1])]; exact ih
      · rw [List.filter_cons_of_pos (p := fun x => decide (x ∉ S)) (by simpa using h1), List.filter_cons_of_pos (by simp [h1, e])]
        simp only [List.length_cons]; omega
def TRow (W0 : World) : List (Option Addr × Nat × Nat) → List Tr → Prop
  | r :: rs, z :: zs => TIn W0 r.1 r.2.1 r.2.2 z ∧ TRow W0 rs zs
  | [], [] => True
  | _, _ => False
theorem TRow.len {W0 : World} : ∀ {rs : List (Option Addr × Nat × Nat)} {zs : List Tr}, TRow W0 rs zs → rs.length = zs.length
  | [], [], _ => rfl
  | _ :: _, _ :: _, h => by simp [TRow.len h.2]
  | [], _ :: _, h => h.elim
  | _ :: _, [], h => h.elim
theorem TRow.snoc {W0 : World} {r : Option Addr × Nat × Nat} {z : Tr} (hz : TIn W0 r.1 r.2.1 r.2.2 z) : ∀ {rs : List (Option Addr × Nat × Nat)} {zs : List Tr}, TRow W0 rs zs → TRow W0 (rs ++ [r]) (zs ++ [z])
  | [], [], _ => ⟨hz, trivial⟩
  | _ :: _, _ :: _, h => ⟨h.1, TRow.snoc hz h.2⟩
  | [], _ :: _, h => h.elim
  | _ :: _, [], h => h.elim
theorem TRow.last {W0 : World} : ∀ {rs : List (Option Addr × Nat × Nat)} {zs : List Tr} {z : Tr}, TRow W0 rs (zs ++ [z]) → ∃ rs' r, rs = rs' ++ [r] ∧ TRow W0 rs' zs ∧ TIn W0 r.1 r.2.1 r.2.2 z
  | [r], [], z, h => ⟨[], r, rfl, trivial, h.1⟩
  | r :: rs, y :: zs, z, h => by
    obtain ⟨rs', r', e, h1, h2⟩ := TRow.last h.2
    exact ⟨r :: rs', r', by rw [e]; rfl, ⟨h.1, h1⟩, h2⟩
  | [], [], _, h => h.elim
  | [], _ :: _, _, h => h.elim
  | _ :: _ :: _, [], _, h => h.2.elim
def SeenIn (W : World) (gs : Nat) (bs : List Bnd) (S : List Int) : Prop := ∃ arr : Array Value, W.heap[gs]? = some (.cells arr 4 (0, 0)) ∧ ∀ j, j < bs.length → arr[j]? = some (.bool (decide ((bs.getD j Bnd.zero).1 ∈ S)))
structure SeeS (W0 w W : World) (gs : Nat) (bs : List Bnd) (S : List Int) (p : Option Addr) (n c : Nat) (todo : List Tr) : Prop where
  low : Below w.heap.size w W
  hgs : w.heap.size ≤ gs
  seen : SeenIn W gs bs S
  sub : ∀ x ∈ S, x ∈ bs.map Prod.fst
  row : ∃ rs, W.ownsRow w.heap.size 23 1 (.slice p n c) n (rs.map slV) ∧ TRow W0 rs todo ∧ n = rs.length
  few : todo.length + unB (bs.map Prod.fst) S ≤ 1 + bs.length
theorem SeenIn.cell {W : World} {gs : Nat} {bs : List Bnd} {S : List Int} (h : SeenIn W gs bs S) {j : Nat} (hj : j < bs.length) : W.cell? ⟨gs, j, none⟩ = some (.bool (decide ((bs.getD j Bnd.zero).1 ∈ S))) ∧ W.frozen? ⟨gs, j, none⟩ = false := by
  obtain ⟨arr, h1, h2⟩ := h
  exact ⟨by rw [cell_of_row W gs j arr _ _ h1]; exact h2 j hj, frozen_of_row W gs j arr _ h1⟩
theorem SeenIn.apart {W : World} {B gs n c : Nat} {p : Option Addr} {bs : List Bnd} {S : List Int} {xs : List Value} (h : SeenIn W gs bs S) (hr : W.ownsRow B 23 1 (.slice p n c) n xs) : Value.ownBlock (.slice p n c) ≠ some gs := fun e => by
  obtain ⟨arr, h1, _⟩ := h
  rcases hr.2 with ⟨h', _⟩ | ⟨g', cap', cur, hv, _, hh, _⟩
  · cases h'; cases e
  · cases hv
    simp [Value.ownBlock] at e
    subst e
    rw [h1] at hh
    cases hh
theorem SeenIn.put {W : World} {gs : Nat} {bs : List Bnd} {S : List Int} (h : SeenIn W gs bs S) (hup : ∀ i j, i < j → j < bs.length → (bs.getD i Bnd.zero).1 < (bs.getD j Bnd.zero).1) {j : Nat} (hj : j < bs.length) : SeenIn (W.setCell ⟨gs, j, none⟩ (.bool true)) gs bs ((bs.getD j Bnd.zero).1 :: S) := by
  obtain ⟨arr, h1, h2⟩ := h
  refine ⟨arr.setIfInBounds j (.bool true), heap_setCell_same W gs j arr _ _ h1, fun i hi => ?_⟩
  have hlt : j < arr.size := by
    have := h2 j hj
    exact (Array.getElem?_eq_some_iff.1 this).1
  rw [Array.getElem?_setIfInBounds]
  by_cases e : j = i
  · subst e
    rw [if_pos rfl, if_pos hlt]
    simp
  · rw [if_neg e, h2 i hi]
    have hne : (bs.getD i Bnd.zero).1 ≠ (bs.getD j Bnd.zero).1 := by
      rcases Nat.lt_or_gt_of_ne e with h' | h'
      · have := hup j i h' hi; omega
      · have := hup i j h' hj; omega
    congr 2
    rw [decide_eq_decide, List.mem_cons]
    exact ⟨.inr, fun h => h.resolve_left hne⟩
theorem SeenIn.kept {W W' : World} {gs : Nat} {bs : List Bnd} {S : List Int} (h : SeenIn W gs bs S) (hb : W'.heap[gs]? = W.heap[gs]?) : SeenIn W' gs bs S := by
  obtain ⟨arr, h1, h2⟩ := h
  exact ⟨arr, hb.trans h1, h2⟩
theorem made_bools (n : Nat) (j : Nat) (hj : j < n) : (madeCells #[Value.bool false] (n * 1))[j]? = some (.bool false) := by
  simp [madeCells, hj, Nat.mod_one]
theorem row_kept {W W' : World} {B n c : Nat} {p : Option Addr} {e : TypeId} {size : Nat} {xs : List Value} (h : W.ownsRow B e size (.slice p n c) n xs) (hb : ∀ g, Value.ownBlock (.slice p n c) = some g → W'.heap[g]? = W.heap[g]?) : W'.ownsRow B e size (.slice p n c) n xs := ⟨h.1, by
  rcases h.2 with h' | ⟨g', cap', cur, hv, hB, hh, r⟩
  · exact .inl h'
  · refine .inr ⟨g', cap', cur, hv, hB, ?_, r⟩
    cases hv
    exact (hb g' rfl).trans hh⟩
theorem SeeS.push {W0 w W w6 : World} {gs : Nat} {bs : List Bnd} {S : List Int} {pt : Option Addr} {mt ct : Nat} {todo : List Tr} {rs : List (Option Addr × Nat × Nat)} {k : Nat} {u : Tr} {qu : Option Addr} {lu cu g6 cap6 : Nat} (h : SeeS W0 w W gs bs S pt mt ct todo) (hup : ∀ i j, i < j → j < bs.length → (bs.getD i Bnd.zero).1 < (bs.getD j Bnd.zero).1) (hk : k < bs.length) (hns : (bs.getD k Bnd.zero).1 ∉ S)
    (hrow : W.ownsRow w.heap.size 23 1 (.slice pt mt ct) mt (rs.map slV)) (htr : TRow W0 rs todo) (hl : mt = rs.length) (hu : TIn W0 qu lu cu u)
    (hown : w6.ownsRow w.heap.size 23 1 (.slice (some ⟨g6, 0, none⟩) (mt + 1) cap6) (mt + 1) ((rs ++ [(qu, lu, cu)]).map slV))
    (hg : ((W.drew.setCell ⟨gs, k, none⟩ (.bool true)).alloc (.cells #[.slice qu lu cu] 23)).grownBy w6 (Value.ownBlock (.slice pt mt ct))) :
    SeeS W0 w w6 gs bs ((bs.getD k Bnd.zero).1 :: S) (some ⟨g6, 0, none⟩) (mt + 1) cap6 (todo ++ [u]) := by
  have hap := h.seen.apart hrow
  have hl1 : Below w.heap.size w ((W.drew.setCell ⟨gs, k, none⟩ (.bool true)).alloc (.cells #[.slice qu lu cu] 23)) := (h.low.drew.setCell (p := ⟨gs, k, none⟩) h.hgs _).alloc (h.low.drew.setCell (p := ⟨gs, k, none⟩) h.hgs _).size _
  have hgl : gs < W.heap.size := by
    obtain ⟨arr, h1, _⟩ := h.seen
    exact (Array.getElem?_eq_some_iff.1 h1).1
  have hmem : (bs.getD k Bnd.zero).1 ∈ bs.map Prod.fst := List.mem_map.2 ⟨_, by simp [List.getD, hk], rfl⟩
  refine ⟨hl1.grown hg hl1.size (fun j e => (hrow.lt j e).1), h.hgs, ?_, fun x hx => ?_, ⟨rs ++ [(qu, lu, cu)], hown, htr.snoc hu, by simp [hl]⟩, ?_⟩
  · have h1 : SeenIn (W.drew.setCell ⟨gs, k, none⟩ (.bool true)) gs bs ((bs.getD k Bnd.zero).1 :: S) := SeenIn.put (h.seen.kept rfl) hup hk
    have hsz : gs < (W.drew.setCell ⟨gs, k, none⟩ (.bool true)).heap.size := by simp; exact hgl
    exact (h1.kept (Below.heap_alloc _ _ _ hsz)).kept (hg.block gs (by simp; have : gs < W.heap.size := hgl; omega) (fun e => hap e.symm))
  · rcases List.mem_cons.1 hx with rfl | hx
    · exact hmem
    · exact h.sub x hx
  · have h1 := unB_cons hns hmem
    have h2 := h.few
    simp only [List.length_append, List.length_singleton]
    omega
def StandO (M : BM) (t : Tr) (v : Int) (w : World) (e : Ending) (w' : World) : Prop := ∃ R : Bool, e = .returned (.bool R) ∧ (R = true ↔ Reach M t v) ∧ Below w.heap.size w w'
end Go.Proofs.YtaakpdakeolgeaaGreat

namespace Go.Proofs.YtaakpdakeolgeaaGreat
open Go Go.RowKit
set_option linter.unusedVariables false
theorem infoBool : (Tryz.prog.info? 4).map (fun i => (i.zero, i.size, i.bytes)) = some (some (.bool false), 1, 1) := by kernel_rfl
theorem run_makeB (w : World) (n : Nat) (hn : n ≤ 20000) : (Instr.makeSlice 129 (.int .i64 (n : Int)) (.int .i64 (n : Int))).run Tryz.prog w = .ok (.slice (some ⟨w.heap.size, 0, none⟩) n n) (w.alloc (.cells (madeCells #[Value.bool false] n) 4)) := by
  obtain ⟨i0, hi, hz0, hz1, hz2⟩ := info_parts infoBool
  have h := run_makeSlice w 129 4 i0 (.bool false) Tryz.underlying129 hi hz0 .i64 .i64 (n : Int) (n : Int) (by omega) (by omega) (by rw [hz1]; simp; omega) (by rw [hz2]; omega) (by omega)
  rw [h, hz1]
  simp [Value.cells]
theorem SeeS.start {W0 w : World} {M : BM} {bs : List Bnd} {n : Nat} (hn : n = bs.length) {q : Option Addr} {m cq : Nat} {t : Tr} (ht : TIn W0 q m cq t) :
    SeeS W0 w ((w.alloc (.cells (madeCells #[Value.bool false] n) 4)).alloc (.cells #[.slice q m cq] 23)) w.heap.size bs [] (some ⟨w.heap.size + 1, 0, none⟩) 1 1 [t] := by
  have hal : Below w.heap.size w (w.alloc (.cells (madeCells #[Value.bool false] n) 4)) := (Below.refl _ _).alloc (Nat.le_refl _) _
  have hr := World.ownsRow_lit (base := w.heap.size) (e := 23) (size := 1) (w.alloc (.cells (madeCells #[Value.bool false] n) 4)) #[.slice q m cq] 1 hal.size (by unfold maxLen; omega) rfl
  rw [World.size_alloc] at hr
  refine ⟨hal.alloc hal.size _, Nat.le_refl _, ⟨_, (Below.heap_alloc _ _ _ (by simp)).trans (heap_alloc_new w _), fun j hj => ?_⟩, fun x hx => by simp at hx, ⟨[(q, m, cq)], hr, ⟨ht, trivial⟩, rfl⟩, ?_⟩
  · rw [← Nat.mul_one n, made_bools n j (by omega)]; simp
  · have : unB (bs.map Prod.fst) [] ≤ (bs.map Prod.fst).length := List.length_filter_le _ _
    simp at this ⊢; omega
theorem findI_at {bs : List Bnd} {x : Int} {k : Nat} (h : findI (bs.map Prod.fst) x = (k : Int)) (hk : k < bs.length) : (bs.getD k Bnd.zero).1 = x := by
  unfold findI at h
  split at h
  · rename_i hm
    have h1 : (bs.map Prod.fst).idxOf x = k := by omega
    have h2 := List.getElem_idxOf (List.idxOf_lt_length_of_mem hm)
    simp only [h1, List.getElem_map] at h2
    simp [List.getD, hk, h2]
  · omega
theorem SeeS.drewS {W0 w W : World} {gs : Nat} {bs : List Bnd} {S : List Int} {p : Option Addr} {n c : Nat} {todo : List Tr} (h : SeeS W0 w W gs bs S p n c todo) : SeeS W0 w W.drew gs bs S p n c todo := by
  obtain ⟨rs, h1, h2⟩ := h.row
  exact ⟨h.low.drew, h.hgs, h.seen.kept rfl, h.sub, ⟨rs, row_kept h1 (fun g _ => rfl), h2⟩, h.few⟩
set_option maxRecDepth 100000 in
set_option maxHeartbeats 2000000 in
theorem l5stands_any (M : BM) (W0 : World) (sb kk : Nat) (p : Option Addr) (n c : Nat) (bs : List Bnd) (v : Int) (t : Tr) (q : Option Addr) (m cq : Nat) (w : World) (hs : MS W0 w sb M kk p n c bs) (hts : ∀ x u, M x = some u → (tcs u).length ≤ 2000) (htl : (tcs t).length ≤ 2000) (hin : TIn W0 q m cq t) :
    Calls Tryz.prog 53 #[.pointer (some ⟨sb, 0, none⟩), .int .i64 v, .slice q m cq] w (StandO M t v w) := by
  have c0 := hs.sub
  have hn2 : n ≤ 20000 := by have := hs.kle; have := hs.few; omega
  have hmk := run_makeB w n hn2
  have HS : Hid (MS W0 w sb M kk p n c bs) := hs
  have HSM : Hid ((∀ x u, M x = some u → (tcs u).length ≤ 2000) ∧ (tcs t).length ≤ 2000) := ⟨hts, htl⟩
  have HIX : Hid (∀ y W, Below w.heap.size w W → Calls Tryz.prog 37 #[.slice p n c, .int .i64 y] W fun e w' => e = .returned (.int .i64 (findI (bs.map Prod.fst) y)) ∧ w' = W) := fun y W hW => l5index_any p n c bs y W hs.len (by omega) hs.bsr.up ((hs.lies.bdin hs.low).below hW)
  have HST : Hid (SeeS W0 w ((w.alloc (.cells (madeCells #[Value.bool false] n) 4)).alloc (.cells #[.slice q m cq] 23)) w.heap.size bs [] (some ⟨w.heap.size + 1, 0, none⟩) 1 1 [t]) := SeeS.start (M := M) hs.len hin
  have HSS : Hid (StS M t v [] [t] ∧ ∀ z ∈ [t], (tcs z).length ≤ 2000) := ⟨StS.start M t v, fun z hz => by rw [List.mem_singleton.1 hz]; exact htl⟩
  clear hs hts htl hin
  obtain ⟨gs, egs⟩ : ∃ gs, gs = w.heap.size := ⟨_, rfl⟩
  have HGS : Hid (gs = w.heap.size) := egs
  go_enter Tryz.func53, Tryz.ntmps53
  go_wp2_with fail
  rw [← egs] at HST ⊢
  clear egs hmk
  have hgs1 : gs < gs + 1 := Nat.lt_succ_self _
  go_loopg [8] (2 * unB (bs.map Prod.fst) [] + 1) (fun k s wr => ∃ (S : List Int) (todo : List Tr) (pt : Option Addr) (mt ct : Nat), s = .slice pt mt ct ∧ mt ≤ 20001 ∧ Hid (SeeS W0 w wr gs bs S pt mt ct todo) ∧ Hid (StS M t v S todo ∧ ∀ z ∈ todo, (tcs z).length ≤ 2000) ∧ Hid (2 * unB (bs.map Prod.fst) S + todo.length = k))
  case atStart => exact ⟨[], [t], _, 1, 1, rfl, by omega, HST, HSS, rfl⟩
  case round =>
    obtain ⟨S, todo, pt, mt, ct, rfl, hmt, HSE, HSX, HK⟩ := hrel
    obtain ⟨rs, hrow, htr, hrl⟩ := HSE.out.row
    rcases List.eq_nil_or_concat todo with rfl | ⟨todo', z, rfl⟩
    · have hm0 : mt = 0 := by rw [hrl, htr.len]; rfl
      subst hm0
      have HF : Hid (StandO M t v w (.returned (.bool false)) wr) := ⟨false, rfl, ⟨fun h => (by cases h), fun h => absurd h HSX.out.1.done⟩, HSE.out.low⟩
      clear hrow htr hrl
      go_wp2_with fail
      go_ret
      exact HF.out
    · rw [List.concat_eq_append] at HSX HK htr HSE
      obtain ⟨rs', r, rfl, htr', hz⟩ := htr.last
      obtain ⟨qz, mz, cz⟩ := r
      simp only at hz
      obtain ⟨L, eL⟩ : ∃ L, L = rs'.length := ⟨_, rfl⟩
      have hmL : mt = L + 1 := by rw [hrl]; simp [eL]
      subst hmL
      obtain ⟨g, cap, hform⟩ := ownsRow_succ (k := L) hrow
      cases hform
      have d0 : wr.cell? ⟨g, L, none⟩ = some (.slice qz mz cz) := by
        rw [hrow.cellAt L (by omega), List.map_append, List.getElem?_append_right (by simp [eL])]
        simp [eL, slV]
      have hpop := ownsRow_pop (size := 1) (n := L) (xs := rs'.map slV) (last := [slV (qz, mz, cz)]) (by simp [eL]) (by rw [← List.map_singleton, ← List.map_append]; exact hrow)
      have hct : L + 1 ≤ ct := by
        rcases hrow.2 with ⟨h', _⟩ | ⟨g', cap', cur, hv, hB, hh, r, _⟩
        · cases h'
        · cases hv; omega
      have hmz : mz ≤ 2000 := by rw [hz.1]; exact HSX.out.2 z (by simp)
      have HZ : Hid (TIn W0 qz mz cz z) := hz
      have HSE2 : Hid (SeeS W0 w wr gs bs S (some ⟨g, 0, none⟩) L ct todo') := ⟨HSE.out.low, HSE.out.hgs, HSE.out.seen, HSE.out.sub, ⟨rs', hpop, htr', eL⟩, by have := HSE.out.few; simp at this; omega⟩
      have HSX2 : Hid (StI M t v S todo' z 0 ∧ ∀ z ∈ todo', (tcs z).length ≤ 2000) := ⟨HSX.out.1.take, fun y hy => HSX.out.2 y (by simp [hy])⟩
      have HK2 : Hid (2 * unB (bs.map Prod.fst) S + todo'.length < gk) := by
        have := HK.out
        simp at this
        show _ < _
        omega
      clear hrow htr hrl hz htr' eL hpop
      go_wp2_with fail
      go_loopw [8, 10] (fun s i wx => ∃ (S : List Int) (todo : List Tr) (pt : Option Addr) (mt ct j : Nat), s = .slice pt mt ct ∧ mt ≤ 20001 ∧ j ≤ mz ∧ i = .int .i64 j ∧ Hid (SeeS W0 w wx gs bs S pt mt ct todo) ∧ Hid (StI M t v S todo z j ∧ ∀ z ∈ todo, (tcs z).length ≤ 2000) ∧ Hid (2 * unB (bs.map Prod.fst) S + todo.length < gk)) (fun _ i _ => mz - (intOf i).toNat)
      case atStart => exact ⟨S, todo', _, L, ct, 0, rfl, by omega, Nat.zero_le _, rfl, HSE2, HSX2, HK2⟩
      case round =>
        clear HSE2 HSX2 HK2 HSE HSX HK d0
        obtain ⟨S, todo, pt, mt, ct, j, rfl, hmt2, hjm, rfl, HSE, HSX, HK⟩ := hrel
        by_cases hlt : j < mz
        · have hjz : j < (tcs z).length := by rw [← HZ.out.1]; exact hlt
          have HL0 : Hid (Below W0.heap.size W0 wr) := Below.on HS.out.low HSE.out.low
          obtain ⟨bq, oq, rfl, hcs⟩ := HZ.out.2.2.2 (tcs_pos z)
          obtain ⟨tp, tcap, g0, g1, g2, _⟩ := hcs j hjz
          have d0 := (HL0.out.cell (World.block_lt_of_cell? _ _ g0)).trans g0
          have d1 := (HL0.out.cell (World.block_lt_of_cell? _ _ g1)).trans g1
          have s0 := (HSE.out.low.cell (World.block_lt_of_cell? _ _ c0)).trans c0
          by_cases hk : ((tcs z).getD j Cel.none).1 = 0
          · have hk0 : (((tcs z).getD j Cel.none).1 == 0) = true := by simpa using hk
            by_cases hv : ((tcs z).getD j Cel.none).2.1 = v
            · have HF : Hid (StandO M t v w (.returned (.bool true)) wr) := ⟨true, rfl, ⟨fun _ => HSX.out.1.hit hjz hk hv, fun _ => rfl⟩, HSE.out.low⟩
              have hv0 : (((tcs z).getD j Cel.none).2.1 == v) = true := by simpa using hv
              obtain ⟨x, ex⟩ : ∃ x, x = ((tcs z).getD j Cel.none).2.1 := ⟨_, rfl⟩
              obtain ⟨kd, ek⟩ : ∃ kd, kd = ((tcs z).getD j Cel.none).1 := ⟨_, rfl⟩
              rw [← ek] at d0 hk0
              rw [← ex] at d1 hv0
              clear hcs g0 g1 g2 ex ek hk hv hjz
              go_wp2_with fail
              go_ret
              exact HF.out
            · have hv0 : (((tcs z).getD j Cel.none).2.1 == v) = false := by simpa using hv
              have HSK : Hid (∀ S, StI M t v S todo z j → (M ((tcs z).getD j Cel.none).2.1 = none ∨ ((tcs z).getD j Cel.none).2.1 ∈ S) → StI M t v S todo z (j + 1)) := fun S h h' => h.skip (fun _ => ⟨hv, h'⟩)
              have HPU : Hid (∀ u, M ((tcs z).getD j Cel.none).2.1 = some u → ((tcs z).getD j Cel.none).2.1 ∉ S → StI M t v (((tcs z).getD j Cel.none).2.1 :: S) (todo ++ [u]) z (j + 1)) := fun u h h' => HSX.out.1.push hjz hk hv h h'
              obtain ⟨x, ex⟩ : ∃ x, x = ((tcs z).getD j Cel.none).2.1 := ⟨_, rfl⟩
              obtain ⟨kd, ek⟩ : ∃ kd, kd = ((tcs z).getD j Cel.none).1 := ⟨_, rfl⟩
              rw [← ek] at d0 hk0
              rw [← ex] at d1 hv0 HSK HPU
              have HI := HIX.out x wr.drew HSE.out.low.drew
              clear hcs g0 g1 g2 ex ek hk hv hjz
              rcases HS.out.bsr.find x with ⟨k, u, hkb, hf, hMu, hcu⟩ | ⟨hf, hMu⟩
              · rw [hf] at HI
                obtain ⟨bp, op, hpp, hbd⟩ := HS.out.lies (by omega)
                subst hpp
                obtain ⟨qu, cu, e0, e1, e3, e4, e2⟩ := hbd k hkb
                have hxk : (bs.getD k Bnd.zero).1 = x := findI_at hf hkb
                obtain ⟨s1, f1⟩ := HSE.out.seen.cell hkb
                rw [hxk] at s1
                have hkn : (k : Int) < (n : Int) := by have := HS.out.len; omega
                have hk00 : (0 : Int) ≤ (k : Int) := by omega
                have hkd : decide ((k : Int) < 0) = false := by simp
                by_cases hxS : x ∈ S
                · have hdec : decide (x ∈ S) = true := by simpa using hxS
                  rw [hdec] at s1
                  have HN : Hid (StI M t v S todo z (j + 1)) := HSK.out S HSX.out.1 (.inr hxS)
                  have HSEd : Hid (SeeS W0 w wr.drew gs bs S pt mt ct todo) := HSE.out.drewS
                  clear hf hMu hcu hbd e0 e1 e3 e4 e2 hxk hdec hxS
                  go_wp2_with fail
                  go_region_held3 (fun W => W = wr.drew) (rfl) ((go_at_call 37; refine HI.mono ?_; rintro e w' ⟨rfl, rfl⟩))
                  all_goals go_wp2_with fail
                  all_goals go_roundw
                  all_goals first
                    | exact ⟨S, todo, pt, mt, ct, j + 1, rfl, hmt2, by omega, by go_num, HSEd, ⟨HN.out, HSX.out.2⟩, HK⟩
                    | (simp [intOf]; omega)
                · have hdec : decide (x ∈ S) = false := by simpa using hxS
                  rw [hdec] at s1
                  obtain ⟨rs, hrow, htr, hrl⟩ := HSE.out.row
                  have hap := HSE.out.seen.apart hrow
                  have hsw : sb < w.heap.size := World.block_lt_of_cell? _ _ c0
                  have hbw : bp < w.heap.size := World.block_lt_of_cell? _ _ e1
                  have hgw := HSE.out.hgs
                  have hu : TIn W0 qu (bs.getD k Bnd.zero).2.length cu u := ⟨by rw [hcu], e3, e4, by rw [← hcu]; exact e2⟩
                  have l1 := (HSE.out.low.cell (World.block_lt_of_cell? _ _ e1)).trans e1
                  obtain ⟨lu, elu⟩ : ∃ lu, lu = (bs.getD k Bnd.zero).2.length := ⟨_, rfl⟩
                  rw [← elu] at hu l1
                  have hdd : (wr.setCell ⟨gs, k, none⟩ (.bool true)).drew = wr.drew.setCell ⟨gs, k, none⟩ (.bool true) := rfl
                  have hc1 : (wr.setCell ⟨gs, k, none⟩ (.bool true)).drew.cell? ⟨sb, 0, none⟩ = some (.slice (some ⟨bp, op, none⟩) n c) := by
                    rw [hdd, World.cell?_setCell_other _ _ _ _ (fun e => by have := congrArg Addr.block e; simp at this; omega)]; exact s0
                  have hc2 : (wr.setCell ⟨gs, k, none⟩ (.bool true)).drew.cell? ⟨bp, op + k * 2 + 1, none⟩ = some (.slice qu lu cu) := by
                    rw [hdd, World.cell?_setCell_other _ _ _ _ (fun e => by have := congrArg Addr.block e; simp at this; omega)]; exact l1
                  have HROW : Hid ((wr.setCell ⟨gs, k, none⟩ (.bool true)).drew.ownsRow w.heap.size 23 1 (.slice pt mt ct) mt (rs.map slV)) := row_kept (W' := wr.drew.setCell ⟨gs, k, none⟩ (.bool true)) hrow (fun g e => Below.heap_setCell _ _ _ _ (fun e' => hap (by rw [e, e'])))
                  have HPUSH : Hid (∀ w6 g6 cap6, w6.ownsRow w.heap.size 23 1 (.slice (some ⟨g6, 0, none⟩) (mt + 1) cap6) (mt + 1) ((rs ++ [(qu, lu, cu)]).map slV) → ((wr.setCell ⟨gs, k, none⟩ (.bool true)).drew.alloc (.cells #[.slice qu lu cu] 23)).grownBy w6 (Value.ownBlock (.slice pt mt ct)) → SeeS W0 w w6 gs bs (x :: S) (some ⟨g6, 0, none⟩) (mt + 1) cap6 (todo ++ [u])) := fun w6 g6 cap6 h1 h2 => by
                    have := HSE.out.push HS.out.bsr.up hkb (by rw [hxk]; exact hxS) hrow htr hrl hu h1 (by rw [hdd] at h2; exact h2)
                    rw [hxk] at this
                    exact this
                  have hmem : x ∈ bs.map Prod.fst := List.mem_map.2 ⟨bs.getD k Bnd.zero, by simp [List.getD, hkb], hxk⟩
                  have hun := unB_cons hxS hmem
                  have hmt3 : mt + 1 ≤ 20001 := by
                    have h1 := HSE.out.few
                    have h2 := htr.len
                    have h3 := HS.out.len
                    omega
                  have HN : Hid (StI M t v (x :: S) (todo ++ [u]) z (j + 1)) := HPU.out u hMu hxS
                  have HK3 : Hid (2 * unB (bs.map Prod.fst) (x :: S) + (todo ++ [u]).length < gk) := by
                    have := HK.out
                    show _ < _
                    simp
                    omega
                  have HSM3 : Hid (∀ z ∈ todo ++ [u], (tcs z).length ≤ 2000) := fun y hy => by
                    rcases List.mem_append.1 hy with hy | hy
                    · exact HSX.out.2 y hy
                    · rw [List.mem_singleton.1 hy]; exact HSM.out.1 x u hMu
                  have HBASE : Hid (w.heap.size ≤ (wr.setCell ⟨gs, k, none⟩ (.bool true)).drew.heap.size) := by
                    have := HSE.out.low.size
                    show _ ≤ _
                    simpa using this
                  clear hf hMu hcu hbd e0 e1 e3 e4 e2 hxk hdec hxS hrow htr hrl hap hsw hbw hgw hu elu hmem hun l1 hdd
                  go_wp2_with fail
                  go_region_held3 (fun W => W = wr.drew) (rfl) ((go_at_call 37; refine HI.mono ?_; rintro e w' ⟨rfl, rfl⟩))
                  all_goals go_wp2_with (at_builtin; change wpList _ _ _ _ _ ((wr.setCell ⟨gs, k, none⟩ (.bool true)).drew.alloc (.cells #[.slice qu lu cu] 23)); refine app_sl _ rfl _ _ rfl w.heap.size pt mt ct rs qu lu cu rfl HROW.out (by first | rfl | simp [Act.eval] | simp [go_sem]) (by omega) HBASE.out ?_; intro g6 cap6 w6 hown6 hg6; have HSE6 : Hid _ := HPUSH.out w6 g6 cap6 hown6 hg6; clear hown6 hg6)
                  all_goals go_roundw
                  all_goals first
                    | exact ⟨x :: S, todo ++ [u], _, mt + 1, _, j + 1, rfl, hmt3, by omega, by go_num, HSE6, ⟨HN.out, HSM3.out⟩, HK3⟩
                    | (simp [intOf]; omega)
              · rw [hf] at HI
                have HN : Hid (StI M t v S todo z (j + 1)) := HSK.out S HSX.out.1 (.inl hMu)
                have HSEd : Hid (SeeS W0 w wr.drew gs bs S pt mt ct todo) := HSE.out.drewS
                clear hf hMu
                go_wp2_with fail
                go_region_held3 (fun W => W = wr.drew) (rfl) ((go_at_call 37; refine HI.mono ?_; rintro e w' ⟨rfl, rfl⟩))
                all_goals go_wp2_with fail
                all_goals go_roundw
                all_goals first
                  | exact ⟨S, todo, pt, mt, ct, j + 1, rfl, hmt2, by omega, by go_num, HSEd, ⟨HN.out, HSX.out.2⟩, HK⟩
                  | (simp [intOf]; omega)
          · have hk0 : (((tcs z).getD j Cel.none).1 == 0) = false := by simpa using hk
            have HN : Hid (StI M t v S todo z (j + 1)) := HSX.out.1.skip (fun h => absurd h hk)
            obtain ⟨kd, ek⟩ : ∃ kd, kd = ((tcs z).getD j Cel.none).1 := ⟨_, rfl⟩
            rw [← ek] at d0 hk0
            clear hcs g0 g1 g2 ek hk hjz d1
            go_wp2_with fail
            go_roundw
            case rel => exact ⟨S, todo, pt, mt, ct, j + 1, rfl, hmt2, by omega, by go_num, HSE, ⟨HN.out, HSX.out.2⟩, HK⟩
            case measure => simp [intOf]; omega
        · obtain rfl : j = mz := by omega
          have HST3 : Hid (StS M t v S todo) := by
            have := HSX.out.1
            rw [HZ.out.1] at this
            exact this.shut
          go_wp2_with fail
          go_roundg (2 * unB (bs.map Prod.fst) S + todo.length)
          all_goals first
            | exact HK.out
            | exact ⟨S, todo, pt, mt, ct, rfl, hmt2, HSE, ⟨HST3.out, HSX.out.2⟩, rfl⟩
end Go.Proofs.YtaakpdakeolgeaaGreat

namespace Go.Proofs.YtaakpdakeolgeaaGreat
open Go Go.RowKit
set_option linter.unusedVariables false
theorem MS.tick {W0 W : World} {sb : Nat} {M : BM} {k : Nat} {p : Option Addr} {n c : Nat} {bs : List Bnd} (h : MS W0 W sb M k p n c bs) (hk : k < 20000) : MS W0 (W.setCell ⟨sb, 1, none⟩ (.int .i64 ((k + 1 : Nat) : Int))) sb M (k + 1) p n c bs := by
  refine ⟨h.low.setCell (p := ⟨sb, 1, none⟩) h.hsb _, h.hsb, ?_, World.cell?_setCell_same' _ _ _ (by rw [h.prs]; rfl), h.len, h.lies.move (fun b o v e j hv => ?_), h.bsr, by have := h.few; omega, by omega, h.zero, h.room, h.apart, fun o => by rw [World.frozen?_setCell]; exact h.free o⟩
  · rw [World.cell?_setCell_other _ _ _ _ (fun e => by have := congrArg Addr.off e; simp at this)]
    exact h.sub
  · have h9 := (h.apart _ e).1
    rw [World.cell?_setCell_other _ _ _ _ (fun e => h9 (congrArg Addr.block e).symm)]
    exact hv
theorem runU_codes : ∀ (k : Nat) (M : BM) (ps : List TT) (c : Int), runU 4 5 3 k M ps = .error c → 3 ≤ c ∧ c ≤ 5
  | k, M, [], c, h => by rw [runU_nil] at h; cases h
  | 0, M, p :: ps, c, h => by cases h; exact ⟨by decide, by decide⟩
  | k + 1, M, p :: ps, c, h => by
    rw [runU] at h
    cases hs : stepE 4 5 M (endB M p.1) (endB M p.2) with
    | error d =>
      rw [hs] at h
      cases h
      rcases step_codes hs with rfl | rfl <;> exact ⟨by decide, by decide⟩
    | ok r =>
      obtain ⟨M1, qs⟩ := r
      rw [hs] at h
      exact runU_codes k M1 (qs ++ ps) c h
def PairO (W0 : World) (sb : Nat) (R : Except Int (BM × Nat)) (w : World) (e : Ending) (w' : World) : Prop := match R with
  | .error c => (3 ≤ c ∧ c ≤ 5) ∧ e = .returned (.int .i64 c) ∧ Below W0.heap.size W0 w' ∧ w.grownBy w' (some sb)
  | .ok (M, f) => e = .returned (.int .i64 0) ∧ f ≤ 20000 ∧ (∃ p n c bs, MS W0 w' sb M (20000 - f) p n c bs) ∧ WfU M ∧ (∀ x u, M x = some u → (tcs u).length ≤ 2000) ∧ w.grownBy w' (some sb)
def PairOk (W0 : World) (sb f : Nat) : Prop := ∀ (M : BM) (p : Option Addr) (n c : Nat) (bs : List Bnd) (x y : Tr) (qx qy : Option Addr) (mx cx my cy : Nat) (w : World), MS W0 w sb M (20000 - f) p n c bs → WfU M → (∀ x u, M x = some u → (tcs u).length ≤ 2000) → x.fo.ok → y.fo.ok → (tcs x).length ≤ 2000 → (tcs y).length ≤ 2000 → TIn W0 qx mx cx x → TIn W0 qy my cy y →
  Calls Tryz.prog 23 #[.pointer (some ⟨sb, 0, none⟩), .slice qx mx cx, .slice qy my cy] w (PairO W0 sb (runU 4 5 3 f M [(x, y)]) w)
end Go.Proofs.YtaakpdakeolgeaaGreat

namespace Go.Proofs.YtaakpdakeolgeaaGreat
open Go Go.RowKit
set_option linter.unusedVariables false
theorem fo_textU : ∀ (F : Fo), F.ok → ∀ c ∈ F.cells, c.2.2.length ≤ 100
  | .nil, _, c, h => by cases h
  | .node a k r, h, c, hc => by
    simp only [Fo.cells, List.mem_cons, List.mem_append] at hc
    rcases hc with rfl | hc | hc
    · have := h.1
      simp only [cellB, decide_eq_true_eq] at this
      omega
    · exact fo_textU k h.2.2.2.2.1 c hc
    · exact fo_textU r h.2.2.2.2.2 c hc
def WholeO (B : Nat) (w : World) (R : List Cel) (e : Ending) (w' : World) : Prop := Below B w w' ∧ ((R.length ≤ 2000 ∧ ∃ p m c, e = .returned (.tuple #[.slice p m c, .bool true]) ∧ OwnC w' B p m c R) ∨ (2000 < R.length ∧ e = .returned (.tuple #[.slice none 0 0, .bool false])))
def WholeOk (W0 Wp : World) (sb : Nat) (M : BM) (r : Int → Nat) (N : Nat) : Prop := ∀ (t : Tr) (q : Option Addr) (n cq : Nat) (B : Nat) (w : World) (ds : List Cel) (p : Option Addr) (m c : Nat), t.fo.ok → (tcs t).length ≤ 2000 → TIn W0 q n cq t → (∀ v ∈ vsT t, (M v).isSome = true → r v < N) → Below Wp.heap.size Wp w → Wp.heap.size ≤ B → B ≤ w.heap.size → OwnC w B p m c ds → m ≤ 2000 →
  Calls Tryz.prog 24 #[.pointer (some ⟨sb, 0, none⟩), .slice q n cq, .slice p m c] w (WholeO B w (ds ++ (tcs t).flatMap (putC M)))
theorem below_drewU (w : World) : Below w.heap.size w w.drew := ⟨rfl, rfl, rfl, Nat.le_refl _, fun _ _ => rfl⟩
theorem flat_take (M : BM) (cs : List Cel) (j : Nat) (h : j < cs.length) : (cs.take (j + 1)).flatMap (putC M) = (cs.take j).flatMap (putC M) ++ putC M (cs.getD j Cel.none) := by
  rw [List.take_add_one, List.getElem?_eq_getElem h, List.flatMap_append]
  simp only [Option.toList, List.flatMap_cons, List.flatMap_nil, List.append_nil, List.getD, List.getElem?_eq_getElem h, Option.getD_some]
set_option maxRecDepth 100000 in
set_option maxHeartbeats 2000000 in
theorem whole_step (W0 Wp : World) (sb : Nat) (M : BM) (r : Int → Nat) (hac : Acyc M r) (hwf : WfU M) (hsm : ∀ x u, M x = some u → (tcs u).length ≤ 2000) (kk : Nat) (sp : Option Addr) (sn sc : Nat) (bs : List Bnd) (hs : MS W0 Wp sb M kk sp sn sc bs) (N : Nat) (ih : ∀ N', N' < N → WholeOk W0 Wp sb M r N') : WholeOk W0 Wp sb M r N := by
  intro t q n cq B w ds p m c ht htl hin hrk hWp hBp hBw hown hm
  obtain ⟨cs, ecs⟩ : ∃ cs, cs = tcs t := ⟨_, rfl⟩
  have hnl : n = cs.length := by rw [ecs]; exact hin.1
  have hn2 : n ≤ 2000 := by rw [hnl, ecs]; exact htl
  have hncq : n ≤ cq := hin.2.1
  have hcq : cq ≤ 9223372036854775807 := hin.2.2.1
  have HMS : Hid (∀ W, Below Wp.heap.size Wp W → MS W0 W sb M kk sp sn sc bs) := fun W h => hs.below h
  have HLOW : Hid (∀ W, Below B w W → Below Wp.heap.size Wp W) := fun W h => hWp.trans (h.mono hBp)
  have HTX : Hid (∀ j, j < cs.length → (cs.getD j Cel.none).2.2.length ≤ 100) := fun j hj => fo_textU t.fo ht _ (by rw [← tcs_fo, ← ecs] at *; simp [List.getD, hj])
  have HVR : Hid (∀ j, j < cs.length → (cs.getD j Cel.none).1 = 0 → ∀ u, M (cs.getD j Cel.none).2.1 = some u → WholeOk W0 Wp sb M r (r (cs.getD j Cel.none).2.1)) := fun j hj h0 u hu => by
    rw [ecs] at hj h0 hu ⊢
    exact ih _ (hrk _ (cell_var hj h0) (by rw [hu]; rfl))
  have HU : Hid (Acyc M r ∧ WfU M ∧ ∀ x u, M x = some u → (tcs u).length ≤ 2000) := ⟨hac, hwf, hsm⟩
  have HIN : Hid (CIn W0 q cs) := by rw [ecs]; exact hin.2.2.2
  have HN : Hid (n = cs.length) := hnl
  have HFS : Hid (sn = bs.length ∧ sn ≤ 20000) := ⟨hs.len, by have := hs.few; have := hs.kle; omega⟩
  have HFIN0 : Hid (∀ w' r m cr, Below B w w' → OwnC w' B r m cr (ds ++ (cs.take n).flatMap (putC M)) → m ≤ 2000 → WholeO B w (ds ++ (tcs t).flatMap (putC M)) (.returned (.tuple #[.slice r m cr, .bool true])) w') := fun w' r m cr hb' ho hle => by
    rw [List.take_of_length_le (by rw [hnl]; exact Nat.le_refl _), ecs] at ho
    exact ⟨hb', .inl ⟨by rw [← ho.1]; exact hle, r, m, cr, rfl, ho⟩⟩
  have HFIN3 : Hid (∀ w', Below B w w' → ∀ j, 2000 < (ds ++ (cs.take (j + 1)).flatMap (putC M)).length → WholeO B w (ds ++ (tcs t).flatMap (putC M)) (.returned (.tuple #[.slice none 0 0, .bool false])) w') := fun w' hb' j hj => by
    refine ⟨hb', .inr ⟨?_, rfl⟩⟩
    have := take_len (M := M) cs (j + 1)
    rw [← ecs]
    simp only [List.length_append] at hj ⊢
    omega
  have HMSB : Hid (Wp.heap.size ≤ B) := hBp
  have HO0 : Hid (OwnC w B p m c (ds ++ (cs.take 0).flatMap (putC M))) := by
    show OwnC _ _ _ _ _ _
    simpa using hown
  have HBS : Hid (∀ W, Below B w W → Below W0.heap.size W0 W) := fun W h => (hs.below (hWp.trans (h.mono hBp))).low
  clear hs ht htl hin hrk hWp hBp hown ih hac hwf hsm hnl ecs
  go_enter Tryz.func24, Tryz.ntmps24
  go_wp2_with fail
  go_loopw [2, 8] (fun s i wr => ∃ (j : Nat) (r : Option Addr) (m cr : Nat), j ≤ n ∧ m ≤ 2000 ∧ i = .int .i64 j ∧ s = .slice r m cr ∧ Hid (OwnC wr B r m cr (ds ++ (cs.take j).flatMap (putC M))) ∧ Hid (Below B w wr)) (fun _ i _ => n - (intOf i).toNat)
  case atStart => exact ⟨0, p, m, c, Nat.zero_le _, hm, rfl, rfl, HO0, Below.refl _ _⟩
  case round =>
    clear HO0 hm
    obtain ⟨j, rp, m, cr, hj, hm, rfl, rfl, HO, HB⟩ := hrel
    have hBs : B ≤ wr.heap.size := Nat.le_trans hBw HB.out.size
    by_cases hlt : j < n
    · have hjl : j < cs.length := by rw [← HN.out]; exact hlt
      obtain ⟨b, o, rfl, hcs⟩ := (HIN.out.below (HBS.out wr HB.out)) (by omega)
      obtain ⟨p0, q0, d0, d1, d2, d3⟩ := hcs j hjl
      have hms := HMS.out wr (HLOW.out wr HB.out)
      have s0 := hms.sub
      have HDS : Hid (ds ++ (cs.take (j + 1)).flatMap (putC M) = (ds ++ (cs.take j).flatMap (putC M)) ++ putC M (cs.getD j Cel.none)) := by show _ = _; rw [flat_take M cs j hjl, List.append_assoc]
      have HONE : Hid (Calls Tryz.prog 38 #[.slice (some ⟨b, o + j * 3, none⟩) 1 (cq - j)] wr fun e w' => ∃ q m c2, e = .returned (.slice q m c2) ∧ OwnC w' wr.heap.size q m c2 [cs.getD j Cel.none] ∧ Below wr.heap.size wr w') := by
        have htl := HTX.out j hjl
        refine l2copy_any _ 1 _ [cs.getD j Cel.none] wr rfl (by simp only [tl, List.length_cons, List.length_nil]; omega) (CIn.part5 hcs j ⟨cs.drop (j + 1), ?_⟩)
        rw [List.drop_eq_getElem_cons hjl]; simp [List.getD, hjl]
      have HONE2 : Hid (Calls Tryz.prog 38 #[.slice (some ⟨b, o + j * 3, none⟩) 1 (cq - j)] wr.drew fun e w' => ∃ q m c2, e = .returned (.slice q m c2) ∧ OwnC w' wr.drew.heap.size q m c2 [cs.getD j Cel.none] ∧ Below wr.drew.heap.size wr.drew w') := by
        have htl := HTX.out j hjl
        refine l2copy_any _ 1 _ [cs.getD j Cel.none] wr.drew rfl (by simp only [tl, List.length_cons, List.length_nil]; omega) ((CIn.part5 hcs j ⟨cs.drop (j + 1), ?_⟩).below (below_drewU wr))
        rw [List.drop_eq_getElem_cons hjl]; simp [List.getD, hjl]
      clear hcs d3 d2
      by_cases hc0 : (cs.getD j Cel.none).1 = 0
      · rw [hc0] at d0
        have HIX := l5index_any sp sn sc bs (cs.getD j Cel.none).2.1 wr.drew HFS.out.1 (by have := HFS.out.2; omega) hms.bsr.up ((hms.lies.bdin hms.low).below (below_drewU wr))
        have HOd : Hid (OwnC wr.drew B rp m cr (ds ++ (cs.take j).flatMap (putC M))) := HO.out.below (below_drewU wr)
        have HBd : Hid (Below B w wr.drew) := HB.out.trans ((below_drewU wr).mono hBs)
        have hBd : B ≤ wr.drew.heap.size := hBs
        rcases hms.bsr.find (cs.getD j Cel.none).2.1 with ⟨k, u, hk, ef, hu, eu⟩ | ⟨ef, hu⟩
        · rw [ef] at HIX
          obtain ⟨sg, so, rfl, hbs⟩ := hms.lies (by omega)
          obtain ⟨qd, cd, y0, y1, y2, y3, y4⟩ := hbs k hk
          rw [eu] at y1 y2 y4
          have hput : putC M (cs.getD j Cel.none) = (tcs u).flatMap (putC M) := by
            unfold putC
            rw [if_pos hc0, hu]
            exact HU.out.2.1.full_flat u (HU.out.2.1.ok _ _ hu)
          rw [hput] at HDS
          have HREC := HVR.out j hjl hc0 u hu u qd (tcs u).length cd B wr.drew _ rp m cr (HU.out.2.1.ok _ _ hu) (HU.out.2.2 _ _ hu) ⟨rfl, y2, y3, y4⟩ (fun v hv _ => HU.out.1 _ _ hu v hv) (HLOW.out _ HBd.out) HMSB.out hBd HOd.out hm
          rw [← HDS.out] at HREC
          obtain ⟨ld, eld⟩ : ∃ l, l = (tcs u).length := ⟨_, rfl⟩
          rw [← eld] at y1 HREC
          have hkn : k < sn := by rw [HFS.out.1]; exact hk
          obtain ⟨vv, evv⟩ : ∃ v, v = (cs.getD j Cel.none).2.1 := ⟨_, rfl⟩
          rw [← evv] at d1 HIX
          have hsn : sn ≤ sc := hms.room
          have hsn2 : sn ≤ 20000 := HFS.out.2
          clear hbs y0 y2 y3 y4 hput eu hu ef eld evv hk hc0 HONE HONE2 hms
          go_wp2_with fail
          go_region_held3 (fun W => W = wr.drew) (rfl) ((go_at_call 37; refine HIX.mono ?_; rintro e w' ⟨rfl, rfl⟩))
          go_wp2_with fail
          refine HREC.mono ?_
          rintro e w3 ⟨hb3, ⟨hle, q3, m3, c3, rfl, ho3⟩ | ⟨hle, rfl⟩⟩
          · have HO3 : Hid (OwnC w3 B q3 m3 c3 (ds ++ (cs.take (j + 1)).flatMap (putC M))) := ho3
            have HB3 : Hid (Below B w w3) := HBd.out.trans hb3
            have hm3 : m3 ≤ 2000 := by rw [ho3.1]; exact hle
            clear ho3 hb3 HREC hle
            go_wp2_with fail
            go_roundw
            case rel => exact ⟨j + 1, _, m3, c3, by omega, hm3, by go_num, rfl, HO3, HB3⟩
            case measure => simp [intOf]; omega
          · have HF : Hid (WholeO B w (ds ++ (tcs t).flatMap (putC M)) (.returned (.tuple #[.slice none 0 0, .bool false])) w3) := HFIN3.out w3 (HBd.out.trans hb3) j hle
            clear hb3 HREC hle
            go_wp2_with fail
            go_ret2
            exact HF.out
        · rw [ef] at HIX
          have hput : putC M (cs.getD j Cel.none) = [cs.getD j Cel.none] := by
            unfold putC
            rw [if_pos hc0, hu]
          have HONED := HONE2.out
          rw [← hput] at HONED
          have HD1 : Hid ((putC M (cs.getD j Cel.none)).length = 1) := by show _ = _; rw [hput]; rfl
          obtain ⟨vv, evv⟩ : ∃ v, v = (cs.getD j Cel.none).2.1 := ⟨_, rfl⟩
          rw [← evv] at d1 HIX
          clear ef evv hc0 hput hu hms HONE HONE2
          have HONEd : Hid (Calls Tryz.prog 38 #[.slice (some ⟨b, o + j * 3, none⟩) 1 (cq - j)] wr.drew fun e w' => ∃ q m c2, e = .returned (.slice q m c2) ∧ OwnC w' wr.drew.heap.size q m c2 (putC M (cs.getD j Cel.none)) ∧ Below wr.drew.heap.size wr.drew w') := HONED
          go_wp2_with fail
          go_region_held3 (fun W => W = wr.drew) (rfl) ((go_at_call 37; refine HIX.mono ?_; rintro e w' ⟨rfl, rfl⟩))
          go_wp2_with fail
          refine HONEd.out.mono ?_
          rintro e w3 ⟨q3, m3, c3, rfl, ho3, hb3⟩
          obtain rfl : m3 = 1 := ho3.1.trans HD1.out
          have HO3 : Hid (OwnC w3 wr.drew.heap.size q3 1 c3 (putC M (cs.getD j Cel.none))) := ho3
          have HB3 : Hid (Below wr.drew.heap.size wr.drew w3) := hb3
          clear ho3 hb3 HONEd
          by_cases hbig : m + 1 ≤ 2000
          · go_wp2_with (at_builtin; refine app_cells wr.drew w3 rfl _ _ rfl B rp m cr _ rfl HOd.out HB3.out hBd q3 1 c3 _ rfl HO3.out (by decide) (by omega) ?_; intro g4 n4 cap4 w4 hown4 hb4 hn4; have hn4' : n4 ≤ 2000 := by have := hn4.out; omega)
            have HO4 : Hid (OwnC w4 B (some ⟨g4, 0, none⟩) n4 cap4 (ds ++ (cs.take (j + 1)).flatMap (putC M))) := by rw [HDS.out]; exact hown4
            have HB4 : Hid (Below B w w4) := (HBd.out.trans (HB3.out.mono hBd)).trans hb4
            clear hown4 hb4
            go_roundw
            case rel => exact ⟨j + 1, _, n4, cap4, by omega, hn4', by go_num, rfl, HO4, HB4⟩
            case measure => simp [intOf]; omega
          · go_wp2_with (at_builtin; refine app_cells wr.drew w3 rfl _ _ rfl B rp m cr _ rfl HOd.out HB3.out hBd q3 1 c3 _ rfl HO3.out (by decide) (by omega) ?_; intro g4 n4 cap4 w4 hown4 hb4 hn4; have hn4' : 2000 < n4 := by have := hn4.out; omega)
            go_ret2
            refine HFIN3.out w4 ((HBd.out.trans (HB3.out.mono hBd)).trans hb4) j ?_
            rw [HDS.out, ← hown4.1]; exact hn4'
      · have hput : putC M (cs.getD j Cel.none) = [cs.getD j Cel.none] := by
          unfold putC
          rw [if_neg hc0]
        rw [← hput] at HONE
        have HD1 : Hid ((putC M (cs.getD j Cel.none)).length = 1) := by show _ = _; rw [hput]; rfl
        obtain ⟨kd, ekd⟩ : ∃ v, v = (cs.getD j Cel.none).1 := ⟨_, rfl⟩
        rw [← ekd] at d0 hc0
        have hc0' : (kd == 0) = false := by simpa using hc0
        clear ekd hc0 d1 hput hms HONE2
        go_wp2_with fail
        refine HONE.out.mono ?_
        rintro e w3 ⟨q3, m3, c3, rfl, ho3, hb3⟩
        obtain rfl : m3 = 1 := ho3.1.trans HD1.out
        have HO3 : Hid (OwnC w3 wr.heap.size q3 1 c3 (putC M (cs.getD j Cel.none))) := ho3
        have HB3 : Hid (Below wr.heap.size wr w3) := hb3
        clear ho3 hb3 HONE
        by_cases hbig : m + 1 ≤ 2000
        · go_wp2_with (at_builtin; refine app_cells wr w3 rfl _ _ rfl B rp m cr _ rfl HO.out HB3.out hBs q3 1 c3 _ rfl HO3.out (by decide) (by omega) ?_; intro g4 n4 cap4 w4 hown4 hb4 hn4; have hn4' : n4 ≤ 2000 := by have := hn4.out; omega)
          have HO4 : Hid (OwnC w4 B (some ⟨g4, 0, none⟩) n4 cap4 (ds ++ (cs.take (j + 1)).flatMap (putC M))) := by rw [HDS.out]; exact hown4
          have HB4 : Hid (Below B w w4) := (HB.out.trans (HB3.out.mono hBs)).trans hb4
          clear hown4 hb4
          go_roundw
          case rel => exact ⟨j + 1, _, n4, cap4, by omega, hn4', by go_num, rfl, HO4, HB4⟩
          case measure => simp [intOf]; omega
        · go_wp2_with (at_builtin; refine app_cells wr w3 rfl _ _ rfl B rp m cr _ rfl HO.out HB3.out hBs q3 1 c3 _ rfl HO3.out (by decide) (by omega) ?_; intro g4 n4 cap4 w4 hown4 hb4 hn4; have hn4' : 2000 < n4 := by have := hn4.out; omega)
          go_ret2
          refine HFIN3.out w4 ((HB.out.trans (HB3.out.mono hBs)).trans hb4) j ?_
          rw [HDS.out, ← hown4.1]; exact hn4'
    · obtain rfl : j = n := by omega
      go_wp2_with fail
      go_ret2
      exact HFIN0.out _ _ _ _ HB.out HO.out hm
theorem whole_any (W0 Wp : World) (sb : Nat) (M : BM) (r : Int → Nat) (hac : Acyc M r) (hwf : WfU M) (hsm : ∀ x u, M x = some u → (tcs u).length ≤ 2000) (kk : Nat) (sp : Option Addr) (sn sc : Nat) (bs : List Bnd) (hs : MS W0 Wp sb M kk sp sn sc bs) (N : Nat) : WholeOk W0 Wp sb M r N := by
  induction N using Nat.strongRecOn with
  | _ N ih => exact whole_step W0 Wp sb M r hac hwf hsm kk sp sn sc bs hs N ih
end Go.Proofs.YtaakpdakeolgeaaGreat

