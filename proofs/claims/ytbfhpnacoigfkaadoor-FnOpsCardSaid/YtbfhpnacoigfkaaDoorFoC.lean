/- Texts of OpsPl, OpsCpP, OpsR4P, DefRP. Own work of the verifier. -/
import Derived.Test.YtbfhpnacoigfkaaDoorOpsR3
import Derived.Test.YtbfhpnacoigfkaaDoorOpsA
import Derived.Test.YtbfhpnacoigfkaaDoorL1c
import Derived.Test.YtbfhpnacoigfkaaDoorOpsM5
import Derived.Test.YtbfhpnacoigfkaaDoorOpsS3
import Derived.Test.YtbfhpnacoigfkaaDoorDefS
namespace Go.Proofs.YtbfhpnacoigfkaaDoor
open Go Go.RowKit
set_option linter.unusedVariables false

/-- The block of a text is as great as it says. -/
def RoomT (w : World) (p : Option Addr) (n c : Nat) : Prop := 0 < n → ∃ a cur, p = some a ∧ (∃ mk : Nat × Nat, w.heap[a.block]? = some (.cells cur 5 mk) ∧ (mk = (0, 0) ∨ c ≤ mk.1)) ∧ cur.size = c ∧ n ≤ c
theorem RoomT.below {w w' : World} {p : Option Addr} {n c : Nat} (h : RoomT w p n c) (hb : Below w.heap.size w w') : RoomT w' p n c := fun hn => by
  obtain ⟨a, cur, e1, e2, e3, e4⟩ := h hn
  obtain ⟨mk, e2, e5⟩ := e2
  exact ⟨a, cur, e1, ⟨mk, (hb.block _ (Array.getElem?_eq_some_iff.1 e2).1).trans e2, e5⟩, e3, e4⟩
theorem OwnS.room {w : World} {B : Nat} {p : Option Addr} {n c : Nat} {ys : List Int} (h : OwnS w B p n c ys) : RoomT w p n c := fun hn => by
  rcases h.2.2 with ⟨_, h0⟩ | ⟨g, cap, cur, hv, _, hg, h1, _, h2, _⟩
  · omega
  · simp only [Value.slice.injEq, true_and] at hv
    obtain ⟨rfl, rfl⟩ := hv
    exact ⟨_, cur, rfl, ⟨_, hg, .inl rfl⟩, by omega, h1⟩
theorem conv_room (w : World) (xs : List Int) (c : Nat) (hc : c = grownCap w (strOfNums xs).size 0 5) : RoomT (Lib.bytesWorld w 5 (strOfNums xs)) (some ⟨w.heap.size, 0, none⟩) xs.length c := fun hn => by
  have hge := grownCap_ge w (strOfNums xs).size 0 5
  have hsz : (Lib.bytesCells w 5 (strOfNums xs)).size = c := by
    simp only [Lib.bytesCells, Array.size_append, Array.size_map, Array.size_replicate]
    have : (strOfNums xs).data.size = (strOfNums xs).size := rfl
    omega
  refine ⟨_, Lib.bytesCells w 5 (strOfNums xs), rfl, ⟨_, Lib.bytesWorld_at_new w 5 (strOfNums xs), .inr ?_⟩, hsz, ?_⟩
  · show c ≤ _
    omega
  · rw [strOfNums_size] at hge hc; omega
theorem conv_bytesP (w : World) (xs : List Int) (hx : Byte xs) (src : TypeId) (hsrc : Tryd.prog.underlying src = some .string) :
    ∃ w' cap, (convert src 27 (.string (strOfNums xs))).run Tryd.prog w = .ok (.slice (some ⟨w.heap.size, 0, none⟩) xs.length cap) w' ∧ Below w.heap.size w w' ∧ OwnT w' w.heap.size (some ⟨w.heap.size, 0, none⟩) xs.length cap xs ∧ RoomT w' (some ⟨w.heap.size, 0, none⟩) xs.length cap := by
  obtain ⟨w', cap, h1, h2, h3⟩ := conv_bytes w xs hx src hsrc
  have h4 := Lib.run_convert_string_bytes w src 27 5 (strOfNums xs) hsrc Tryd.underlying27 Tryd.underlying5
  rw [h1] at h4
  simp only [Result.ok.injEq, Value.slice.injEq, true_and] at h4
  obtain ⟨⟨_, hc⟩, hw⟩ := h4
  refine ⟨w', cap, h1, h2, h3, ?_⟩
  rw [hw]
  exact conv_room w xs cap hc
def OwnP (w : World) (B : Nat) (p : Option Addr) (n c : Nat) (cs : List Cel) : Prop :=
  n = cs.length ∧ ∃ rs : List RC, rs.length = cs.length ∧ w.ownsRow B 39 3 (.slice p n c) n (flatO rs) ∧ (∀ i, i < cs.length → Fits w B (rs.getD i RC.zero) (cs.getD i Cel.none)) ∧ ApartC p rs ∧ ∀ r ∈ rs, RoomT w r.2.2.1 r.2.2.2.1 r.2.2.2.2
theorem OwnP.toO {w : World} {B : Nat} {p : Option Addr} {n c : Nat} {cs : List Cel} (h : OwnP w B p n c cs) : OwnO w B p n c cs := by
  obtain ⟨hn, rs, hl, hr, hf, ha, _⟩ := h
  exact ⟨hn, rs, hl, hr, hf, ha⟩
theorem OwnP.nil (w : World) (B : Nat) : OwnP w B none 0 0 [] := ⟨rfl, [], rfl, World.ownsRow_nil _ _ _ _, fun i h => by simp at h, ⟨fun i h => by simp at h, fun i j h => by simp at h⟩, fun r h => by cases h⟩
theorem OwnP.below {w w' : World} {B : Nat} {p : Option Addr} {n c : Nat} {cs : List Cel} (h : OwnP w B p n c cs) (hb : Below w.heap.size w w') : OwnP w' B p n c cs := by
  obtain ⟨hn, rs, hl, hr, hf, ha, hroom⟩ := h
  exact ⟨hn, rs, hl, row_below hr hb, fun i hi => ⟨(hf i hi).1, (hf i hi).2.1, (hf i hi).2.2.below hb⟩, ha, fun r hr' => (hroom r hr').below hb⟩
theorem OwnP.mono {w : World} {B B' : Nat} {p : Option Addr} {n c : Nat} {cs : List Cel} (h : OwnP w B p n c cs) (hB : B' ≤ B) : OwnP w B' p n c cs := by
  obtain ⟨hn, rs, hl, hr, hf, ha, hroom⟩ := h
  exact ⟨hn, rs, hl, ownsRow_down hr hB, fun i hi => ⟨(hf i hi).1, (hf i hi).2.1, (hf i hi).2.2.mono hB⟩, ha, hroom⟩
/-- A block below B turns, no other. -/
theorem OwnP.keep {w w' : World} {B R : Nat} {p : Option Addr} {n c : Nat} {cs : List Cel} (h : OwnP w B p n c cs) (k : Keep R (R + 1) w w') (hR : R < B) : OwnP w' B p n c cs := by
  obtain ⟨hn, rs, hl, hr, hf, ha, hroom⟩ := h
  have hblk : ∀ g, B ≤ g → g < w.heap.size → w'.heap[g]? = w.heap[g]? := fun g h1 h2 => k.block g h2 (.inr (by omega))
  refine ⟨hn, rs, hl, ⟨hr.1, ?_⟩, fun i hi => ⟨(hf i hi).1, (hf i hi).2.1, (hf i hi).2.2.other k.size (fun g hn0 e => ?_)⟩, ha, fun r hr' hp => ?_⟩
  · rcases hr.2 with h' | ⟨g, cap, cur, hv, hB, hg, r⟩
    · exact .inl h'
    · exact .inr ⟨g, cap, cur, hv, hB, (hblk g hB (Array.getElem?_eq_some_iff.1 hg).1).trans hg, r⟩
  · obtain ⟨g', e', h1, h2, _⟩ := (hf i hi).2.2.2 hn0
    rw [e] at e'
    obtain rfl := congrArg Addr.block (Option.some.inj e')
    exact hblk _ h1 h2
  · obtain ⟨a, cur, e1, e2, e3, e4⟩ := hroom r hr' hp
    obtain ⟨i, hi, rfl⟩ := List.getElem_of_mem hr'
    have e : rs.getD i RC.zero = rs[i] := by rw [List.getD, List.getElem?_eq_getElem hi]; rfl
    have hfi := (hf i (by omega)).2.2
    rw [e] at hfi
    obtain ⟨g', e', h1, h2, _⟩ := hfi.2 hp
    rw [e1] at e'
    obtain rfl := Option.some.inj e'
    obtain ⟨mk, e2, e6⟩ := e2
    exact ⟨_, cur, e1, ⟨mk, (hblk _ h1 h2).trans e2, e6⟩, e3, e4⟩
def OwnOutP (w : World) (B : Nat) (r : List Cel) (e : Ending) (w' : World) : Prop := ∃ p n c, e = .returned (.slice p n c) ∧ OwnP w' B p n c r ∧ Below w.heap.size w w'

theorem ownP_grew {W0 w w' : World} {B g n cap cp : Nat} {p : Option Addr} {cs : List Cel} {rs : List RC} (hn : n = cs.length) (hl : rs.length = cs.length) (hr0 : W0.ownsRow B 39 3 (.slice p n cp) n (flatO rs))
    (hf : ∀ i, i < cs.length → Fits W0 B (rs.getD i RC.zero) (cs.getD i Cel.none)) (ha : ApartC p rs) (hroom : ∀ r ∈ rs, RoomT W0 r.2.2.1 r.2.2.2.1 r.2.2.2.2) (hb0 : Below W0.heap.size W0 w) (hB : B ≤ W0.heap.size)
    {kd nn : Int} {tp : Option Addr} {tn tc : Nat} {t : List Int} (ht : OwnT w W0.heap.size tp tn tc t) (hrt : RoomT w tp tn tc)
    (hr : w'.ownsRow B 39 3 (.slice (some ⟨g, 0, none⟩) (n + 1) cap) (n + 1) (flatO rs ++ roV (kd, nn, tp, tn, tc))) (hg : w.grownBy w' (Value.ownBlock (.slice p n cp))) (hat : Value.ownBlock (.slice p n cp) = some g ∨ g = w.heap.size) :
    OwnP w' B (some ⟨g, 0, none⟩) (n + 1) cap (cs ++ [(kd, nn, t)]) := by
  have hown : ∀ k, Value.ownBlock (.slice p n cp) = some k → p = some ⟨k, 0, none⟩ ∧ k < W0.heap.size := fun k hk => by
    rcases hr0.2 with ⟨hv, _⟩ | ⟨g', cap', cur, hv, hb, hg', _⟩
    · simp only [Value.slice.injEq] at hv; rw [hv.1] at hk; simp [Value.ownBlock] at hk
    · simp only [Value.slice.injEq] at hv
      rw [hv.1] at hk ⊢
      simp [Value.ownBlock] at hk
      subst hk
      exact ⟨rfl, (Array.getElem?_eq_some_iff.1 hg').1⟩
  have hold : ∀ i, i < cs.length → OwnT w B (rs.getD i RC.zero).2.2.1 (rs.getD i RC.zero).2.2.2.1 (rs.getD i RC.zero).2.2.2.2 (cs.getD i Cel.none).2.2 := fun i hi => (hf i hi).2.2.below hb0
  have hlow : ∀ i, i < cs.length → 0 < (rs.getD i RC.zero).2.2.2.1 → ∃ k, (rs.getD i RC.zero).2.2.1 = some ⟨k, 0, none⟩ ∧ k < W0.heap.size := fun i hi hp => by
    obtain ⟨k, e, _, hlt, _⟩ := (hf i hi).2.2.2 hp
    exact ⟨k, e, hlt⟩
  have hhigh : 0 < tn → ∃ k, tp = some ⟨k, 0, none⟩ ∧ W0.heap.size ≤ k ∧ k < w.heap.size := fun hp => by
    obtain ⟨k, e, h1, h2, _⟩ := ht.2 hp
    exact ⟨k, e, h1, h2⟩
  have hnewg : g < W0.heap.size ∨ g = w.heap.size := by
    rcases hat with h | h
    · exact .inl (hown g h).2
    · exact .inr h
  refine ⟨by simp; omega, rs ++ [(kd, nn, tp, tn, tc)], by simp; omega, by rw [flatO_append, flatO_one]; exact hr, fun i hi => ?_, ⟨fun i hi hp => ?_, fun i j hi hj hij hpi hpj => ?_⟩, fun r hr0 hp => ?_⟩
  · have hi' : i ≤ cs.length := by simp at hi; omega
    rw [rs_append_at _ _ _ (by omega), cs_append_at _ _ _ hi']
    by_cases e : i = cs.length
    · rw [if_pos (by omega), if_pos e]
      refine ⟨rfl, rfl, (ht.mono hB).other hg.size (fun k hn0 e' => ?_)⟩
      obtain ⟨k', e'', h1, h2⟩ := hhigh hn0
      have hkk : k = k' := by
        have := e'.symm.trans e''
        exact congrArg Addr.block (Option.some.inj this)
      refine hg.block k (by omega) (fun hk => ?_)
      have := (hown k hk.symm).2
      omega
    · rw [if_neg (by omega), if_neg e]
      refine ⟨(hf i (by omega)).1, (hf i (by omega)).2.1, (hold i (by omega)).other hg.size (fun k hn0 e' => ?_)⟩
      obtain ⟨k', e'', h1⟩ := hlow i (by omega) hn0
      have hkk : k = k' := congrArg Addr.block (Option.some.inj (e'.symm.trans e''))
      refine hg.block k (by have := hb0.size; omega) (fun hk => ?_)
      exact ha.1 i (by omega) hn0 (by rw [e', (hown k hk.symm).1])
  · have hi' : i ≤ rs.length := by simp at hi; omega
    rw [rs_append_at _ _ _ hi'] at hp ⊢
    by_cases e : i = rs.length
    · rw [if_pos e] at hp ⊢
      obtain ⟨k', e'', h1, h2⟩ := hhigh hp
      rw [show ((kd, nn, tp, tn, tc) : RC).2.2.1 = tp from rfl, e'']
      exact ne_block (by omega) hp
    · rw [if_neg e] at hp ⊢
      obtain ⟨k', e'', h1⟩ := hlow i (by omega) hp
      rcases hat with h | h
      · rw [← (hown g h).1]
        exact ha.1 i (by omega) hp
      · rw [e'']
        exact ne_block (by have := hb0.size; omega) hp
  · have hi' : i ≤ rs.length := by simp at hi; omega
    have hj' : j ≤ rs.length := by simp at hj; omega
    rw [rs_append_at _ _ _ hi'] at hpi ⊢
    rw [rs_append_at _ _ _ hj'] at hpj ⊢
    by_cases e : i = rs.length
    · rw [if_pos e] at hpi ⊢
      rw [if_neg (by omega)] at hpj ⊢
      obtain ⟨k', e'', h1, h2⟩ := hhigh hpi
      obtain ⟨k2, e2, h3⟩ := hlow j (by omega) hpj
      rw [show ((kd, nn, tp, tn, tc) : RC).2.2.1 = tp from rfl, e'', e2]
      exact ne_block (by omega) hpi
    · rw [if_neg e] at hpi ⊢
      by_cases e' : j = rs.length
      · rw [if_pos e'] at hpj ⊢
        obtain ⟨k', e'', h1, h2⟩ := hhigh hpj
        obtain ⟨k2, e2, h3⟩ := hlow i (by omega) hpi
        rw [show ((kd, nn, tp, tn, tc) : RC).2.2.1 = tp from rfl, e'', e2]
        exact ne_block (by omega) hpi
      · rw [if_neg e'] at hpj ⊢
        exact ha.2 i j (by omega) (by omega) hij hpi hpj
  · rcases List.mem_append.1 hr0 with h | h
    · obtain ⟨i, hi, rfl⟩ := List.getElem_of_mem h
      have e : rs.getD i RC.zero = rs[i] := by rw [List.getD, List.getElem?_eq_getElem hi]; rfl
      obtain ⟨ad, cur, e1, e2, e3, e4⟩ := hroom _ h hp
      obtain ⟨k, e5, hk⟩ := hlow i (by omega) (by rw [e]; exact hp)
      rw [e, e1] at e5
      obtain rfl := Option.some.inj e5
      obtain ⟨mk, e2, e6⟩ := e2
      refine ⟨_, cur, e1, ⟨mk, ?_, e6⟩, e3, e4⟩
      refine ((hg.block k (by have := hb0.size; omega) (fun hk' => ?_)).trans (hb0.block k hk)).trans e2
      exact ha.1 i hi (by rw [e]; exact hp) (by rw [e, e1, (hown k hk'.symm).1])
    · rw [List.mem_singleton] at h
      subst h
      obtain ⟨ad, cur, e1, e2, e3, e4⟩ := hrt hp
      obtain ⟨k, e5, h1, h2⟩ := hhigh hp
      have e1' : tp = some ad := e1
      rw [e1'] at e5
      obtain rfl := Option.some.inj e5
      obtain ⟨mk, e2, e6⟩ := e2
      refine ⟨_, cur, e1, ⟨mk, (hg.block k h2 (fun hk' => ?_)).trans e2, e6⟩, e3, e4⟩
      have := (hown k hk'.symm).2
      omega

/-- The same at a step of a region that draws its order. -/
theorem step_app_opP (W0 w : World) {ops : Array Oper} {o : Oper} {a : Act} {K : Act → World → Prop} {Q : Exit → Act → World → Prop} {E : Prop} (hgd : o.guard = none) (s x : Operand)
    (ho : o.op = .call { callee := .builtin .append, args := #[s, x], argTypes := #[22, 22] }) (B : Nat) (p : Option Addr) (n c : Nat) (cs : List Cel)
    (hs : a.eval s = .slice p n c) (hown : OwnP W0 B p n c cs) (hb0 : Below W0.heap.size W0 w) (hB : B ≤ W0.heap.size) (ad : Addr) (c' : Nat) (hx : a.eval x = .slice (some ad) 1 c') (kd nn : Int) (tp : Option Addr) (tn tc : Nat) (t : List Int)
    (ht : OwnT w W0.heap.size tp tn tc t) (hrt : RoomT w tp tn tc) (hnews : ∀ j u, (roV (kd, nn, tp, tn, tc))[j]? = some u → w.cell? (ad.add j) = some u) (hlen : n + 1 ≤ 1000000000)
    (h : ∀ g n' cap w', OwnP w' B (some ⟨g, 0, none⟩) n' cap (cs ++ [(kd, nn, t)]) → Below B w w' → Hid (n' = n + 1) → K (a.put o.dst (.slice (some ⟨g, 0, none⟩) n' cap)) w') :
    if Region.wanted o (yielded ops a.tmps) = true then Oper.wp Tryd.prog o a w K Q else E := by
  obtain ⟨i0, hi, hz0, hz1, hz2⟩ := info_parts infoOp
  obtain ⟨hn, rs, hl, hr, hf, ha, hroom⟩ := hown
  refine step_append_lies w hgd s x 22 ho B 39 i0 (.agg #[.slice none 0 0, .int .i64 0, .int .i64 0]) 3 40 Tryd.underlying22 hi hz0 hz1 hz2 rfl (by decide) (.slice p n c) n (flatO rs) hs (row_below hr hb0) ad 1 c' (roV (kd, nn, tp, tn, tc)) hx rfl hnews (roV_one _) (by decide) (by unfold maxLen; omega) (by omega) (Nat.le_trans hB hb0.size) w.heap.size rfl ?_
  intro g cap w' hown' hgrow hat hlt
  refine h g _ cap w' (ownP_grew hn hl hr hf ha hroom hb0 hB ht hrt hown' hgrow hat) ((Below.refl _ _).grown hgrow (Nat.le_trans hB hb0.size) (fun k hk => ?_)) rfl
  exact (hr.lt k hk).1

theorem OwnP.rows {w : World} {B : Nat} {p : Option Addr} {n c : Nat} {cs : List Cel} (h : OwnP w B p n c cs) : ∃ rs, OInR w p cs rs ∧ (∀ r ∈ rs, RoomT w r.2.2.1 r.2.2.2.1 r.2.2.2.2 ∧ ∃ ys, OwnT w B r.2.2.1 r.2.2.2.1 r.2.2.2.2 ys ∧ ∀ k, tb r.2.2.1 r.2.2.2.1 = some k → k < w.heap.size) ∧ rs.Pairwise Apart2 := by
  obtain ⟨hn, rs, hl, hr, hf, ha, hroom⟩ := h
  refine ⟨rs, ⟨hl, fun h0 => ?_⟩, fun r hr' => ?_, apart_pair ha⟩
  · subst hn
    obtain ⟨g, cap, hv, hb, hg⟩ := hr.form h0
    simp only [Value.slice.injEq, true_and] at hv
    obtain ⟨rfl, rfl⟩ := hv
    refine ⟨g, 0, rfl, fun i hi => ?_⟩
    obtain ⟨f0, f1, f2⟩ := hf i hi
    obtain ⟨a0, a1, a2⟩ := flatO_at rs i (by omega)
    rw [Nat.zero_add]
    refine ⟨(rs.getD i RC.zero).2.2.1, (rs.getD i RC.zero).2.2.2.2, ?_, ?_, ?_, ?_, f2.bin⟩
    · rw [← f0, ← f1, ← f2.1]
    · rw [hr.cellAt _ (by omega), a0, f0]
    · rw [hr.cellAt _ (by omega), a1, f1]
    · rw [hr.cellAt _ (by omega), a2, f2.1]
  · obtain ⟨i, hi, rfl⟩ := List.getElem_of_mem hr'
    have e : rs.getD i RC.zero = rs[i] := by rw [List.getD, List.getElem?_eq_getElem hi]; rfl
    have := hf i (by omega)
    rw [e] at this
    exact ⟨hroom _ hr', _, this.2.2, fun k hk => (this.2.2.tb hk).2.2⟩

theorem l3put_ownP (p : Option Addr) (c n B : Nat) (cs : List Cel) (k0 t0 : Int) (q : Option Addr) (l cq : Nat) (xs : List Int) (w0 w : World) (hn : n ≤ 1000000) (hown : OwnP w0 B p n c cs) (hb0 : Below w0.heap.size w0 w) (hx : OwnT w w0.heap.size q l cq xs) (hroom : RoomT w q l cq) (hBU : B ≤ w0.heap.size) :
    Calls Tryd.prog 16 #[.slice p n c, .agg #[.slice q l cq, .int .i64 k0, .int .i64 t0]] w (OwnOutP w B (putO cs (k0, t0, xs))) := by
  have hBw : B ≤ w.heap.size := Nat.le_trans hBU hb0.size
  obtain ⟨rs, hin0, hrs0, hpw⟩ := hown.rows
  have hin : OInR w p cs rs := hin0.below hb0
  have hrs : ∀ r ∈ rs, RoomT w r.2.2.1 r.2.2.2.1 r.2.2.2.2 ∧ ∃ ys, OwnT w B r.2.2.1 r.2.2.2.1 r.2.2.2.2 ys ∧ ∀ k, tb r.2.2.1 r.2.2.2.1 = some k → k < w0.heap.size := fun r hr => by
    obtain ⟨h0, ys, h1, h2⟩ := hrs0 r hr
    exact ⟨h0.below hb0, ys, h1.below hb0, h2⟩
  refine (l3putR_any p c n cs k0 t0 q l cq xs w hown.1 hx.1 hn rs hin hx.bin).mono ?_
  rintro e w' ⟨p1, n1, c1, rp, rfl, ⟨hn1, hl1, hr1, hf1⟩, hput, hb⟩
  have hmem : ∀ r ∈ rp, ∃ ys, OwnT w B r.2.2.1 r.2.2.2.1 r.2.2.2.2 ys := by
    intro r hr
    rcases hput.mem hr with rfl | hr
    · refine ⟨xs, hx.1, fun h0 => ?_⟩
      obtain ⟨g, e, h1, h2⟩ := hx.2 h0
      exact ⟨g, e, Nat.le_trans hBU h1, h2⟩
    · obtain ⟨_, ys, h1, _⟩ := hrs r hr
      exact ⟨ys, h1⟩
  have hat : ∀ i, i < rp.length → rp.getD i RC.zero ∈ rp := fun i hi => by rw [List.getD, List.getElem?_eq_getElem hi]; exact List.getElem_mem hi
  refine ⟨p1, n1, c1, rfl, ⟨hn1, rp, hl1, ownsRow_down hr1 (by omega), fun i hi => ?_, ⟨fun i hi h0 e => ?_, pair_apart (hput.pair hpw ?_)⟩, fun r hr => ?_⟩, hb⟩
  · obtain ⟨f0, f1, f2, f3, f4⟩ := hf1 i hi
    obtain ⟨ys, hy⟩ := hmem _ (hat i (by omega))
    exact ⟨f0, f1, hy.again hb f3 f2⟩
  · obtain ⟨ys, hy⟩ := hmem _ (hat i hi)
    obtain ⟨g, e', h1, h2, _⟩ := hy.2 h0
    have hnz : 0 < n1 := by omega
    obtain ⟨g1, cap, hv, hB1, hlt⟩ := hr1.form hnz
    simp only [Value.slice.injEq] at hv
    rw [e', hv.1] at e
    simp only [Option.some.injEq, Addr.mk.injEq, and_true] at e
    omega
  · intro r hr h1 h2 e
    obtain ⟨_, ys, _, h4⟩ := hrs r hr
    obtain ⟨g, eg, hU, _⟩ := hx.2 h2
    have h5 : tb r.2.2.1 r.2.2.2.1 = some g := by rw [e]; show tb q _ = some g; rw [eg]; exact tb_of h1
    have := h4 g h5
    omega
  · rcases hput.mem hr with rfl | hr
    · exact hroom.below hb
    · exact (hrs r hr).1.below hb

end Go.Proofs.YtbfhpnacoigfkaaDoor

namespace Go.Proofs.YtbfhpnacoigfkaaDoor
open Go Go.RowKit
set_option linter.unusedVariables false

set_option maxRecDepth 100000 in
set_option maxHeartbeats 2000000 in
theorem l3copyP_any (p : Option Addr) (n c : Nat) (cs : List Cel) (w : World) (hn : n = cs.length) (hl : cs.length + tl cs ≤ 10000000) (hin : OIn w p cs) :
    Calls Tryd.prog 33 #[.slice p n c] w fun e w' => ∃ q m c2, e = .returned (.slice q m c2) ∧ OwnP w' w.heap.size q m c2 cs ∧ Below w.heap.size w w' := by
  have HI : Hid (OIn w p cs) := hin
  have HN : Hid (n = cs.length) := hn
  have hnl : n ≤ 10000000 := by omega
  clear hin hn
  go_enter Tryd.func33, Tryd.ntmps33
  go_wp2_with fail
  go_loopw [3, 4] (fun s i wr => ∃ (j : Nat) (q : Option Addr) (m c2 : Nat), j ≤ n ∧ m = j ∧ i = .int .i64 j ∧ s = .slice q m c2 ∧ Hid (OwnP wr w.heap.size q m c2 (cs.take j)) ∧ Hid (Below w.heap.size w wr)) (fun _ i _ => n - (intOf i).toNat)
  case atStart => exact ⟨0, none, 0, 0, Nat.zero_le _, rfl, rfl, rfl, OwnP.nil _ _, Below.refl _ _⟩
  case round =>
    obtain ⟨j, q, m, c2, hj, rfl, rfl, rfl, HO, HB⟩ := hrel
    by_cases hlt : m < n
    · have hjl : m < cs.length := by rw [← HN.out]; exact hlt
      obtain ⟨b, o, rfl, hcs⟩ := HI.out (by omega)
      obtain ⟨p0, q0, d0, d1, d2, d3⟩ := (hcs m hjl).below HB.out
      have hbw : b < w.heap.size := World.block_lt_of_cell? _ _ (hcs m hjl).choose_spec.choose_spec.1
      have HBW : Hid (b < w.heap.size) := hbw
      have htl := tl_at cs m hjl
      have HX : Hid (cs.take m ++ [((cs.getD m Cel.none).1, (cs.getD m Cel.none).2.1, (cs.getD m Cel.none).2.2)] = cs.take (m + 1)) := by
        show _ = _
        rw [List.take_succ_eq_append_getElem hjl, List.getD, List.getElem?_eq_getElem hjl]; rfl
      obtain ⟨xs, exs⟩ : ∃ x, x = (cs.getD m Cel.none).2.2 := ⟨_, rfl⟩
      obtain ⟨c0, e0⟩ : ∃ x, x = (cs.getD m Cel.none).1 := ⟨_, rfl⟩
      obtain ⟨c1, e1⟩ : ∃ x, x = (cs.getD m Cel.none).2.1 := ⟨_, rfl⟩
      rw [← e0] at d0 HX
      rw [← e1] at d1 HX
      rw [← exs] at d2 d3 HX htl
      obtain ⟨t, et⟩ : ∃ t, t = xs.length := ⟨_, rfl⟩
      rw [← et] at d2
      have HCP : Hid (∀ k, Calls Tryd.prog 34 #[.slice p0 t q0] (wr.drewN k) fun e w' => ∃ p' n' c', e = .returned (.slice p' n' c') ∧ OwnS w' wr.heap.size p' n' c' xs ∧ Below wr.heap.size (wr.drewN k) w') := fun k => l1copy_all p0 t q0 xs (wr.drewN k) et (by omega) d3
      have hB : w.heap.size ≤ wr.heap.size := HB.out.size
      clear hcs htl exs e0 e1 et d3 hbw
      go_wp2_with fail
      go_region_held3 (fun W => W.cell? ⟨b, o + m * 3 + 1, none⟩ = some (.int .i64 c0) ∧ W.cell? ⟨b, o + m * 3 + 2, none⟩ = some (.int .i64 c1) ∧ W.cell? ⟨b, o + m * 3, none⟩ = some (.slice p0 t q0))
        (first | exact kk | go_keep)
        (first
          | (go_at_call 34; refine (HCP.out 1).mono ?_; rintro e w1 ⟨p1, n1, c1', rfl, ho1, hb1⟩; have kk : w1.cell? ⟨b, o + m * 3 + 1, none⟩ = some (.int .i64 c0) ∧ w1.cell? ⟨b, o + m * 3 + 2, none⟩ = some (.int .i64 c1) ∧ w1.cell? ⟨b, o + m * 3, none⟩ = some (.slice p0 t q0) := ⟨(hb1.cell (World.block_lt_of_cell? wr _ d0)).trans d0, (hb1.cell (World.block_lt_of_cell? wr _ d1)).trans d1, (hb1.cell (World.block_lt_of_cell? wr _ d2)).trans d2⟩)
          | (refine step_app_opP wr _ rfl _ _ rfl w.heap.size q m c2 (cs.take m) rfl HO.out (((below_drewN (Below.refl _ wr) 1).trans hb1).alloc hb1.size _) hB ⟨w1.heap.size, 0, none⟩ 1 rfl c0 c1 p1 n1 c1' xs (ho1.toT.below ((Below.refl _ _).alloc (Nat.le_refl _) _)) (ho1.room.below ((Below.refl _ _).alloc (Nat.le_refl _) _)) (news_ro (Box3.of_block (t := 39) (heap_alloc_new _ _))) (by omega) ?_; intro g n' cap w5 hown5 hb5 hn5; have kk : w5.cell? ⟨b, o + m * 3 + 1, none⟩ = some (.int .i64 c0) ∧ w5.cell? ⟨b, o + m * 3 + 2, none⟩ = some (.int .i64 c1) ∧ w5.cell? ⟨b, o + m * 3, none⟩ = some (.slice p0 t q0) := ⟨(hb5.cell HBW.out).trans (Lib.cell?_alloc_marked _ kk.1), (hb5.cell HBW.out).trans (Lib.cell?_alloc_marked _ kk.2.1), (hb5.cell HBW.out).trans (Lib.cell?_alloc_marked _ kk.2.2)⟩))
      have HO5 : Hid (OwnP w5 w.heap.size (some ⟨g, 0, none⟩) n' cap (cs.take (m + 1))) := by rw [← HX.out]; exact hown5
      have HB5 : Hid (Below w.heap.size w w5) := ((HB.out.trans (((below_drewN (Below.refl _ wr) 1).trans hb1).mono hB)).alloc (Nat.le_trans hB hb1.size) _).trans hb5
      have HN5 : Hid (n' = m + 1) := hn5.out
      clear hown5 hb5 hn5 kk ho1 hb1 d0 d1 d2
      go_wp2_with fail
      go_roundw
      case rel => exact ⟨m + 1, _, _, _, by omega, HN5.out, by go_num, rfl, HO5, HB5⟩
      case measure => simp [intOf]; omega
    · obtain rfl : m = n := by omega
      go_wp2_with fail
      go_ret
      refine ⟨_, _, _, rfl, ?_, HB.out⟩
      have := HO.out
      rwa [List.take_of_length_le (by rw [← HN.out]; exact Nat.le_refl _)] at this

end Go.Proofs.YtbfhpnacoigfkaaDoor

namespace Go.Proofs.YtbfhpnacoigfkaaDoor
open Go Go.RowKit
set_option linter.unusedVariables false

def SpecP (w : World) (r : List Cel × Int) (e : Ending) (w' : World) : Prop := ∃ p n c, e = .returned (.tuple #[.slice p n c, .int .i64 r.2]) ∧ OwnP w' w.heap.size p n c r.1 ∧ Below w.heap.size w w'
theorem SpecP.code {w w' : World} {r : List Cel × Int} {k : Int} (h : r = ([], k)) (hb : Below w.heap.size w w') : SpecP w r (.returned (.tuple #[.slice none 0 0, .int .i64 k])) w' := ⟨none, 0, 0, by rw [h], by rw [h]; exact OwnP.nil _ _, hb⟩

set_option maxRecDepth 100000 in
set_option maxHeartbeats 6000000 in
theorem specAddP_any (p : Option Addr) (c : Nat) (cs : List Cel) (k n : Int) (q : Option Addr) (cq : Nat) (xs : List Int) (w : World) (hn : cs.length + tl cs ≤ 10000000) (hin : OIn w p cs) (hxl : xs.length ≤ 10000000) (hx : BIn w q xs) :
    Calls Tryd.prog 11 #[.slice p cs.length c, .int .i64 k, .int .i64 n, .slice q xs.length cq] w (SpecP w (addR cs k n xs)) := by
  have HV := specTab_any p c cs w (by omega) hin
  have HIN : Hid (OIn w p cs) := hin
  have HX : Hid (BIn w q xs) := hx
  have HCV : Hid (∀ W, Below w.heap.size w W → (convert 27 9 (.slice q xs.length cq)).run Tryd.prog W = .ok (.string (strOfNums xs)) W) := fun W hB => conv_str (hx.below hB) xs.length cq rfl 9 Tryd.underlying9
  have HRS : Hid (∀ W, Below w.heap.size w W → Calls Tryd.prog 29 #[.slice q xs.length cq] W fun e w' => e = .returned (.bool (resB (strOfNums xs))) ∧ w' = W) := fun W hB => l3special_any q xs.length cq xs W rfl (hx.below hB)
  have HCP : Hid (∀ W, Below w.heap.size w W → Calls Tryd.prog 33 #[.slice p cs.length c] W fun e w' => ∃ q m c2, e = .returned (.slice q m c2) ∧ OwnP w' W.heap.size q m c2 cs ∧ Below W.heap.size W w') := fun W hB => l3copyP_any p cs.length c cs W rfl hn (hin.below hB)
  have HC1 : Hid (∀ W, Below w.heap.size w W → Calls Tryd.prog 34 #[.slice q xs.length cq] W fun e w' => ∃ p' n' c', e = .returned (.slice p' n' c') ∧ OwnS w' W.heap.size p' n' c' xs ∧ Below W.heap.size W w') := fun W hB => l1copy_all q xs.length cq xs W rfl hxl (hx.below hB)
  have HB1 : Hid (argB cs k n xs.length = (tabB cs && (decide (1 ≤ xs.length ∧ xs.length ≤ 100) && (decide (0 ≤ k ∧ k ≤ 1200) && decide (0 ≤ n ∧ n ≤ 6))))) := rfl
  have BAD : Hid (∀ W, argB cs k n xs.length = false → Below w.heap.size w W → SpecP w (addR cs k n xs) (.returned (.tuple #[.slice none 0 0, .int .i64 1])) W) := fun W h hb => SpecP.code (by rw [addR, if_pos h]) hb
  obtain ⟨l, el⟩ : ∃ l, l = xs.length := ⟨_, rfl⟩
  rw [← el] at HCV HRS HC1 HB1 BAD hxl ⊢
  have HL : Hid (l = xs.length) := el
  clear hin hx el
  cases g1 : tabB cs with
  | false =>
    rw [g1] at HV HB1
    clear g1
    have HBB : Hid (argB cs k n l = false) := by show _ = _; rw [HB1.out]; rfl
    go_enter Tryd.func11, Tryd.ntmps11
    go_wp2_with (first | (go_at_call 28; refine HV.mono ?_; rintro e w1 ⟨rfl, hb1⟩))
    go_ret2
    exact BAD.out _ HBB.out hb1
  | true =>
    rw [g1] at HV HB1
    have G1 : Hid (tabB cs = true) := g1
    clear g1
    have HFD : Hid (∀ W, Below w.heap.size w W → Calls Tryd.prog 30 #[.slice p cs.length c, .slice q l cq, .bool false] W fun e w' => e = .returned (.int .i64 (fIdx (strOfNums xs).toList false 0 cs)) ∧ ∃ m, w' = W.drewN m) := fun W hB => l3find_any p c cs q l cq xs false W HL.out (by have := (tab_chain G1.out).1; omega) (HIN.out.below hB) (HX.out.below hB)
    by_cases g2 : l < 1
    · have g2' : ((l : Int) < 1) := by omega
      have h9 : decide (1 ≤ l ∧ l ≤ 100) = false := by simp; omega
      rw [h9] at HB1
      clear h9
      have HBB : Hid (argB cs k n l = false) := by show _ = _; rw [HB1.out]; rfl
      go_enter Tryd.func11, Tryd.ntmps11
      go_wp2_with (first | (go_at_call 28; refine HV.mono ?_; rintro e w1 ⟨rfl, hb1⟩))
      go_ret2
      exact BAD.out _ HBB.out hb1
    by_cases g3 : 100 < l
    · have g2' : ¬ ((l : Int) < 1) := by omega
      have g3' : (100 : Int) < (l : Int) := by omega
      have h9 : decide (1 ≤ l ∧ l ≤ 100) = false := by simp; omega
      rw [h9] at HB1
      clear h9
      have HBB : Hid (argB cs k n l = false) := by show _ = _; rw [HB1.out]; rfl
      go_enter Tryd.func11, Tryd.ntmps11
      go_wp2_with (first | (go_at_call 28; refine HV.mono ?_; rintro e w1 ⟨rfl, hb1⟩))
      go_ret2
      exact BAD.out _ HBB.out hb1
    have g2' : ¬ ((l : Int) < 1) := by omega
    have g3' : ¬ (100 : Int) < (l : Int) := by omega
    have h9 : decide (1 ≤ l ∧ l ≤ 100) = true := by simp; omega
    rw [h9] at HB1
    clear h9
    by_cases g4 : k < 0
    · have h9 : decide (0 ≤ k ∧ k ≤ 1200) = false := by simp; omega
      rw [h9] at HB1
      clear h9
      have HBB : Hid (argB cs k n l = false) := by show _ = _; rw [HB1.out]; rfl
      go_enter Tryd.func11, Tryd.ntmps11
      go_wp2_with (first | (go_at_call 28; refine HV.mono ?_; rintro e w1 ⟨rfl, hb1⟩))
      go_ret2
      exact BAD.out _ HBB.out hb1
    by_cases g5 : 1200 < k
    · have h9 : decide (0 ≤ k ∧ k ≤ 1200) = false := by simp; omega
      rw [h9] at HB1
      clear h9
      have HBB : Hid (argB cs k n l = false) := by show _ = _; rw [HB1.out]; rfl
      go_enter Tryd.func11, Tryd.ntmps11
      go_wp2_with (first | (go_at_call 28; refine HV.mono ?_; rintro e w1 ⟨rfl, hb1⟩))
      go_ret2
      exact BAD.out _ HBB.out hb1
    have h9 : decide (0 ≤ k ∧ k ≤ 1200) = true := by simp; omega
    rw [h9] at HB1
    clear h9
    by_cases g6 : n < 0
    · have h9 : decide (0 ≤ n ∧ n ≤ 6) = false := by simp; omega
      rw [h9] at HB1
      clear h9
      have HBB : Hid (argB cs k n l = false) := by show _ = _; rw [HB1.out]; rfl
      go_enter Tryd.func11, Tryd.ntmps11
      go_wp2_with (first | (go_at_call 28; refine HV.mono ?_; rintro e w1 ⟨rfl, hb1⟩))
      go_ret2
      exact BAD.out _ HBB.out hb1
    by_cases g7 : 6 < n
    · have h9 : decide (0 ≤ n ∧ n ≤ 6) = false := by simp; omega
      rw [h9] at HB1
      clear h9
      have HBB : Hid (argB cs k n l = false) := by show _ = _; rw [HB1.out]; rfl
      go_enter Tryd.func11, Tryd.ntmps11
      go_wp2_with (first | (go_at_call 28; refine HV.mono ?_; rintro e w1 ⟨rfl, hb1⟩))
      go_ret2
      exact BAD.out _ HBB.out hb1
    have h9 : decide (0 ≤ n ∧ n ≤ 6) = true := by simp; omega
    rw [h9] at HB1
    clear h9
    have HARG : Hid (argB cs k n xs.length = true) := by show _ = _; rw [← HL.out, HB1.out]; rfl
    obtain ⟨s, es⟩ : ∃ s, s = strOfNums xs := ⟨_, rfl⟩
    have FAIL : Hid (∀ W, (s.toList == [44] || resB s) = true → Below w.heap.size w W → SpecP w (addR cs k n xs) (.returned (.tuple #[.slice none 0 0, .int .i64 4])) W) := fun W h hb => SpecP.code (by rw [addR, if_neg (by rw [HARG.out]; simp), ← es, if_pos h]) hb
    rw [← es] at HCV HRS HFD
    have HES : Hid (s = strOfNums xs) := es
    clear es BAD HB1
    cases g8 : (s.toList == [44]) with
    | true =>
      have HFB : Hid (∀ W, Below w.heap.size w W → SpecP w (addR cs k n xs) (.returned (.tuple #[.slice none 0 0, .int .i64 4])) W) := fun W hb => FAIL.out W (by rw [g8]; rfl) hb
      clear FAIL
      go_enter Tryd.func11, Tryd.ntmps11
      go_wp2_with (first | (go_at_call 28; refine HV.mono ?_; rintro e w1 ⟨rfl, hb1⟩; have cv := HCV.out w1 hb1; have hrs := HRS.out w1 hb1; have hfd := HFD.out w1 hb1))
      go_ret2
      exact HFB.out _ hb1
    | false =>
      cases g9 : resB s with
      | true =>
        rw [g9] at HRS
        have HFB : Hid (∀ W, Below w.heap.size w W → SpecP w (addR cs k n xs) (.returned (.tuple #[.slice none 0 0, .int .i64 4])) W) := fun W hb => FAIL.out W (by rw [g9]; simp) hb
        clear FAIL g9
        go_enter Tryd.func11, Tryd.ntmps11
        go_wp2_with (first | (go_at_call 28; refine HV.mono ?_; rintro e w1 ⟨rfl, hb1⟩; have cv := HCV.out w1 hb1; have hrs := HRS.out w1 hb1; have hfd := HFD.out w1 hb1) | (go_at_call 29; refine hrs.mono ?_; rintro e w2 ⟨rfl, rfl⟩))
        go_ret2
        exact HFB.out _ hb1
      | false =>
        rw [g9] at HRS
        obtain ⟨hlen, hch, hany⟩ := tab_chain G1.out
        have hasc := chain_asc cs none hch
        have HOKC : Hid (∀ x ∈ cs, okC x = true) := chain_ok cs none hch
        have HASC : Hid (Asc cs) := hasc
        have HRES : Hid (addR cs k n xs = if addCode cs (k, n, xs) ≠ 0 then ([], addCode cs (k, n, xs)) else (putO cs (k, n, xs), 0)) := by show _ = _; rw [addR, if_neg (by rw [HARG.out]; simp), ← HES.out, if_neg (by rw [g8, g9]; simp)]
        have HSPEC : Hid _ := fIdx_spec s.toList false cs 0
        have REST : Hid ((∀ x, findK cs (keyC (k, n, xs)) = some x → postB x.2.1 = postB n) → (200 < (putO cs (k, n, xs)).length → addR cs k n xs = ([], 3)) ∧ (¬ 200 < (putO cs (k, n, xs)).length → addR cs k n xs = (putO cs (k, n, xs), 0))) := fun h => by have hc := code_rest (o := (k, n, xs)) HASC.out hlen h; exact ⟨fun h1 => by rw [HRES.out, hc, if_pos h1]; simp, fun h1 => by rw [HRES.out, hc, if_neg h1]; simp⟩
        have HTY : Hid (0 ≤ n ∧ n ≤ 6) := ⟨by omega, by omega⟩
        have HLP : Hid (∀ (W0 W : World) (p1 : Option Addr) (m1 c1 : Nat) (p2 : Option Addr) (m2 c2 : Nat), OwnP W0 w.heap.size p1 m1 c1 cs → Below W0.heap.size W0 W → OwnT W W0.heap.size p2 m2 c2 xs → RoomT W p2 m2 c2 → w.heap.size ≤ W0.heap.size → Calls Tryd.prog 16 #[.slice p1 m1 c1, .agg #[.slice p2 m2 c2, .int .i64 k, .int .i64 n]] W (OwnOutP W w.heap.size (putO cs (k, n, xs)))) := fun W0 W p1 m1 c1 p2 m2 c2 h1 h2 h3 h4 h5 => l3put_ownP p1 c1 m1 w.heap.size cs k n p2 m2 c2 xs W0 W (by have := h1.1; omega) h1 h2 h3 h4 h5
        clear FAIL g9 hch hany hasc HARG hlen
        cases g10 : preB n with
        | true =>
          have HG : Hid (preB n = true) := g10
          obtain ⟨R1, R2⟩ := REST.out (fun x hx => by obtain ⟨h1, h2⟩ := findK_some hx; have h3 := (key_iff.1 h2).2; rw [HG.out] at h3; rw [pre_not_post h3, pre_not_post HG.out])
          have HR1 : Hid _ := R1
          have HR2 : Hid _ := R2
          clear R1 R2 REST
          clear HSPEC HRES HOKC HASC HG
          go_enter Tryd.func11, Tryd.ntmps11
          go_wp2_with (first | (go_at_call 28; refine HV.mono ?_; rintro e w1 ⟨rfl, hb1⟩; have cv := HCV.out w1 hb1; have hrs := HRS.out w1 hb1; have hfd := HFD.out w1 hb1) | (go_at_call 29; refine hrs.mono ?_; rintro e w2 ⟨rfl, rfl⟩) | (go_at_call 31; refine (l3prefix_any _ _).mono ?_; rintro e w' ⟨rfl, rfl⟩) | (go_at_call 30; refine hfd.mono ?_; rintro e w3 ⟨rfl, m3, rfl⟩))
          have HB3 : Hid (Below w.heap.size w _) := below_drewN hb1 m3
          refine (HCP.out _ HB3.out).mono ?_
          rintro e w4 ⟨p4, n4, c4, rfl, hown4, hb4⟩
          have HB4 : Hid (Below w.heap.size w w4) := Below.on HB3.out hb4
          have hc1 := HC1.out w4 HB4.out
          have HN4 : Hid (n4 = cs.length) := hown4.1
          have hlow4 := hown4.mono (B' := w.heap.size) HB3.out.size
          have HO4 : Hid (OwnP w4 w.heap.size p4 n4 c4 cs) := hlow4
          clear hown4 hlow4 hb4 cv hrs hfd hb1
          go_wp2_with fail
          refine hc1.mono ?_
          rintro e w5 ⟨p5, n5, c5, rfl, hown5, hb5⟩
          have HB5 : Hid (Below w.heap.size w w5) := Below.on HB4.out hb5
          have hlp := HLP.out w4 w5 p4 n4 c4 p5 n5 c5 HO4.out hb5 hown5.toT hown5.room HB4.out.size
          clear hown5 hb5 hc1
          go_wp2_with fail
          refine hlp.mono ?_
          rintro e w6 ⟨p6, n6, c6, rfl, hoin6, hb6⟩
          have HB6 : Hid (Below w.heap.size w w6) := Below.on HB5.out hb6
          have hn6 := hoin6.1
          by_cases h2 : 200 < (putO cs (k, n, xs)).length
          · have HF : Hid (SpecP w (addR cs k n xs) (.returned (.tuple #[.slice none 0 0, .int .i64 3])) w6) := SpecP.code (HR1.out h2) HB6.out
            have h2' : (200 : Int) < (n6 : Int) := by omega
            clear h2 hn6 hoin6 hb6 HR1 HR2 hlp
            go_wp2_with fail
            go_ret2
            exact HF.out
          · have HF : Hid (SpecP w (addR cs k n xs) (.returned (.tuple #[.slice p6 n6 c6, .int .i64 0])) w6) := ⟨p6, n6, c6, by rw [HR2.out h2], by rw [HR2.out h2]; exact hoin6, HB6.out⟩
            have h2' : ¬ (200 : Int) < (n6 : Int) := by omega
            clear h2 hn6 hoin6 hb6 HR1 HR2 hlp
            go_wp2_with fail
            go_ret2
            exact HF.out
        | false =>
          have HG : Hid (preB n = false) := g10
          rcases HSPEC.out with ⟨hf, hno⟩ | ⟨ix, hix, hf, hhit⟩
          · rw [hf] at HFD
            obtain ⟨R1, R2⟩ := REST.out (fun x hx => by obtain ⟨h1, h2⟩ := findK_some hx; have h3 := (hit_key (o := (k, n, xs)) HES.out HG.out).2 h2; rw [hno x h1] at h3; cases h3)
            have HR1 : Hid _ := R1
            have HR2 : Hid _ := R2
            clear R1 R2 REST
            clear HSPEC HRES HOKC HASC HG hno hf
            go_enter Tryd.func11, Tryd.ntmps11
            go_wp2_with (first | (go_at_call 28; refine HV.mono ?_; rintro e w1 ⟨rfl, hb1⟩; have cv := HCV.out w1 hb1; have hrs := HRS.out w1 hb1; have hfd := HFD.out w1 hb1) | (go_at_call 29; refine hrs.mono ?_; rintro e w2 ⟨rfl, rfl⟩) | (go_at_call 31; refine (l3prefix_any _ _).mono ?_; rintro e w' ⟨rfl, rfl⟩) | (go_at_call 30; refine hfd.mono ?_; rintro e w3 ⟨rfl, m3, rfl⟩))
            have HB3 : Hid (Below w.heap.size w _) := below_drewN hb1 m3
            refine (HCP.out _ HB3.out).mono ?_
            rintro e w4 ⟨p4, n4, c4, rfl, hown4, hb4⟩
            have HB4 : Hid (Below w.heap.size w w4) := Below.on HB3.out hb4
            have hc1 := HC1.out w4 HB4.out
            have HN4 : Hid (n4 = cs.length) := hown4.1
            have hlow4 := hown4.mono (B' := w.heap.size) HB3.out.size
            have HO4 : Hid (OwnP w4 w.heap.size p4 n4 c4 cs) := hlow4
            clear hown4 hlow4 hb4 cv hrs hfd hb1
            go_wp2_with fail
            refine hc1.mono ?_
            rintro e w5 ⟨p5, n5, c5, rfl, hown5, hb5⟩
            have HB5 : Hid (Below w.heap.size w w5) := Below.on HB4.out hb5
            have hlp := HLP.out w4 w5 p4 n4 c4 p5 n5 c5 HO4.out hb5 hown5.toT hown5.room HB4.out.size
            clear hown5 hb5 hc1
            go_wp2_with fail
            refine hlp.mono ?_
            rintro e w6 ⟨p6, n6, c6, rfl, hoin6, hb6⟩
            have HB6 : Hid (Below w.heap.size w w6) := Below.on HB5.out hb6
            have hn6 := hoin6.1
            by_cases h2 : 200 < (putO cs (k, n, xs)).length
            · have HF : Hid (SpecP w (addR cs k n xs) (.returned (.tuple #[.slice none 0 0, .int .i64 3])) w6) := SpecP.code (HR1.out h2) HB6.out
              have h2' : (200 : Int) < (n6 : Int) := by omega
              clear h2 hn6 hoin6 hb6 HR1 HR2 hlp
              go_wp2_with fail
              go_ret2
              exact HF.out
            · have HF : Hid (SpecP w (addR cs k n xs) (.returned (.tuple #[.slice p6 n6 c6, .int .i64 0])) w6) := ⟨p6, n6, c6, by rw [HR2.out h2], by rw [HR2.out h2]; exact hoin6, HB6.out⟩
              have h2' : ¬ (200 : Int) < (n6 : Int) := by omega
              clear h2 hn6 hoin6 hb6 HR1 HR2 hlp
              go_wp2_with fail
              go_ret2
              exact HF.out
          · have hf' : fIdx s.toList false 0 cs = (ix : Int) := by rw [hf]; simp
            rw [hf'] at HFD
            have hxm : cs.getD ix Cel.none ∈ cs := by rw [List.getD, List.getElem?_eq_getElem hix]; exact List.getElem_mem hix
            have hkey : keyC (cs.getD ix Cel.none) = keyC (k, n, xs) := (hit_key (o := (k, n, xs)) HES.out HG.out).1 hhit
            have hfk := find_of HASC.out hxm hkey
            have hpx : preB (cs.getD ix Cel.none).2.1 = false := by have := (key_iff.1 hkey).2; rw [this]; exact HG.out
            have hty := okC_typ (HOKC.out _ hxm)
            obtain ⟨g, o, rfl, hcs⟩ := HIN.out (by omega)
            have hat := hcs ix hix
            have hxl' : decide ((cs.getD ix Cel.none).2.1 ≤ 2) = !postB (cs.getD ix Cel.none).2.1 := not_pre hty.1 hty.2 hpx
            have hnl' : decide (n ≤ 2) = !postB n := not_pre HTY.out.1 HTY.out.2 HG.out
            have HDIF : Hid (postB (cs.getD ix Cel.none).2.1 ≠ postB n → addR cs k n xs = ([], 4)) := fun h => by (have hc : addCode cs (k, n, xs) = 4 := (by rw [addCode, hfk]; exact if_pos (by simpa using h))); rw [HRES.out, hc]; simp
            have HSAM : Hid (postB (cs.getD ix Cel.none).2.1 = postB n → ∀ x, findK cs (keyC (k, n, xs)) = some x → postB x.2.1 = postB n) := fun h x hx => by rw [hfk] at hx; rw [← Option.some.inj hx]; exact h
            obtain ⟨x, ex⟩ : ∃ x, x = cs.getD ix Cel.none := ⟨_, rfl⟩
            rw [← ex] at hat hxl' HDIF HSAM
            obtain ⟨qx, qc, y0, y1, y2, y3⟩ := hat
            obtain ⟨x0, x1, x2⟩ := x
            simp only at y0 y1 y2 y3 hxl' HDIF HSAM
            have Y1 : Hid (w.cell? ⟨g, o + ix * 3 + 2, none⟩ = some (.int .i64 x1)) := y1
            have hix0 : (0 : Int) ≤ (ix : Int) := by omega
            have hix1 : (ix : Int) < (cs.length : Int) := by omega
            clear hxm hkey hfk hpx hty hcs ex y0 y1 y2 y3 hhit hf hf' HSPEC HRES HOKC HASC HG HTY HIN
            cases q1 : (postB x1 == postB n) with
            | false =>
              have q1' : postB x1 ≠ postB n := by simpa using q1
              have HF : Hid (∀ W, Below w.heap.size w W → SpecP w (addR cs k n xs) (.returned (.tuple #[.slice none 0 0, .int .i64 4])) W) := fun W hb => SpecP.code (HDIF.out q1') hb
              have q3 : (decide (x1 ≤ 2) == decide (n ≤ 2)) = false := by rw [hxl', hnl']; cases h1 : postB x1 <;> cases h2 : postB n <;> simp_all
              clear HDIF HSAM q1' q1 hxl' hnl' REST
              skip
              go_enter Tryd.func11, Tryd.ntmps11
              go_wp2_with (first | (go_at_call 28; refine HV.mono ?_; rintro e w1 ⟨rfl, hb1⟩; have cv := HCV.out w1 hb1; have hrs := HRS.out w1 hb1; have hfd := HFD.out w1 hb1; have y1 : ∀ mm, (w1.drewN mm).cell? ⟨g, o + ix * 3 + 2, none⟩ = some (.int .i64 x1) := fun mm => (hb1.cell (World.block_lt_of_cell? _ _ Y1.out)).trans Y1.out) | (go_at_call 29; refine hrs.mono ?_; rintro e w2 ⟨rfl, rfl⟩) | (go_at_call 31; refine (l3prefix_any _ _).mono ?_; rintro e w' ⟨rfl, rfl⟩) | (go_at_call 30; refine hfd.mono ?_; rintro e w3 ⟨rfl, m3, rfl⟩) | (go_at_call 32; refine (l3infix_any _ _).mono ?_; rintro e w' ⟨rfl, rfl⟩))
              go_ret2
              exact HF.out _ (below_drewN hb1 _)
            | true =>
              have q1' : postB x1 = postB n := by simpa using q1
              have HS : Hid _ := HSAM.out q1'
              obtain ⟨R1, R2⟩ := REST.out (HS.out)
              have HR1 : Hid _ := R1
              have HR2 : Hid _ := R2
              clear R1 R2 REST
              have q3 : (decide (x1 ≤ 2) == decide (n ≤ 2)) = true := by rw [hxl', hnl', q1']; simp
              clear HDIF HSAM q1' q1 hxl' hnl' HS
              go_enter Tryd.func11, Tryd.ntmps11
              go_wp2_with (first | (go_at_call 28; refine HV.mono ?_; rintro e w1 ⟨rfl, hb1⟩; have cv := HCV.out w1 hb1; have hrs := HRS.out w1 hb1; have hfd := HFD.out w1 hb1; have y1 : ∀ mm, (w1.drewN mm).cell? ⟨g, o + ix * 3 + 2, none⟩ = some (.int .i64 x1) := fun mm => (hb1.cell (World.block_lt_of_cell? _ _ Y1.out)).trans Y1.out) | (go_at_call 29; refine hrs.mono ?_; rintro e w2 ⟨rfl, rfl⟩) | (go_at_call 31; refine (l3prefix_any _ _).mono ?_; rintro e w' ⟨rfl, rfl⟩) | (go_at_call 30; refine hfd.mono ?_; rintro e w3 ⟨rfl, m3, rfl⟩) | (go_at_call 32; refine (l3infix_any _ _).mono ?_; rintro e w' ⟨rfl, rfl⟩))
              have HB3 : Hid (Below w.heap.size w _) := below_drewN hb1 m3
              refine (HCP.out _ HB3.out).mono ?_
              rintro e w4 ⟨p4, n4, c4, rfl, hown4, hb4⟩
              have HB4 : Hid (Below w.heap.size w w4) := Below.on HB3.out hb4
              have hc1 := HC1.out w4 HB4.out
              have HN4 : Hid (n4 = cs.length) := hown4.1
              have hlow4 := hown4.mono (B' := w.heap.size) HB3.out.size
              have HO4 : Hid (OwnP w4 w.heap.size p4 n4 c4 cs) := hlow4
              clear hown4 hlow4 hb4 cv hrs hfd hb1
              go_wp2_with fail
              refine hc1.mono ?_
              rintro e w5 ⟨p5, n5, c5, rfl, hown5, hb5⟩
              have HB5 : Hid (Below w.heap.size w w5) := Below.on HB4.out hb5
              have hlp := HLP.out w4 w5 p4 n4 c4 p5 n5 c5 HO4.out hb5 hown5.toT hown5.room HB4.out.size
              clear hown5 hb5 hc1
              go_wp2_with fail
              refine hlp.mono ?_
              rintro e w6 ⟨p6, n6, c6, rfl, hoin6, hb6⟩
              have HB6 : Hid (Below w.heap.size w w6) := Below.on HB5.out hb6
              have hn6 := hoin6.1
              by_cases h2 : 200 < (putO cs (k, n, xs)).length
              · have HF : Hid (SpecP w (addR cs k n xs) (.returned (.tuple #[.slice none 0 0, .int .i64 3])) w6) := SpecP.code (HR1.out h2) HB6.out
                have h2' : (200 : Int) < (n6 : Int) := by omega
                clear h2 hn6 hoin6 hb6 HR1 HR2 hlp
                go_wp2_with fail
                go_ret2
                exact HF.out
              · have HF : Hid (SpecP w (addR cs k n xs) (.returned (.tuple #[.slice p6 n6 c6, .int .i64 0])) w6) := ⟨p6, n6, c6, by rw [HR2.out h2], by rw [HR2.out h2]; exact hoin6, HB6.out⟩
                have h2' : ¬ (200 : Int) < (n6 : Int) := by omega
                clear h2 hn6 hoin6 hb6 HR1 HR2 hlp
                go_wp2_with fail
                go_ret2
                exact HF.out

end Go.Proofs.YtbfhpnacoigfkaaDoor

namespace Go.Proofs.YtbfhpnacoigfkaaDoor
open Go Go.RowKit
set_option linter.unusedVariables false

set_option maxRecDepth 100000 in
set_option maxHeartbeats 4000000 in
theorem specDefP_any (w : World) : Calls Tryd.prog 5 #[] w (OwnOutP w w.heap.size dTab) := by
  obtain ⟨wA, eA⟩ : ∃ wA, wA = (((w.alloc (.cells namesV.toArray 9)).alloc (.cells prisV.toArray 3)).alloc (.cells typesV.toArray 3)) := ⟨_, rfl⟩
  have hD : DataIn wA w.heap.size := by rw [eA]; exact data_made w _ _ _
  have hbA : Below w.heap.size w wA := by rw [eA]; exact (((Below.refl _ _).alloc (Nat.le_refl _) _).alloc (by simp) _).alloc (by simp; omega) _
  have HD : Hid (DataIn wA w.heap.size) := hD
  have HBA : Hid (Below w.heap.size w wA) := hbA
  clear hD hbA
  go_enter Tryd.func5, Tryd.ntmps5
  go_wp2_with fail
  have eA' : wA = (((w.alloc (Obj.cells #[.string ⟨#[58, 45, 32, 45, 45, 62]⟩, .string ⟨#[58, 45, 32, 63, 45]⟩, .string ⟨#[100, 121, 110, 97, 109, 105, 99]⟩, .string ⟨#[59]⟩, .string ⟨#[45, 62]⟩, .string ⟨#[44]⟩, .string ⟨#[92, 43]⟩, .string ⟨#[61, 32, 92, 61, 32, 61, 61, 32, 92, 61, 61, 32, 64, 60, 32, 64, 61, 60, 32, 64, 62, 32, 64, 62, 61, 32, 61, 46, 46, 32, 105, 115, 32, 61, 58, 61, 32, 61, 92, 61, 32, 60, 32, 61, 60, 32, 62, 32, 62, 61]⟩, .string ⟨#[43, 32, 45, 32, 47, 92, 32, 92, 47, 32, 120, 111, 114]⟩, .string ⟨#[42, 32, 47, 32, 47, 47, 32, 109, 111, 100, 32, 114, 101, 109, 32, 60, 60, 32, 62, 62]⟩, .string ⟨#[42, 42]⟩, .string ⟨#[94]⟩, .string ⟨#[45, 32, 43, 32, 92]⟩] 9)).alloc (Obj.cells #[.int .i64 1200, .int .i64 1200, .int .i64 1150, .int .i64 1100, .int .i64 1050, .int .i64 1000, .int .i64 900, .int .i64 700, .int .i64 500, .int .i64 400, .int .i64 200, .int .i64 200, .int .i64 200] 3)).alloc (Obj.cells #[.int .i64 0, .int .i64 4, .int .i64 4, .int .i64 1, .int .i64 1, .int .i64 1, .int .i64 3, .int .i64 0, .int .i64 2, .int .i64 2, .int .i64 0, .int .i64 1, .int .i64 3] 3)) := by rw [eA]; rfl
  rw [← eA']
  clear eA eA'
  go_loopw [4, 5] (fun s i wr => ∃ (k n c : Nat) (p : Option Addr) (D : List Cel), k ≤ 13 ∧ n ≤ 60 ∧ s = .slice p n c ∧ i = .int .i64 k ∧ Hid (D ++ restO k = dOps) ∧ Hid (n = (D.foldl putO []).length) ∧ Hid (OwnP wr w.heap.size p n c (D.foldl putO [])) ∧ Hid (Below wA.heap.size wA wr)) (fun _ i _ => 13 - (intOf i).toNat)
  case atStart => exact ⟨0, 0, 0, none, [], by omega, by omega, rfl, rfl, rfl, rfl, OwnP.nil _ _, Below.refl _ _⟩
  case round =>
    obtain ⟨k, n, c, p, D, hk, hn, rfl, rfl, HQ, HN, HO, HB⟩ := hrel
    by_cases hlt : k < 13
    · obtain ⟨hw1, hw2, _⟩ := wordsLen hlt
      have hdw := HD.out.below HB.out
      have d0 := hdw.name k hlt
      have d1 := hdw.pri k hlt
      have d2 := hdw.typ k hlt
      have HRA : Hid _ := restO_at hlt
      have HOR : Hid (opsRow (rowAt k) = (wd [] (rowAt k).2.2).map (fun x => ((rowAt k).1, (rowAt k).2.1, numsU x))) := rfl
      obtain ⟨r, er⟩ : ∃ r, r = rowAt k := ⟨_, rfl⟩
      rw [← er] at d0 d1 d2 hw1 HRA HOR
      obtain ⟨r0, r1, r2⟩ := r
      simp only [strV] at d0 d1 d2 hw1 HOR
      have HW := l3words_any r2 wr (by omega)
      have hwl : (wd [] r2).length ≤ 60 := by
        have h1 := congrArg List.length HQ.out
        rw [HRA.out, HOR.out] at h1
        simp only [List.length_append, List.length_map] at h1
        have := dOps_len
        omega
      obtain ⟨sr, esr⟩ : ∃ s, s = bOf r2 := ⟨_, rfl⟩
      rw [← esr] at d0 HW
      have HER : Hid ((r0, r1, r2) = rowAt k) := er
      clear er hw2 hdw esr
      go_wp2_with fail
      refine HW.mono ?_
      rintro e w2 ⟨pw, nw, cw, rfl, hnw, hrow2, hb2⟩
      have HB2 : Hid (Below wA.heap.size wA w2) := Below.on HB.out hb2
      have HO2 : Hid (OwnP w2 w.heap.size p n c (D.foldl putO [])) := HO.out.below hb2
      have HRW : Hid (∀ j, j < nw → ∃ gw, pw = some ⟨gw, 0, none⟩ ∧ ∃ x, (wd [] r2)[j]? = some x ∧ w2.cell? ⟨gw, j, none⟩ = some (.string (bOf x))) := fun j hj => by
        obtain ⟨gw, cap, hv, _⟩ := hrow2.form (by omega)
        simp only [Value.slice.injEq] at hv
        have hj' : j < (wd [] r2).length := by omega
        refine ⟨gw, hv.1, (wd [] r2)[j], List.getElem?_eq_getElem hj', ?_⟩
        have h9 := hrow2
        rw [hv.1] at h9
        rw [h9.cellAt j (by omega)]
        simp [hj', strV]
      have hnw60 : nw ≤ 60 := by omega
      have HNW : Hid (nw = (wd [] r2).length) := hnw
      have HQ2 : Hid (D ++ ((wd [] r2).map (fun x => (r0, r1, numsU x)) ++ restO (k + 1)) = dOps) := by show _ = _; rw [← HOR.out, ← HRA.out]; exact HQ.out
      clear hrow2 hb2 hnw HW hwl
      go_wp2_with fail
      go_loopw [4, 7] (fun s j wv => ∃ (i n c : Nat) (p : Option Addr) (D : List Cel), i ≤ nw ∧ n ≤ 60 ∧ s = .slice p n c ∧ j = .int .i64 i ∧ Hid (D ++ (((wd [] r2).drop i).map (fun x => (r0, r1, numsU x)) ++ restO (k + 1)) = dOps) ∧ Hid (n = (D.foldl putO []).length) ∧ Hid (OwnP wv w.heap.size p n c (D.foldl putO [])) ∧ Hid (Below w2.heap.size w2 wv)) (fun _ j _ => nw - (intOf j).toNat)
      case atStart => exact ⟨0, n, c, p, D, by omega, hn, rfl, rfl, HQ2, HN, HO2, Below.refl _ _⟩
      case round =>
        obtain ⟨i, n5, c5, p5, D5, hi5, hn5, rfl, rfl, HQ5, HN5, HO5, HB5⟩ := hrel
        by_cases hlt5 : i < nw
        · obtain ⟨gw, rfl, x, hx, hcx⟩ := HRW.out i hlt5
          have hdw5 := (HD.out.below HB2.out).below HB5.out
          have f0 := (HB5.out.cell (World.block_lt_of_cell? _ _ hcx)).trans hcx
          have g1 := hdw5.pri k hlt
          have g2 := hdw5.typ k hlt
          rw [← HER.out] at g1 g2
          simp only at g1 g2
          obtain ⟨w4, cp, hcv, hb4, hot, hrm⟩ := conv_bytesP wr.drew (numsU x) (byte_numsU x) 9 Tryd.underlying9
          rw [strOf_numsU] at hcv
          obtain ⟨sx, esx⟩ : ∃ s, s = bOf x := ⟨_, rfl⟩
          rw [← esx] at hcv f0
          have hxl : x ∈ wd [] r2 := List.mem_of_getElem? hx
          obtain ⟨lx, elx⟩ : ∃ l, l = (numsU x).length := ⟨_, rfl⟩
          rw [← elx] at hcv hot hrm
          obtain ⟨gt, egt⟩ : ∃ g, g = wr.drew.heap.size := ⟨_, rfl⟩
          rw [← egt] at hcv hot hrm
          have hb4' : Below wr.heap.size wr w4 := (Below.refl _ wr).drew.trans hb4
          have kk0 : wr.cell? ⟨gw, i, none⟩ = some (.string sx) ∧ wr.cell? ⟨w.heap.size + 1, k, none⟩ = some (.int .i64 r0) ∧ wr.cell? ⟨w.heap.size + 1 + 1, k, none⟩ = some (.int .i64 r1) := ⟨f0, g1, g2⟩
          have kk4 : w4.cell? ⟨gw, i, none⟩ = some (.string sx) ∧ w4.cell? ⟨w.heap.size + 1, k, none⟩ = some (.int .i64 r0) ∧ w4.cell? ⟨w.heap.size + 1 + 1, k, none⟩ = some (.int .i64 r1) := ⟨(hb4'.cell (World.block_lt_of_cell? _ _ kk0.1)).trans kk0.1, (hb4'.cell (World.block_lt_of_cell? _ _ kk0.2.1)).trans kk0.2.1, (hb4'.cell (World.block_lt_of_cell? _ _ kk0.2.2)).trans kk0.2.2⟩
          have hBwr : w.heap.size ≤ wr.heap.size := Nat.le_trans HBA.out.size (Nat.le_trans HB2.out.size HB5.out.size)
          have HLP := l3put_ownP p5 c5 n5 w.heap.size (D5.foldl putO []) r0 r1 (some ⟨gt, 0, none⟩) lx cp (numsU x) wr w4 (by omega) HO5.out hb4' (by rw [egt] at hot ⊢; exact hot) hrm hBwr
          have HB4 : Hid (Below w2.heap.size w2 w4) := Below.on HB5.out hb4'
          have HQ6 : Hid ((D5 ++ [(r0, r1, numsU x)]) ++ (((wd [] r2).drop (i + 1)).map (fun x => (r0, r1, numsU x)) ++ restO (k + 1)) = dOps) := by
            show _ = _
            have hi' : i < (wd [] r2).length := (List.getElem?_eq_some_iff.1 hx).1
            have hxe : (wd [] r2)[i] = x := (List.getElem?_eq_some_iff.1 hx).2
            rw [← HQ5.out, List.drop_eq_getElem_cons hi', hxe]
            simp
          have HFD : Hid ((D5 ++ [(r0, r1, numsU x)]).foldl putO [] = putO (D5.foldl putO []) (r0, r1, numsU x)) := by show _ = _; rw [List.foldl_append]; rfl
          have hn60 : (putO (D5.foldl putO []) (r0, r1, numsU x)).length ≤ 60 := by
            rw [← HFD.out]
            have h1 := fold_len (D5 ++ [(r0, r1, numsU x)]) []
            have h2 := congrArg List.length HQ6.out
            simp only [List.length_append, List.length_nil] at h1 h2
            have := dOps_len
            omega
          have HN60 : Hid ((putO (D5.foldl putO []) (r0, r1, numsU x)).length ≤ 60) := hn60
          have hi0 : (0 : Int) ≤ (i : Int) := by omega
          have hi1 : (i : Int) < (nw : Int) := by omega
          have hk0 : (0 : Int) ≤ (k : Int) := by omega
          have hk1 : (k : Int) < 13 := by omega
          clear hBwr hdw5 hcx f0 g1 g2 hot hrm elx egt esx hxl hb4 hx hn60 d0 d1 d2
          go_wp2_with fail
          refine wp_region_held_drew (S := fun W => W.cell? ⟨gw, i, none⟩ = some (.string sx) ∧ W.cell? ⟨w.heap.size + 1, k, none⟩ = some (.int .i64 r0) ∧ W.cell? ⟨w.heap.size + 1 + 1, k, none⟩ = some (.int .i64 r1)) (by kernel_rfl) ?_ (fun hHeld => ?_)
          · exact kk0
          refine hTake (i := 0) (v := .slice p5 n5 c5) (some 28) (by kernel_rfl) (by kernel_rfl) (by kernel_rfl) (by kernel_rfl) (by kernel_rfl) (fun _ _ _ h => h) (fun o ho W hSw => ?y0) (by assumption) ?_
          case y0 =>
            cases ho
            simp [execOp, go_sem, Act.eval]
          simp only [Act.put, List.setIfInBounds_toArray, List.set_cons_zero, List.set_cons_succ]
          refine hTake (i := 1) (v := .slice (some ⟨gw, 0, none⟩) nw cw) (some 29) (by kernel_rfl) (by kernel_rfl) (by kernel_rfl) (by kernel_rfl) (by kernel_rfl) (fun _ _ _ h => h) (fun o ho W hSw => ?y1) (by assumption) ?_
          case y1 =>
            cases ho
            simp [execOp, go_sem, Act.eval]
          simp only [Act.put, List.setIfInBounds_toArray, List.set_cons_zero, List.set_cons_succ]
          refine hTake (i := 2) (v := .int .i64 i) (some 30) (by kernel_rfl) (by kernel_rfl) (by kernel_rfl) (by kernel_rfl) (by kernel_rfl) (fun _ _ _ h => h) (fun o ho W hSw => ?y2) (by assumption) ?_
          case y2 =>
            cases ho
            simp [execOp, go_sem, Act.eval]
          simp only [Act.put, List.setIfInBounds_toArray, List.set_cons_zero, List.set_cons_succ]
          refine hTake (i := 3) (v := .pointer (some ⟨gw, i, none⟩)) (some 31) (by kernel_rfl) (by kernel_rfl) (by kernel_rfl) (by kernel_rfl) (by kernel_rfl) (fun _ _ _ h => h) (fun o ho W hSw => ?y3) (by assumption) ?_
          case y3 =>
            cases ho
            simp [execOp, go_sem, Act.eval, hi0, hi1]
          simp only [Act.put, List.setIfInBounds_toArray, List.set_cons_zero, List.set_cons_succ]
          refine hTake (i := 4) (v := .string sx) (some 32) (by kernel_rfl) (by kernel_rfl) (by kernel_rfl) (by kernel_rfl) (by kernel_rfl) (fun _ _ _ h => h) (fun o ho W hSw => ?y4) (by assumption) ?_
          case y4 =>
            cases ho
            simp [execOp, go_sem, Act.eval, hSw.1]
          simp only [Act.put, List.setIfInBounds_toArray, List.set_cons_zero, List.set_cons_succ]
          refine hTake (i := 6) (v := .slice (some ⟨w.heap.size + 1, 0, none⟩) 13 13) (some 34) (by kernel_rfl) (by kernel_rfl) (by kernel_rfl) (by kernel_rfl) (by kernel_rfl) (fun _ _ _ h => h) (fun o ho W hSw => ?y6) (by assumption) ?_
          case y6 =>
            cases ho
            simp [execOp, go_sem, Act.eval]
          simp only [Act.put, List.setIfInBounds_toArray, List.set_cons_zero, List.set_cons_succ]
          refine hTake (i := 7) (v := .int .i64 k) (some 35) (by kernel_rfl) (by kernel_rfl) (by kernel_rfl) (by kernel_rfl) (by kernel_rfl) (fun _ _ _ h => h) (fun o ho W hSw => ?y7) (by assumption) ?_
          case y7 =>
            cases ho
            simp [execOp, go_sem, Act.eval]
          simp only [Act.put, List.setIfInBounds_toArray, List.set_cons_zero, List.set_cons_succ]
          refine hTake (i := 8) (v := .pointer (some ⟨w.heap.size + 1, k, none⟩)) (some 36) (by kernel_rfl) (by kernel_rfl) (by kernel_rfl) (by kernel_rfl) (by kernel_rfl) (fun _ _ _ h => h) (fun o ho W hSw => ?y8) (by assumption) ?_
          case y8 =>
            cases ho
            simp [execOp, go_sem, Act.eval, hk0, hk1]
          simp only [Act.put, List.setIfInBounds_toArray, List.set_cons_zero, List.set_cons_succ]
          refine hTake (i := 9) (v := .int .i64 r0) (some 37) (by kernel_rfl) (by kernel_rfl) (by kernel_rfl) (by kernel_rfl) (by kernel_rfl) (fun _ _ _ h => h) (fun o ho W hSw => ?y9) (by assumption) ?_
          case y9 =>
            cases ho
            simp [execOp, go_sem, Act.eval, hSw.2.1]
          simp only [Act.put, List.setIfInBounds_toArray, List.set_cons_zero, List.set_cons_succ]
          refine hTake (i := 10) (v := .slice (some ⟨w.heap.size + 1 + 1, 0, none⟩) 13 13) (some 38) (by kernel_rfl) (by kernel_rfl) (by kernel_rfl) (by kernel_rfl) (by kernel_rfl) (fun _ _ _ h => h) (fun o ho W hSw => ?y10) (by assumption) ?_
          case y10 =>
            cases ho
            simp [execOp, go_sem, Act.eval]
          simp only [Act.put, List.setIfInBounds_toArray, List.set_cons_zero, List.set_cons_succ]
          refine hTake (i := 11) (v := .int .i64 k) (some 39) (by kernel_rfl) (by kernel_rfl) (by kernel_rfl) (by kernel_rfl) (by kernel_rfl) (fun _ _ _ h => h) (fun o ho W hSw => ?y11) (by assumption) ?_
          case y11 =>
            cases ho
            simp [execOp, go_sem, Act.eval]
          simp only [Act.put, List.setIfInBounds_toArray, List.set_cons_zero, List.set_cons_succ]
          refine hTake (i := 12) (v := .pointer (some ⟨w.heap.size + 1 + 1, k, none⟩)) (some 40) (by kernel_rfl) (by kernel_rfl) (by kernel_rfl) (by kernel_rfl) (by kernel_rfl) (fun _ _ _ h => h) (fun o ho W hSw => ?y12) (by assumption) ?_
          case y12 =>
            cases ho
            simp [execOp, go_sem, Act.eval, hk0, hk1]
          simp only [Act.put, List.setIfInBounds_toArray, List.set_cons_zero, List.set_cons_succ]
          refine hTake (i := 13) (v := .int .i64 r1) (some 41) (by kernel_rfl) (by kernel_rfl) (by kernel_rfl) (by kernel_rfl) (by kernel_rfl) (fun _ _ _ h => h) (fun o ho W hSw => ?y13) (by assumption) ?_
          case y13 =>
            cases ho
            simp [execOp, go_sem, Act.eval, hSw.2.2]
          simp only [Act.put, List.setIfInBounds_toArray, List.set_cons_zero, List.set_cons_succ]
          refine hStep (i := 5) (v := .slice (some ⟨gt, 0, none⟩) lx cp) (w' := w4) (some 33) (by kernel_rfl) (by kernel_rfl) (by kernel_rfl) (fun o ho => ?y5) kk4 ?_
          case y5 =>
            cases ho
            simp [execOp, go_sem, Act.eval, hcv]
          clear hHeld
          simp only [Act.put, List.setIfInBounds_toArray, List.set_cons_zero, List.set_cons_succ]
          have hHeld := kk4
          refine hTake (i := 14) (v := .agg #[.slice (some ⟨gt, 0, none⟩) lx cp, .int .i64 r0, .int .i64 r1]) (some 42) (by kernel_rfl) (by kernel_rfl) (by kernel_rfl) (by kernel_rfl) (by kernel_rfl) (fun _ _ _ h => h) (fun o ho W hSw => ?y14) (by assumption) ?_
          case y14 =>
            cases ho
            simp [execOp, go_sem, Act.eval]
          simp only [Act.put, List.setIfInBounds_toArray, List.set_cons_zero, List.set_cons_succ]
          refine hCallE (i := 15) (some 43) (by kernel_rfl) (by kernel_rfl) (by kernel_rfl) (fun o ho => ?y15) HLP ?_ (fun ch w' h => by obtain ⟨_, _, _, h, _⟩ := h; cases h) (fun w' h => by obtain ⟨_, _, _, h, _⟩ := h; cases h)
          case y15 =>
            cases ho
            simp [execOp, go_sem, Act.eval]
          rintro u w6 ⟨p6, n6, c6, hu, ho6, hb6⟩
          cases hu
          have hn6 := ho6.1
          have kk6 : w6.cell? ⟨gw, i, none⟩ = some (.string sx) ∧ w6.cell? ⟨w.heap.size + 1, k, none⟩ = some (.int .i64 r0) ∧ w6.cell? ⟨w.heap.size + 1 + 1, k, none⟩ = some (.int .i64 r1) := ⟨(hb6.cell (World.block_lt_of_cell? _ _ kk4.1)).trans kk4.1, (hb6.cell (World.block_lt_of_cell? _ _ kk4.2.1)).trans kk4.2.1, (hb6.cell (World.block_lt_of_cell? _ _ kk4.2.2)).trans kk4.2.2⟩
          refine ⟨kk6, ?_⟩
          clear hHeld
          have hHeld := kk6
          simp only [Act.put, List.setIfInBounds_toArray, List.set_cons_zero, List.set_cons_succ]
          refine hTake (i := 16) (v := .slice p6 n6 c6) (some 4) (by kernel_rfl) (by kernel_rfl) (by kernel_rfl) (by kernel_rfl) (by kernel_rfl) (fun _ _ _ h => h) (fun o ho W hSw => ?y16) (by assumption) ?_
          case y16 =>
            cases ho
            simp [execOp, go_sem, Act.eval]
          simp only [Act.put, List.setIfInBounds_toArray, List.set_cons_zero, List.set_cons_succ]
          refine wpAnyH_done (by kernel_rfl) ?_ _
          have HN6 : Hid (n6 = ((D5 ++ [(r0, r1, numsU x)]).foldl putO []).length) := by rw [HFD.out]; exact hn6
          have HO6 : Hid (OwnP w6 w.heap.size p6 n6 c6 ((D5 ++ [(r0, r1, numsU x)]).foldl putO [])) := by rw [HFD.out]; exact ho6
          have HB6 : Hid (Below w2.heap.size w2 w6) := Below.on HB4.out hb6
          have h60 : n6 ≤ 60 := by rw [hn6]; exact HN60.out
          clear hn6 ho6 hb6 kk6 kk4 kk0 hcv
          go_wp2_with fail
          go_roundw
          case rel => exact ⟨i + 1, n6, c6, p6, _, by omega, h60, rfl, by go_num, HQ6, HN6, HO6, HB6⟩
          case measure => simp [intOf]; omega
        · obtain rfl : i = nw := by omega
          have HQ6 : Hid (D5 ++ restO (k + 1) = dOps) := by
            show _ = _
            have h9 := HQ5.out
            rw [HNW.out, List.drop_length] at h9
            simpa using h9
          have HB6 : Hid (Below wA.heap.size wA wr) := Below.on HB2.out HB5.out
          clear d0 d1 d2
          go_wp2_with fail
          go_roundw
          case rel => exact ⟨k + 1, n5, c5, p5, D5, by omega, hn5, rfl, by go_num, HQ6, HN5, HO5, HB6⟩
          case measure => simp [intOf]; omega
    · obtain rfl : k = 13 := by omega
      have hDD : D = dOps := by have h9 := HQ.out; rw [restO_end] at h9; simpa using h9
      have HF : Hid (OwnOutP w w.heap.size dTab (.returned (.slice p n c)) wr) := ⟨p, n, c, rfl, by have h9 := HO.out; rw [hDD] at h9; exact h9, Below.on HBA.out HB.out⟩
      clear hDD
      go_wp2_with fail
      go_ret
      exact HF.out

end Go.Proofs.YtbfhpnacoigfkaaDoor

