/- Texts of Um4, Um5, ArgU, Um2. Own work of the verifier. -/
import Derived.Test.YtaakpdakeolgeaaGreatUqbf
import Derived.Test.YtaakpdakeolgeaaGreatUqai
import Derived.Test.YtaakpdakeolgeaaGreatUqar
namespace Go.Proofs.YtaakpdakeolgeaaGreat
open Go Go.RowKit
set_option linter.unusedVariables false
def BindO (W0 : World) (sb : Nat) (M : BM) (k : Nat) (v : Int) (T : Tr) (w : World) (e : Ending) (w' : World) : Prop := e = .returned (.tuple #[]) ∧ (∃ p n c bs, MS W0 w' sb (M.set v T) k p n c bs) ∧ w.grownBy w' (some sb)
theorem bind_done {W0 w w1 : World} {sb : Nat} {M : BM} {k : Nat} {p : Option Addr} {n c : Nat} {bs : List Bnd} {v : Int} {T : Tr} {a : Nat} {p' : Option Addr} {n' c' : Nat} (hs : MS W0 w sb M k p n c bs) (hv : M v = none) (ha : a ≤ bs.length) (hlo : ∀ i, i < a → (bs.getD i Bnd.zero).1 < v) (hhi : a < bs.length → v < (bs.getD a Bnd.zero).1) (hb : Below w.heap.size w w1) (hr : RowS W0 w1 w.heap.size p' n' c' (insB bs a (v, tcs T))) (hk : n + 1 ≤ k) :
    BindO W0 sb M k v T w (.returned (.tuple #[])) (w1.setCell ⟨sb, 0, none⟩ (.slice p' n' c')) := by
  have hsb := World.block_lt_of_cell? _ _ hs.sub
  have hsb' : sb < w.heap.size := hsb
  have hlen : n' = bs.length + 1 := by
    have := hr.1
    rw [this]; unfold insB; simp; omega
  obtain ⟨r1, _, r3, r4⟩ := hr.sub
  have hc0 := (hb.cell (p := ⟨sb, 0, none⟩) hsb).trans hs.sub
  have hW := hs.low.size
  refine ⟨rfl, ⟨p', n', c', _, (Below.on hs.low hb).setCell (p := ⟨sb, 0, none⟩) hs.hsb _, hs.hsb, World.cell?_setCell_same' _ _ _ (by rw [hc0]; rfl), ?_, hr.1, r1.move (fun b o v e j hv => ?_), hs.bsr.ins hv ha hlo hhi, by have := hs.len; omega, hs.kle, fun e => by omega, r3, fun a e => ?_, fun o => ?_⟩, ?_⟩
  · rw [World.cell?_setCell_other _ _ _ _ (fun e => by have := congrArg Addr.off e; simp at this)]
    exact (hb.cell (p := ⟨sb, 1, none⟩) hsb).trans hs.prs
  · have h9 := r4 _ e
    rw [World.cell?_setCell_other _ _ _ _ (fun e => by have := congrArg Addr.block e; simp at this; simp at h9; omega)]
    exact hv
  · have h9 := r4 _ e
    exact ⟨by omega, by omega⟩
  · rw [World.frozen?_setCell]
    exact (hb.frozen (p := ⟨sb, o, none⟩) hsb).trans (hs.free o)
  · exact ⟨by rw [World.setCell]; split <;> exact hb.os, hb.tape, hb.output, by simpa using hb.size, fun k hk h1 => (Below.heap_setCell _ _ _ _ (fun e => h1 (by rw [e]))).trans (hb.block k hk)⟩
theorem RowS.own {W0 w : World} {B : Nat} {p : Option Addr} {n c : Nat} {bs : List Bnd} (h : RowS W0 w B p n c bs) (k : Nat) (e : Value.ownBlock (.slice p n c) = some k) : B ≤ k := by
  obtain ⟨_, ds, h2, _⟩ := h
  exact (h2.lt k e).1
theorem Lies.below {W0 w w' : World} {q : Option Addr} {m c : Nat} {bs : List Bnd} (h : Lies W0 w q m c bs) (hb : Below w.heap.size w w') : Lies W0 w' q m c bs := by
  refine ⟨h.1, h.2.imp id fun ⟨b, o, ds, e, h1, h2⟩ => ⟨b, o, ds, e, h1, fun j u hj => ?_⟩⟩
  have h9 := h2 j u hj
  exact (hb.cell (World.block_lt_of_cell? _ _ h9)).trans h9
theorem lies_one {W0 : World} {q : Option Addr} {m cq : Nat} {T : Tr} (hT : TIn W0 q m cq T) (w1 : World) (v : Int) : Lies W0 (w1.alloc (.cells #[.int .i64 v, .slice q m cq] 33)) (some ⟨w1.heap.size, 0, none⟩) 1 1 [(v, tcs T)] := by
  obtain ⟨hm, h1, h2, h3⟩ := hT
  subst hm
  refine ⟨rfl, .inr ⟨w1.heap.size, 0, [(q, cq)], rfl, ⟨⟨h1, h2, h3⟩, trivial⟩, fun j u hj => ?_⟩⟩
  have := cell_two_new w1 (.int .i64 v) (.slice q (tcs T).length cq) 33 j u (by simpa [flB] using hj)
  by_cases e : j = 0
  · subst e; simpa [Addr.add] using this
  · simpa [Addr.add, e] using this
set_option maxRecDepth 100000 in
set_option maxHeartbeats 1000000 in
theorem l5bind_any (W0 : World) (sb : Nat) (M : BM) (k : Nat) (p : Option Addr) (n c : Nat) (bs : List Bnd) (v : Int) (T : Tr) (q : Option Addr) (m cq : Nat) (w : World) (hs : MS W0 w sb M k p n c bs) (hv : M v = none) (hT : TIn W0 q m cq T) (hk : n + 1 ≤ k) :
    Calls Tryz.prog 52 #[.pointer (some ⟨sb, 0, none⟩), .int .i64 v, .slice q m cq] w (BindO W0 sb M k v T w) := by
  have c0 := hs.sub
  have hn2 : n ≤ 20000 := by have := hs.kle; omega
  have hroom := hs.room
  have HT : Hid (TIn W0 q m cq T) := hT
  have HFIN : Hid (∀ a w1 p' n' c', a ≤ bs.length → (∀ i, i < a → (bs.getD i Bnd.zero).1 < v) → (a < bs.length → v < (bs.getD a Bnd.zero).1) → Below w.heap.size w w1 → RowS W0 w1 w.heap.size p' n' c' (insB bs a (v, tcs T)) → BindO W0 sb M k v T w (.returned (.tuple #[])) (w1.setCell ⟨sb, 0, none⟩ (.slice p' n' c'))) := fun a w1 p' n' c' ha hlo hhi hb hr => bind_done hs hv ha hlo hhi hb hr hk
  have HS : Hid (MS W0 w sb M k p n c bs) := hs
  have HNE : Hid (∀ i, i < bs.length → (bs.getD i Bnd.zero).1 ≠ v) := fun i hi e => by
    rcases hs.bsr.rel v with ⟨u, h1, _⟩ | ⟨_, h2⟩
    · rw [hv] at h1; cases h1
    · rw [look_none] at h2
      exact h2 (by rw [← e]; exact List.mem_map.2 ⟨bs.getD i Bnd.zero, by simp [List.getD, hi], rfl⟩)
  clear hs hv hT hk
  go_enter Tryz.func52, Tryz.ntmps52
  go_wp2_with fail
  go_loopw [6] (fun i wr => ∃ (a : Nat), a ≤ n ∧ i = .int .i64 a ∧ Hid (w = wr) ∧ Hid (∀ i, i < a → (bs.getD i Bnd.zero).1 < v)) (fun i _ => n - (intOf i).toNat)
  case atStart => exact ⟨0, Nat.zero_le _, rfl, rfl, fun i hi => by omega⟩
  case round =>
    obtain ⟨a, ha, rfl, HWE, HLO⟩ := hrel
    obtain rfl := HWE.out
    by_cases hlt : a < n
    · have hlc : a < bs.length := by rw [← HS.out.len]; exact hlt
      obtain ⟨b, o, rfl, hcs⟩ := HS.out.lies (by omega)
      obtain ⟨q0, d0, e0, _⟩ := hcs a hlc
      have hne := HNE.out a hlc
      obtain ⟨y, ey⟩ : ∃ y, y = (bs.getD a Bnd.zero).1 := ⟨_, rfl⟩
      rw [← ey] at e0 hne
      by_cases hy : y < v
      · have HL2 : Hid (∀ i, i < a + 1 → (bs.getD i Bnd.zero).1 < v) := fun i hi => by
          by_cases e : i = a
          · rw [e, ← ey]; exact hy
          · exact HLO.out i (by omega)
        clear hcs ey hne hroom
        go_wp2_with fail
        go_roundw
        case rel => exact ⟨a + 1, by omega, by go_num, by first | exact (trivial : True) | exact rfl, HL2⟩
        case measure => simp [intOf]; omega
      · have hyn : decide (y < v) = false := by simpa using hy
        have HHI : Hid (a < bs.length → v < (bs.getD a Bnd.zero).1) := fun _ => by rw [← ey]; omega
        have hcap1 : ¬ c = a := by omega
        have hcap2 : ¬ c - a = 0 := by omega
        have hca : (0 : Int) < (c : Int) - (a : Int) := by omega
        clear ey hne hy
        have HL1 : Hid (Lies W0 w (some ⟨b, o, none⟩) a c (bs.take a)) := SubIn.fore hcs a (by omega) c
        have HL3 : Hid (Lies W0 w (some ⟨b, o + a * 2, none⟩) (n - a) (c - a) (bs.drop a)) := by have := SubIn.part hcs a (by omega) (c - a); rw [← HS.out.len] at this; exact this
        have hsb := World.block_lt_of_cell? _ _ c0
        have HSB : Hid (sb < w.heap.size) := hsb
        have HA : Hid (a ≤ bs.length) := by show a ≤ _; rw [← HS.out.len]; exact ha
        clear hcs hsb
        have tok1 : True := trivial
        go_wp2_with (at_builtin; first
          | (have _t := tok1
             refine app_sub W0 w rfl _ _ rfl w.heap.size none 0 0 [] rfl (RowS.nil _ _ _) (Nat.le_refl _) (some ⟨b, o, none⟩) a c (bs.take a) rfl HL1.out (by omega) ?_
             intro p1 n1 c1 w1 hr1 hg1 hn1
             clear tok1 _t
             have tok2 : True := trivial
             have HR1 : Hid (RowS W0 w1 w.heap.size p1 n1 c1 (bs.take a)) := by rw [List.nil_append] at hr1; exact hr1
             have HB1 : Hid (Below w.heap.size w w1) := (Below.refl _ _).grown hg1 (Nat.le_refl _) (fun k e => by simp [Value.ownBlock] at e)
             have HN1 : Hid (n1 = a) := (hn1.out.trans (Nat.zero_add _))
             have hn1b : n1 ≤ 20000 := by have := HN1.out; omega
             have hw1 : w.heap.size ≤ w1.heap.size := HB1.out.size
             have HLT : Hid (Lies W0 (w1.alloc (.cells #[.int .i64 v, .slice q m cq] 33)) (some ⟨w1.heap.size, 0, none⟩) 1 1 [(v, tcs T)]) := lies_one HT.out w1 v
             clear hr1 hg1 hn1)
          | (have _t := tok2
             refine app_sub W0 _ rfl _ _ rfl w.heap.size p1 n1 c1 (bs.take a) rfl (HR1.out.below ((Below.refl _ _).alloc (Nat.le_refl _) _)) (by simp; omega) (some ⟨w1.heap.size, 0, none⟩) 1 1 [(v, tcs T)] rfl HLT.out (by omega) ?_
             intro p2 n2 c2 w2 hr2 hg2 hn2
             clear tok2 _t
             have tok3 : True := trivial
             have hal : Below w.heap.size w (w1.alloc (.cells #[.int .i64 v, .slice q m cq] 33)) := HB1.out.alloc HB1.out.size _
             have HB2 : Hid (Below w.heap.size w w2) := hal.grown hg2 hal.size (fun k e => (HR1.out.own k e))
             have HR2 : Hid (RowS W0 w2 w.heap.size p2 n2 c2 (bs.take a ++ [(v, tcs T)])) := hr2
             have hn2b : n2 ≤ 20001 := by have := hn2.out; omega
             have hn2c : n2 = a + 1 := by have := hn2.out; have := HN1.out; omega
             have hw2 : w.heap.size ≤ w2.heap.size := HB2.out.size
             have hc2 : w2.cell? ⟨sb, 0, none⟩ = some (.slice (some ⟨b, o, none⟩) n c) := (HB2.out.cell HSB.out).trans c0
             have HL32 : Hid (Lies W0 w2 (some ⟨b, o + a * 2, none⟩) (n - a) (c - a) (bs.drop a)) := HL3.out.below HB2.out
             clear hr2 hg2 hn2 hal HLT hn2c)
          | (have _t := tok3
             refine app_sub W0 w2 rfl _ _ rfl w.heap.size p2 n2 c2 (bs.take a ++ [(v, tcs T)]) rfl HR2.out hw2 (some ⟨b, o + a * 2, none⟩) (n - a) (c - a) (bs.drop a) rfl HL32.out (by omega) ?_
             intro p3 n3 c3 w3 hr3 hg3 hn3
             clear tok3 _t
             have HB3 : Hid (Below w.heap.size w w3) := HB2.out.grown hg3 HB2.out.size (fun k e => (HR2.out.own k e))
             have HR3 : Hid (RowS W0 w3 w.heap.size p3 n3 c3 (insB bs a (v, tcs T))) := hr3
             have hc3 : w3.cell? ⟨sb, 0, none⟩ = some (.slice (some ⟨b, o, none⟩) n c) := (HB3.out.cell HSB.out).trans c0
             have hf3 : w3.frozen? ⟨sb, 0, none⟩ = false := (HB3.out.frozen (p := ⟨sb, 0, none⟩) HSB.out).trans (HS.out.free 0)
             clear hr3 hg3 hn3 hc2))
        refine bodyPost_end (v := .tuple #[]) (by simp [results, Tryz.results52, go_sem]) rfl ?_
        exact HFIN.out a w3 p3 n3 c3 HA.out HLO.out HHI.out HB3.out HR3.out
    · obtain rfl : a = n := by omega
      have HHI : Hid (a < bs.length → v < (bs.getD a Bnd.zero).1) := fun h => by have := HS.out.len; omega
      by_cases h0 : a = 0
      · obtain ⟨rfl, rfl⟩ := HS.out.zero h0
        have hbs : bs = [] := List.length_eq_zero_iff.1 (by have := HS.out.len; omega)
        subst h0
        have HL1 : Hid (Lies W0 w none 0 0 (bs.take 0)) := ⟨by rw [hbs]; rfl, .inl ⟨rfl, rfl, rfl⟩⟩
        have HL3 : Hid (Lies W0 w none 0 0 (bs.drop 0)) := ⟨by rw [hbs]; rfl, .inl ⟨rfl, rfl, rfl⟩⟩
        have hsb := World.block_lt_of_cell? _ _ c0
        have HSB : Hid (sb < w.heap.size) := hsb
        have HA : Hid (0 ≤ bs.length) := by show 0 ≤ _; rw [← HS.out.len]; exact ha
        clear hbs hsb
        have tok1 : True := trivial
        go_wp2_with (at_builtin; first
          | (have _t := tok1
             refine app_sub W0 w rfl _ _ rfl w.heap.size none 0 0 [] rfl (RowS.nil _ _ _) (Nat.le_refl _) none 0 0 (bs.take 0) rfl HL1.out (by omega) ?_
             intro p1 n1 c1 w1 hr1 hg1 hn1
             clear tok1 _t
             have tok2 : True := trivial
             have HR1 : Hid (RowS W0 w1 w.heap.size p1 n1 c1 (bs.take 0)) := by rw [List.nil_append] at hr1; exact hr1
             have HB1 : Hid (Below w.heap.size w w1) := (Below.refl _ _).grown hg1 (Nat.le_refl _) (fun k e => by simp [Value.ownBlock] at e)
             have HN1 : Hid (n1 = 0) := (hn1.out.trans (Nat.zero_add _))
             have hn1b : n1 ≤ 20000 := by have := HN1.out; omega
             have hw1 : w.heap.size ≤ w1.heap.size := HB1.out.size
             have HLT : Hid (Lies W0 (w1.alloc (.cells #[.int .i64 v, .slice q m cq] 33)) (some ⟨w1.heap.size, 0, none⟩) 1 1 [(v, tcs T)]) := lies_one HT.out w1 v
             clear hr1 hg1 hn1)
          | (have _t := tok2
             refine app_sub W0 _ rfl _ _ rfl w.heap.size p1 n1 c1 (bs.take 0) rfl (HR1.out.below ((Below.refl _ _).alloc (Nat.le_refl _) _)) (by simp; omega) (some ⟨w1.heap.size, 0, none⟩) 1 1 [(v, tcs T)] rfl HLT.out (by omega) ?_
             intro p2 n2 c2 w2 hr2 hg2 hn2
             clear tok2 _t
             have tok3 : True := trivial
             have hal : Below w.heap.size w (w1.alloc (.cells #[.int .i64 v, .slice q m cq] 33)) := HB1.out.alloc HB1.out.size _
             have HB2 : Hid (Below w.heap.size w w2) := hal.grown hg2 hal.size (fun k e => (HR1.out.own k e))
             have HR2 : Hid (RowS W0 w2 w.heap.size p2 n2 c2 (bs.take 0 ++ [(v, tcs T)])) := hr2
             have hn2b : n2 ≤ 20001 := by have := hn2.out; omega
             have hn2c : n2 = 0 + 1 := by have := hn2.out; have := HN1.out; omega
             have hw2 : w.heap.size ≤ w2.heap.size := HB2.out.size
             have hc2 : w2.cell? ⟨sb, 0, none⟩ = some (.slice none 0 0) := (HB2.out.cell HSB.out).trans c0
             have HL32 : Hid (Lies W0 w2 none 0 0 (bs.drop 0)) := HL3.out.below HB2.out
             clear hr2 hg2 hn2 hal HLT hn2c)
          | (have _t := tok3
             refine app_sub W0 w2 rfl _ _ rfl w.heap.size p2 n2 c2 (bs.take 0 ++ [(v, tcs T)]) rfl HR2.out hw2 none 0 0 (bs.drop 0) rfl HL32.out (by omega) ?_
             intro p3 n3 c3 w3 hr3 hg3 hn3
             clear tok3 _t
             have HB3 : Hid (Below w.heap.size w w3) := HB2.out.grown hg3 HB2.out.size (fun k e => (HR2.out.own k e))
             have HR3 : Hid (RowS W0 w3 w.heap.size p3 n3 c3 (insB bs 0 (v, tcs T))) := hr3
             have hc3 : w3.cell? ⟨sb, 0, none⟩ = some (.slice none 0 0) := (HB3.out.cell HSB.out).trans c0
             have hf3 : w3.frozen? ⟨sb, 0, none⟩ = false := (HB3.out.frozen (p := ⟨sb, 0, none⟩) HSB.out).trans (HS.out.free 0)
             clear hr3 hg3 hn3 hc2))
        refine bodyPost_end (v := .tuple #[]) (by simp [results, Tryz.results52, go_sem]) rfl ?_
        exact HFIN.out 0 w3 p3 n3 c3 HA.out HLO.out HHI.out HB3.out HR3.out
      · obtain ⟨b, o, rfl, hcs⟩ := HS.out.lies (by have := HS.out.len; omega)
        by_cases hca : c = a
        · subst hca
          have HL1 : Hid (Lies W0 w (some ⟨b, o, none⟩) c c (bs.take c)) := SubIn.fore hcs c (by have := HS.out.len; omega) c
          have HL3 : Hid (Lies W0 w (some ⟨b, o, none⟩) 0 0 (bs.drop c)) := ⟨by have := HS.out.len; simp; omega, .inr ⟨b, o, [], rfl, by rw [List.drop_eq_nil_of_le (by have := HS.out.len; omega)]; trivial, fun j u hj => by simp [flB] at hj⟩⟩
          have hsb := World.block_lt_of_cell? _ _ c0
          have HSB : Hid (sb < w.heap.size) := hsb
          have HA : Hid (c ≤ bs.length) := by show c ≤ _; rw [← HS.out.len]; exact ha
          clear hcs hsb
          have tok1 : True := trivial
          go_wp2_with (at_builtin; first
            | (have _t := tok1
               refine app_sub W0 w rfl _ _ rfl w.heap.size none 0 0 [] rfl (RowS.nil _ _ _) (Nat.le_refl _) (some ⟨b, o, none⟩) c c (bs.take c) rfl HL1.out (by omega) ?_
               intro p1 n1 c1 w1 hr1 hg1 hn1
               clear tok1 _t
               have tok2 : True := trivial
               have HR1 : Hid (RowS W0 w1 w.heap.size p1 n1 c1 (bs.take c)) := by rw [List.nil_append] at hr1; exact hr1
               have HB1 : Hid (Below w.heap.size w w1) := (Below.refl _ _).grown hg1 (Nat.le_refl _) (fun k e => by simp [Value.ownBlock] at e)
               have HN1 : Hid (n1 = c) := (hn1.out.trans (Nat.zero_add _))
               have hn1b : n1 ≤ 20000 := by have := HN1.out; omega
               have hw1 : w.heap.size ≤ w1.heap.size := HB1.out.size
               have HLT : Hid (Lies W0 (w1.alloc (.cells #[.int .i64 v, .slice q m cq] 33)) (some ⟨w1.heap.size, 0, none⟩) 1 1 [(v, tcs T)]) := lies_one HT.out w1 v
               clear hr1 hg1 hn1)
            | (have _t := tok2
               refine app_sub W0 _ rfl _ _ rfl w.heap.size p1 n1 c1 (bs.take c) rfl (HR1.out.below ((Below.refl _ _).alloc (Nat.le_refl _) _)) (by simp; omega) (some ⟨w1.heap.size, 0, none⟩) 1 1 [(v, tcs T)] rfl HLT.out (by omega) ?_
               intro p2 n2 c2 w2 hr2 hg2 hn2
               clear tok2 _t
               have tok3 : True := trivial
               have hal : Below w.heap.size w (w1.alloc (.cells #[.int .i64 v, .slice q m cq] 33)) := HB1.out.alloc HB1.out.size _
               have HB2 : Hid (Below w.heap.size w w2) := hal.grown hg2 hal.size (fun k e => (HR1.out.own k e))
               have HR2 : Hid (RowS W0 w2 w.heap.size p2 n2 c2 (bs.take c ++ [(v, tcs T)])) := hr2
               have hn2b : n2 ≤ 20001 := by have := hn2.out; omega
               have hn2c : n2 = c + 1 := by have := hn2.out; have := HN1.out; omega
               have hw2 : w.heap.size ≤ w2.heap.size := HB2.out.size
               have hc2 : w2.cell? ⟨sb, 0, none⟩ = some (.slice (some ⟨b, o, none⟩) c c) := (HB2.out.cell HSB.out).trans c0
               have HL32 : Hid (Lies W0 w2 (some ⟨b, o, none⟩) 0 0 (bs.drop c)) := HL3.out.below HB2.out
               clear hr2 hg2 hn2 hal HLT hn2c)
            | (have _t := tok3
               refine app_sub W0 w2 rfl _ _ rfl w.heap.size p2 n2 c2 (bs.take c ++ [(v, tcs T)]) rfl HR2.out hw2 (some ⟨b, o, none⟩) 0 0 (bs.drop c) rfl HL32.out (by omega) ?_
               intro p3 n3 c3 w3 hr3 hg3 hn3
               clear tok3 _t
               have HB3 : Hid (Below w.heap.size w w3) := HB2.out.grown hg3 HB2.out.size (fun k e => (HR2.out.own k e))
               have HR3 : Hid (RowS W0 w3 w.heap.size p3 n3 c3 (insB bs c (v, tcs T))) := hr3
               have hc3 : w3.cell? ⟨sb, 0, none⟩ = some (.slice (some ⟨b, o, none⟩) c c) := (HB3.out.cell HSB.out).trans c0
               have hf3 : w3.frozen? ⟨sb, 0, none⟩ = false := (HB3.out.frozen (p := ⟨sb, 0, none⟩) HSB.out).trans (HS.out.free 0)
               clear hr3 hg3 hn3 hc2))
          refine bodyPost_end (v := .tuple #[]) (by simp [results, Tryz.results52, go_sem]) rfl ?_
          exact HFIN.out c w3 p3 n3 c3 HA.out HLO.out HHI.out HB3.out HR3.out
        · have hcap1 : ¬ c = a := hca
          have hcap2 : ¬ c - a = 0 := by omega
          have hcx : (0 : Int) < (c : Int) - (a : Int) := by omega
          have HL1 : Hid (Lies W0 w (some ⟨b, o, none⟩) a c (bs.take a)) := SubIn.fore hcs a (by have := HS.out.len; omega) c
          have HL3 : Hid (Lies W0 w (some ⟨b, o + a * 2, none⟩) 0 (c - a) (bs.drop a)) := by have := SubIn.part hcs a (by have := HS.out.len; omega) (c - a); rw [show bs.length - a = 0 by have := HS.out.len; omega] at this; exact this
          have hsb := World.block_lt_of_cell? _ _ c0
          have HSB : Hid (sb < w.heap.size) := hsb
          have HA : Hid (a ≤ bs.length) := by show a ≤ _; rw [← HS.out.len]; exact ha
          clear hcs hca hsb
          have tok1 : True := trivial
          go_wp2_with (at_builtin; first
            | (have _t := tok1
               refine app_sub W0 w rfl _ _ rfl w.heap.size none 0 0 [] rfl (RowS.nil _ _ _) (Nat.le_refl _) (some ⟨b, o, none⟩) a c (bs.take a) rfl HL1.out (by omega) ?_
               intro p1 n1 c1 w1 hr1 hg1 hn1
               clear tok1 _t
               have tok2 : True := trivial
               have HR1 : Hid (RowS W0 w1 w.heap.size p1 n1 c1 (bs.take a)) := by rw [List.nil_append] at hr1; exact hr1
               have HB1 : Hid (Below w.heap.size w w1) := (Below.refl _ _).grown hg1 (Nat.le_refl _) (fun k e => by simp [Value.ownBlock] at e)
               have HN1 : Hid (n1 = a) := (hn1.out.trans (Nat.zero_add _))
               have hn1b : n1 ≤ 20000 := by have := HN1.out; omega
               have hw1 : w.heap.size ≤ w1.heap.size := HB1.out.size
               have HLT : Hid (Lies W0 (w1.alloc (.cells #[.int .i64 v, .slice q m cq] 33)) (some ⟨w1.heap.size, 0, none⟩) 1 1 [(v, tcs T)]) := lies_one HT.out w1 v
               clear hr1 hg1 hn1)
            | (have _t := tok2
               refine app_sub W0 _ rfl _ _ rfl w.heap.size p1 n1 c1 (bs.take a) rfl (HR1.out.below ((Below.refl _ _).alloc (Nat.le_refl _) _)) (by simp; omega) (some ⟨w1.heap.size, 0, none⟩) 1 1 [(v, tcs T)] rfl HLT.out (by omega) ?_
               intro p2 n2 c2 w2 hr2 hg2 hn2
               clear tok2 _t
               have tok3 : True := trivial
               have hal : Below w.heap.size w (w1.alloc (.cells #[.int .i64 v, .slice q m cq] 33)) := HB1.out.alloc HB1.out.size _
               have HB2 : Hid (Below w.heap.size w w2) := hal.grown hg2 hal.size (fun k e => (HR1.out.own k e))
               have HR2 : Hid (RowS W0 w2 w.heap.size p2 n2 c2 (bs.take a ++ [(v, tcs T)])) := hr2
               have hn2b : n2 ≤ 20001 := by have := hn2.out; omega
               have hn2c : n2 = a + 1 := by have := hn2.out; have := HN1.out; omega
               have hw2 : w.heap.size ≤ w2.heap.size := HB2.out.size
               have hc2 : w2.cell? ⟨sb, 0, none⟩ = some (.slice (some ⟨b, o, none⟩) a c) := (HB2.out.cell HSB.out).trans c0
               have HL32 : Hid (Lies W0 w2 (some ⟨b, o + a * 2, none⟩) 0 (c - a) (bs.drop a)) := HL3.out.below HB2.out
               clear hr2 hg2 hn2 hal HLT hn2c)
            | (have _t := tok3
               refine app_sub W0 w2 rfl _ _ rfl w.heap.size p2 n2 c2 (bs.take a ++ [(v, tcs T)]) rfl HR2.out hw2 (some ⟨b, o + a * 2, none⟩) 0 (c - a) (bs.drop a) rfl HL32.out (by omega) ?_
               intro p3 n3 c3 w3 hr3 hg3 hn3
               clear tok3 _t
               have HB3 : Hid (Below w.heap.size w w3) := HB2.out.grown hg3 HB2.out.size (fun k e => (HR2.out.own k e))
               have HR3 : Hid (RowS W0 w3 w.heap.size p3 n3 c3 (insB bs a (v, tcs T))) := hr3
               have hc3 : w3.cell? ⟨sb, 0, none⟩ = some (.slice (some ⟨b, o, none⟩) a c) := (HB3.out.cell HSB.out).trans c0
               have hf3 : w3.frozen? ⟨sb, 0, none⟩ = false := (HB3.out.frozen (p := ⟨sb, 0, none⟩) HSB.out).trans (HS.out.free 0)
               clear hr3 hg3 hn3 hc2))
          refine bodyPost_end (v := .tuple #[]) (by simp [results, Tryz.results52, go_sem]) rfl ?_
          exact HFIN.out a w3 p3 n3 c3 HA.out HLO.out HHI.out HB3.out HR3.out
end Go.Proofs.YtaakpdakeolgeaaGreat

namespace Go.Proofs.YtaakpdakeolgeaaGreat
open Go Go.RowKit
set_option linter.unusedVariables false
def Shut (M : BM) (v : Int) (S : List Int) (z : Tr) : Prop := ∀ y ∈ vsT z, y ≠ v ∧ (M y = none ∨ y ∈ S)
def Gone (M : BM) (t : Tr) (S : List Int) (z : Tr) : Prop := z = t ∨ ∃ x ∈ S, M x = some z
theorem Gone.more {M : BM} {t z : Tr} {S : List Int} (y : Int) (h : Gone M t S z) : Gone M t (y :: S) z := h.imp id fun ⟨x, hx, e⟩ => ⟨x, List.mem_cons_of_mem _ hx, e⟩
theorem Shut.more {M : BM} {v : Int} {z : Tr} {S : List Int} (y : Int) (h : Shut M v S z) : Shut M v (y :: S) z := fun w hw => ⟨(h w hw).1, (h w hw).2.imp id (List.mem_cons_of_mem _)⟩
theorem Reach.on {M : BM} {t u : Tr} {y w : Int} (h : Reach M t y) (hm : M y = some u) (hw : w ∈ vsT u) : Reach M t w := by
  induction h with
  | here h => exact .thro h hm (.here hw)
  | thro hw' hm' _ ih => exact .thro hw' hm' (ih hm)
structure StS (M : BM) (t : Tr) (v : Int) (S : List Int) (todo : List Tr) : Prop where
  nodup : S.Nodup
  clos : ∀ z, Gone M t S z → z ∈ todo ∨ Shut M v S z
  reach : ∀ z ∈ todo, ∀ y ∈ vsT z, Reach M t y
theorem StS.start (M : BM) (t : Tr) (v : Int) : StS M t v [] [t] := ⟨List.nodup_nil, fun z h => by
  rcases h with rfl | ⟨x, hx, _⟩
  · exact .inl (by simp)
  · exact absurd hx (by simp), fun z hz y hy => by rw [List.mem_singleton.1 hz] at hy; exact .here hy⟩
theorem StS.done {M : BM} {t : Tr} {v : Int} {S : List Int} (h : StS M t v S []) : ¬ Reach M t v := by
  have key : ∀ z, Reach M z v → Gone M t S z → False := fun z hr => by
    induction hr with
    | @here z w hw =>
      intro hg
      rcases h.clos z hg with h' | h'
      · cases h'
      · exact (h' w hw).1 rfl
    | @thro z u w v hw hm hr ih =>
      intro hg
      rcases h.clos z hg with h' | h'
      · cases h'
      · rcases (h' w hw).2 with h'' | h''
        · rw [hm] at h''; cases h''
        · exact ih h (.inr ⟨w, h'', hm⟩)
  exact fun hr => key t hr (.inl rfl)
structure StI (M : BM) (t : Tr) (v : Int) (S : List Int) (todo : List Tr) (z : Tr) (i : Nat) : Prop where
  nodup : S.Nodup
  clos : ∀ z', Gone M t S z' → z' ∈ todo ∨ z' = z ∨ Shut M v S z'
  reach : ∀ z' ∈ todo, ∀ y ∈ vsT z', Reach M t y
  here : ∀ y ∈ vsT z, Reach M t y
  pre : ∀ j, j < i → ((tcs z).getD j Cel.none).1 = 0 → ((tcs z).getD j Cel.none).2.1 ≠ v ∧ (M ((tcs z).getD j Cel.none).2.1 = none ∨ ((tcs z).getD j Cel.none).2.1 ∈ S)
theorem StS.take {M : BM} {t : Tr} {v : Int} {S : List Int} {todo : List Tr} {z : Tr} (h : StS M t v S (todo ++ [z])) : StI M t v S todo z 0 := ⟨h.nodup, fun z' hz => by
  rcases h.clos z' hz with h' | h'
  · rcases List.mem_append.1 h' with h' | h'
    · exact .inl h'
    · exact .inr (.inl (List.mem_singleton.1 h'))
  · exact .inr (.inr h'), fun z' hz => h.reach z' (List.mem_append.2 (.inl hz)), h.reach z (by simp), fun j hj => by omega⟩
theorem StI.shut {M : BM} {t : Tr} {v : Int} {S : List Int} {todo : List Tr} {z : Tr} (h : StI M t v S todo z (tcs z).length) : StS M t v S todo := by
  have hz : Shut M v S z := fun y hy => by
    obtain ⟨c, hc, h0, e⟩ := vs_cell z.fo y hy
    rw [tcs_fo] at hc
    obtain ⟨j, hj, ej⟩ := List.getElem_of_mem hc
    have := h.pre j hj
    rw [List.getD, List.getElem?_eq_getElem hj, Option.getD_some, ej, e] at this
    exact this h0
  exact ⟨h.nodup, fun z' hz' => by
    rcases h.clos z' hz' with h' | rfl | h'
    · exact .inl h'
    · exact .inr hz
    · exact .inr h', h.reach⟩
theorem StI.skip {M : BM} {t : Tr} {v : Int} {S : List Int} {todo : List Tr} {z : Tr} {i : Nat} (h : StI M t v S todo z i) (hc : ((tcs z).getD i Cel.none).1 = 0 → ((tcs z).getD i Cel.none).2.1 ≠ v ∧ (M ((tcs z).getD i Cel.none).2.1 = none ∨ ((tcs z).getD i Cel.none).2.1 ∈ S)) : StI M t v S todo z (i + 1) := ⟨h.nodup, h.clos, h.reach, h.here, fun j hj h0 => by
  by_cases e : j = i
  · rw [e] at h0 ⊢; exact hc h0
  · exact h.pre j (by omega) h0⟩
theorem cell_var {z : Tr} {i : Nat} (hi : i < (tcs z).length) (h0 : ((tcs z).getD i Cel.none).1 = 0) : ((tcs z).getD i Cel.none).2.1 ∈ vsT z := by
  have hm : (tcs z).getD i Cel.none ∈ z.fo.cells := by rw [tcs_fo]; simp [List.getD, hi]
  exact cell_vs z.fo _ hm h0
theorem StI.hit {M : BM} {t : Tr} {v : Int} {S : List Int} {todo : List Tr} {z : Tr} {i : Nat} (h : StI M t v S todo z i) (hi : i < (tcs z).length) (h0 : ((tcs z).getD i Cel.none).1 = 0) (e : ((tcs z).getD i Cel.none).2.1 = v) : Reach M t v := by
  have := h.here _ (cell_var hi h0)
  rw [e] at this
  exact this
theorem StI.push {M : BM} {t : Tr} {v : Int} {S : List Int} {todo : List Tr} {z u : Tr} {i : Nat} (h : StI M t v S todo z i) (hi : i < (tcs z).length) (h0 : ((tcs z).getD i Cel.none).1 = 0) (hne : ((tcs z).getD i Cel.none).2.1 ≠ v) (hm : M ((tcs z).getD i Cel.none).2.1 = some u) (hns : ((tcs z).getD i Cel.none).2.1 ∉ S) :
    StI M t v (((tcs z).getD i Cel.none).2.1 :: S) (todo ++ [u]) z (i + 1) := by
  have hr := h.here _ (cell_var hi h0)
  refine ⟨List.nodup_cons.2 ⟨hns, h.nodup⟩, fun z' hz' => ?_, fun z' hz' y hy => ?_, h.here, fun j hj hj0 => ?_⟩
  · rcases hz' with rfl | ⟨x, hx, e⟩
    · rcases h.clos z' (.inl rfl) with h' | h' | h'
      · exact .inl (List.mem_append.2 (.inl h'))
      · exact .inr (.inl h')
      · exact .inr (.inr (h'.more _))
    · rcases List.mem_cons.1 hx with rfl | hx
      · rw [hm] at e
        cases e
        exact .inl (by simp)
      · rcases h.clos z' (.inr ⟨x, hx, e⟩) with h' | h' | h'
        · exact .inl (List.mem_append.2 (.inl h'))
        · exact .inr (.inl h')
        · exact .inr (.inr (h'.more _))
  · rcases List.mem_append.1 hz' with h' | h'
    · exact h.reach z' h' y hy
    · rw [List.mem_singleton.1 h'] at hy
      exact hr.on hm hy
  · by_cases e : j = i
    · rw [e]; exact ⟨hne, .inr (by simp)⟩
    · have := h.pre j (by omega) hj0
      exact ⟨this.1, this.2.imp id (List.mem_cons_of_mem _)⟩
theorem runU_fuel (cF cC cL : Int) : ∀ (k : Nat) (M : BM) (ps : List TT) (M' : BM) (k' : Nat), runU cF cC cL k M ps = .ok (M', k') → k' ≤ k
  | k, M, [], M', k', h => by rw [runU_nil] at h; cases h; exact Nat.le_refl _
  | 0, M, p :: ps, M', k', h => by cases h
  | k + 1, M, p :: ps, M', k', h => by
    rw [runU] at h
    cases hs : stepE cF cC M (endB M p.1) (endB M p.2) with
    | error c => rw [hs] at h; cases h
    | ok r =>
      obtain ⟨M1, qs⟩ := r
      rw [hs] at h
      simp only at h
      have := runU_fuel cF cC cL k M1 (qs ++ ps) M' k' h
      omega
theorem runU_one (cF cC cL : Int) (k : Nat) (M : BM) (x y : Tr) : runU cF cC cL (k + 1) M [(x, y)] = match stepE cF cC M (endB M x) (endB M y) with
    | .error c => .error c
    | .ok (M', qs) => runU cF cC cL k M' qs := by
  rw [runU]
  cases hs : stepE cF cC M (endB M x) (endB M y) with
  | error c => rfl
  | ok r => simp only [List.append_nil]
theorem runU_cons (cF cC cL : Int) (k : Nat) (M : BM) (p : TT) (ps : List TT) : runU cF cC cL k M (p :: ps) = match runU cF cC cL k M [p] with
    | .error c => .error c
    | .ok (M', k') => runU cF cC cL k' M' ps := runU_append cF cC cL k M [p] ps
end Go.Proofs.YtaakpdakeolgeaaGreat

namespace Go.Proofs.YtaakpdakeolgeaaGreat
open Go Go.RowKit
set_option linter.unusedVariables false
set_option linter.unusedSimpArgs false
def ArgRowU (w : World) : List (Option Addr × Nat × Nat) → List Tr → Prop
  | [], [] => True
  | r :: rs, t :: ts => r.2.1 = 1 + t.2.cells.length ∧ r.2.1 ≤ r.2.2 ∧ r.2.2 ≤ 9223372036854775807 ∧ CIn w r.1 (t.1 :: t.2.cells) ∧ ArgRowU w rs ts
  | [], _ :: _ => False
  | _ :: _, [] => False
theorem ArgRowU.snoc {w : World} {r : Option Addr × Nat × Nat} {t : Tr} (h1 : r.2.1 = 1 + t.2.cells.length) (h2 : r.2.1 ≤ r.2.2) (h3 : r.2.2 ≤ 9223372036854775807) (h4 : CIn w r.1 (t.1 :: t.2.cells)) : ∀ {rs : List (Option Addr × Nat × Nat)} {ts : List Tr}, ArgRowU w rs ts → ArgRowU w (rs ++ [r]) (ts ++ [t])
  | [], [], _ => ⟨h1, h2, h3, h4, trivial⟩
  | _ :: _, _ :: _, h => ⟨h.1, h.2.1, h.2.2.1, h.2.2.2.1, ArgRowU.snoc h1 h2 h3 h4 h.2.2.2.2⟩
  | [], _ :: _, h => h.elim
  | _ :: _, [], h => h.elim
structure ArgStU (W0 w wr : World) (cs : List Cel) (k : Fo) (a : Nat) (D : List Tr) (G : Fo) (pt : Option Addr) (nt ct : Nat) (rs : List (Option Addr × Nat × Nat)) : Prop where
  gd : cs.drop a = G.cells
  gok : G.ok
  all : D ++ trs G = trs k
  cnt : nt = D.length
  row : wr.ownsRow w.heap.size 23 1 (.slice pt nt ct) nt (rs.map slV)
  arg : ArgRowU W0 rs D
  low : Below w.heap.size w wr
def ArgsOutU (W0 w : World) (k : Fo) (e : Ending) (w' : World) : Prop := ∃ q m mc rs, e = .returned (.slice q m mc) ∧ m = k.count ∧ w'.ownsRow w.heap.size 23 1 (.slice q m mc) m (rs.map slV) ∧ ArgRowU W0 rs (trs k) ∧ Below w.heap.size w w'
set_option maxRecDepth 100000 in
set_option maxHeartbeats 2000000 in
theorem l2argsU_any (c : Cel) (k : Fo) (p : Option Addr) (n cap : Nat) (W0 w : World) (hW : Below W0.heap.size W0 w) (h3 : c.1 = 3) (hok : (Fo.node c k .nil).ok) (hn : n = (c :: k.cells).length) (hnm : n ≤ 2000) (hcap : n ≤ cap) (hcm : cap ≤ 9223372036854775807) (hin0 : CIn W0 p (c :: k.cells)) :
    Calls Tryz.prog 54 #[.slice p n cap] w (ArgsOutU W0 w k) := by
  have hin := hin0.below hW
  obtain ⟨b, o, rfl, hcs⟩ := hin (by simp)
  obtain ⟨b0, o0, eb0, hcs0⟩ := hin0 (by simp)
  cases eb0
  have HK : Hid (∀ wr, Below w.heap.size w wr → wr.cell? ⟨b, o, none⟩ = some (.int .i64 3) ∧ wr.cell? ⟨b, o + 1, none⟩ = some (.int .i64 k.count)) := fun wr hb => by
    obtain ⟨p0, q0, d0, d1, _, _⟩ := (hcs 0 (by simp)).below hb
    simp only [List.getD_cons_zero, Nat.zero_mul, Nat.add_zero] at d0 d1
    rw [h3] at d0
    rw [hok.2.2.1 h3] at d1
    exact ⟨d0, d1⟩
  obtain ⟨d0, d1⟩ := HK.out w (Below.refl _ _)
  have hb20 : k.count ≤ 20 := by
    have h := hok.1
    rw [h3] at h
    have := cellB_comp h
    have := hok.2.2.1 h3
    omega
  have HST : Hid (ArgStU W0 w w (c :: k.cells) k 1 [] k none 0 0 []) := ⟨rfl, hok.2.2.2.2.1, rfl, rfl, World.ownsRow_nil _ _ _ _, trivial, Below.refl _ _⟩
  have HGL : Hid (1 + k.cells.length = n) := by show _ = _; rw [hn]; simp; omega
  obtain ⟨cs, ecs⟩ : ∃ cs, cs = c :: k.cells := ⟨_, rfl⟩
  rw [← ecs] at hcs hn HST hin hcs0
  have HX : Hid (∀ i, i < cs.length → CAt W0 b (o + i * 3) (cs.getD i Cel.none)) := hcs0
  have HIN : Hid (CIn w (some ⟨b, o, none⟩) cs) := hin
  have HN : Hid (n = cs.length) := hn
  obtain ⟨M, eM⟩ : ∃ M, M = k.count := ⟨_, rfl⟩
  have HM : Hid (M = k.count) := eM
  rw [← eM] at HK d1 hb20
  have hn0 : 0 < n := by have := HGL.out; omega
  have hn00 : ((n : Int) == 0) = false := by rw [beq_eq_false_iff_ne]; omega
  clear hcs hin hn ecs eM h3 hok hcs0 hin0
  go_enter Tryz.func54, Tryz.ntmps54
  go_wp2_with fail
  clear d0 d1
  go_loopw [3, 4, 5] (fun s3 s4 s5 wr => ∃ (a : Nat) (D : List Tr) (G : Fo) (pt : Option Addr) (nt ct : Nat) (rs : List (Option Addr × Nat × Nat)), a ≤ n ∧ nt ≤ M ∧ s3 = .slice pt nt ct ∧ s4 = .int .i64 a ∧ s5 = .int .i64 nt ∧ Hid (a + G.cells.length = n) ∧ Hid (ArgStU W0 w wr cs k a D G pt nt ct rs)) (fun _ _ i _ => M - (intOf i).toNat)
  case atStart => exact ⟨1, [], k, none, 0, 0, [], by omega, Nat.zero_le _, rfl, rfl, rfl, HGL.out, HST.out⟩
  case round =>
    obtain ⟨a, D, G, pt, nt, ct, rs, ha, hnt, rfl, rfl, rfl, HL, HS⟩ := hrel
    obtain ⟨d0, d1⟩ := HK.out wr HS.out.low
    by_cases hlt : nt < M
    · obtain ⟨c1, k1, r1, rfl⟩ : ∃ c k r, G = .node c k r := by
        cases G with
        | nil =>
          have h1 := HS.out.all
          have h2 := congrArg List.length h1
          have h3 := HS.out.cnt
          have h4 := HM.out
          simp [trs, trs_len] at h2
          omega
        | node c k r => exact ⟨c, k, r, rfl⟩
      have hgd : cs.drop a = c1 :: (k1.cells ++ r1.cells) := HS.out.gd
      have HO : Hid (Fo.node c1 k1 r1).ok := HS.out.gok
      have HT : Hid (Fo.node c1 k1 .nil).ok := ⟨HO.out.1, HO.out.2.1, HO.out.2.2.1, HO.out.2.2.2.1, HO.out.2.2.2.2.1, trivial⟩
      have HNX := l2next_any (some ⟨b, o, none⟩) n cap cs a c1 k1 r1.cells wr HN.out (by omega) hgd HT.out (HIN.out.below HS.out.low)
      have HPT : Hid (CIn W0 (some ⟨b, o + a * 3, none⟩) (c1 :: k1.cells)) := CIn.part HX.out a (by rw [hgd]; exact ⟨r1.cells, by simp⟩)
      obtain ⟨L, eL⟩ : ∃ L, L = 1 + k1.cells.length := ⟨_, rfl⟩
      have HEL : Hid (L = 1 + k1.cells.length) := eL
      have hnx : a + 1 + k1.cells.length = a + L := by omega
      have HDR : Hid (cs.drop (a + L) = r1.cells) := by
        show _ = _
        rw [← hnx, show a + 1 + k1.cells.length = (a + 1) + k1.cells.length by omega, ← List.drop_drop, (drop_cell hgd).2.2]; simp
      have hle : a + L ≤ n := by have := HL.out; simp [Fo.cells] at this; omega
      rw [hnx] at HNX
      have HLL : Hid (a + L + r1.cells.length = n) := by show _ = _; have := HL.out; simp [Fo.cells] at this; omega
      have hL1 : 1 ≤ L := by omega
      have hma : (0 : Int) < (cap : Int) - (a : Int) := by omega
      have hL2 : (a : Int) ≤ (a : Int) + (L : Int) := by omega
      have hL3 : (a : Int) + (L : Int) ≤ (n : Int) := by omega
      have hL4 : (a : Int) + (L : Int) ≤ (cap : Int) := by omega
      have hcap1 : ¬ cap = a := by omega
      have hcap2 : ¬ cap - a = 0 := by omega
      have hltI : (nt : Int) < (M : Int) := by omega
      clear hgd eL hnx
      go_wp2_with fail
      refine HNX.mono ?_
      rintro e w3 ⟨rfl, rfl⟩
      clear HNX
      go_wp2_with (at_builtin; refine app_sl _ rfl _ _ rfl w.heap.size pt nt ct rs (some ⟨b, o + a * 3, none⟩) L (cap - a) rfl HS.out.row rfl (by omega) HS.out.low.size ?_; intro g6 cap6 w6 hown6 hg6)
      have hbal := HS.out.low.alloc HS.out.low.size (.cells #[.slice (some ⟨b, o + a * 3, none⟩) L (cap - a)] 23)
      have HS6 : Hid (ArgStU W0 w w6 cs k (a + L) (D ++ [(c1, k1)]) r1 (some ⟨g6, 0, none⟩) (nt + 1) cap6 (rs ++ [(some ⟨b, o + a * 3, none⟩, L, cap - a)])) :=
        ⟨HDR.out, HO.out.2.2.2.2.2, by rw [← HS.out.all]; simp [trs], by rw [HS.out.cnt]; simp, hown6, ArgRowU.snoc HEL.out (by simp only; omega) (by simp only; omega) HPT.out HS.out.arg, hbal.grown hg6 hbal.size (fun k e => (HS.out.row.lt k e).1)⟩
      clear hown6 hg6 hbal
      go_roundw
      case rel => exact ⟨a + L, D ++ [(c1, k1)], r1, some ⟨g6, 0, none⟩, nt + 1, cap6, _, by omega, by omega, rfl, by go_num, by go_num, HLL.out, HS6⟩
      case measure => simp [intOf]; omega
    · obtain rfl : nt = M := by omega
      have HF : Hid (ArgRowU W0 rs (trs k)) := by
        show ArgRowU W0 rs (trs k)
        have h1 := HS.out.all
        have h2 := congrArg List.length h1
        have h3 := HS.out.cnt
        have h4 := HM.out
        simp [trs_len] at h2
        have h5 : trs G = [] := List.length_eq_zero_iff.1 (by rw [trs_len]; omega)
        rw [h5, List.append_nil] at h1
        rw [← h1]; exact HS.out.arg
      go_wp2_with fail
      go_ret
      exact ⟨pt, _, ct, rs, rfl, HM.out, HS.out.row, HF.out, HS.out.low⟩
set_option maxRecDepth 100000 in
set_option maxHeartbeats 1000000 in
theorem l2args_leaf (c : Cel) (k : Fo) (p : Option Addr) (n cap : Nat) (w : World) (h3 : c.1 ≠ 3) (hn : n = (c :: k.cells).length) (hnm : n ≤ 2000) (hin : CIn w p (c :: k.cells)) :
    Calls Tryz.prog 54 #[.slice p n cap] w fun e w' => e = .returned (.slice none 0 0) ∧ w' = w := by
  obtain ⟨b, o, rfl, hcs⟩ := hin (by simp)
  obtain ⟨p0, q0, d0, _⟩ := hcs 0 (by simp)
  simp only [List.getD_cons_zero, Nat.zero_mul, Nat.add_zero] at d0
  have hn0 : 0 < n := by rw [hn]; simp
  have hn00 : ((n : Int) == 0) = false := by rw [beq_eq_false_iff_ne]; omega
  have hk : (c.1 == 3) = false := by simpa using h3
  obtain ⟨kd, ek⟩ : ∃ kd, kd = c.1 := ⟨_, rfl⟩
  rw [← ek] at d0 hk
  clear hcs hin hn h3 ek
  go_enter Tryz.func54, Tryz.ntmps54
  go_wp2_with fail
  go_ret
  exact ⟨rfl, rfl⟩
end Go.Proofs.YtaakpdakeolgeaaGreat

namespace Go.Proofs.YtaakpdakeolgeaaGreat
open Go Go.RowKit
end Go.Proofs.YtaakpdakeolgeaaGreat

