/- Texts of NbS, IbS, IbT. Own work of the verifier. -/
import Derived.Test.YtfgaenggbbgboaaGreatDoorUqaz
import Derived.Test.YtfgaenggbbgboaaGreatDoorUqar
import Derived.Test.YtfgaenggbbgboaaGreatDoorUqak
import Derived.Deep.RegionHeld3
import Derived.Deep.AppendLies
import Derived.Test.YtfgaenggbbgboaaGreatDoorUqac
import Derived.Test.YtfgaenggbbgboaaGreatDoorUqaq
namespace Go.Proofs.YtfgaenggbbgboaaGreatDoor
open Go Go.RowKit
set_option linter.unusedVariables false
theorem l8body_all : ∀ M, SbOk M := by
  intro M
  induction M using Nat.strongRecOn with
  | ind M ih =>
    intro c k p n cap w hM hok hn hnl hcap hcm hin
    have hcl := hok.1
    obtain ⟨c0, c1, c2⟩ := c
    have h0 : c0 = 0 ∨ c0 = 1 ∨ c0 = 2 ∨ c0 = 3 := by simp only [cellB, decide_eq_true_eq] at hcl; omega
    rcases h0 with rfl | rfl | rfl | rfl
    · have hk : k = .nil := hok.2.2.2.1 (by simp)
      subst hk
      have e2 : c2 = [] := by simp [cellB] at hcl; exact hcl.2.2
      subst e2
      simp only [Fo.cells, List.length_nil] at hn
      subst hn
      exact l8body_var c1 p cap w hin
    · have hk : k = .nil := hok.2.2.2.1 (by simp)
      subst hk
      have e2 : c2 = [] := by simp [cellB] at hcl; exact hcl.2.2
      subst e2
      simp only [Fo.cells, List.length_nil] at hn
      subst hn
      exact l8body_num c1 p cap w hin
    · cases hd : dolL c2 with
      | true => exact l8body_dol (2, c1, c2) k p n cap w (.inl rfl) hd hok hn hin
      | false => exact l8body_same (2, c1, c2) k p n cap w (.inl rfl) hd hok hn hnl hin
    · cases hd : dolL c2 with
      | true => exact l8body_dol (3, c1, c2) k p n cap w (.inr rfl) hd hok hn hin
      | false =>
        have hc1 : c1 = (k.count : Int) := hok.2.2.1 rfl
        subst hc1
        cases hc : conC (3, (k.count : Int), c2) with
        | false => exact l8body_same (3, (k.count : Int), c2) k p n cap w (.inr ⟨rfl, hc⟩) hd hok hn hnl hin
        | true => exact l8body_con c2 k p n cap w k.count (fun m hm => ih m (by omega)) hc hd hok hn hnl hcap hcm hin
set_option maxRecDepth 100000 in
theorem specNormal_any (cs : List Cel) (p : Option Addr) (n cap : Nat) (w : World) (hn : n = cs.length) (hc : n ≤ cap) (hm : cap ≤ 1000000000) (hin : CIn w p cs) (r : List Cel × Int) (hr : normalR cs r) :
    Calls Tryz.prog 14 #[.slice p n cap] w (NbRes w r) := by
  have HV : Calls Tryz.prog 36 #[.slice p n cap] w fun e w' => e = .returned (.bool (validB cs)) ∧ Below w.heap.size w w' := by rw [hn]; exact specValid_any p cap cs w (by omega) hin
  unfold normalR at hr
  cases hv : validB cs with
  | false =>
    rw [hv] at HV hr
    rw [if_neg (by decide)] at hr
    subst hr
    clear hin hn hc hm hv
    go_enter Tryz.func14, Tryz.ntmps14
    go_wp2_with fail
    refine HV.mono ?_
    rintro e w1 ⟨rfl, hb⟩
    have HF : Hid (NbRes w ([], 1) (.returned (.tuple #[.slice none 0 0, .int .i64 1])) w1) := ⟨none, 0, 0, rfl, OwnC.nil _ _, hb⟩
    clear hb HV
    go_wp2_with fail
    go_ret2
    exact HF.out
  | true =>
    rw [hv] at HV hr
    rw [if_pos rfl] at hr
    obtain ⟨c, k, ec, hok, hl, hre⟩ := hr
    have HRE : Hid (r = normR cs (normT c k)) := hre
    have HB8 : Hid (∀ W, Below w.heap.size w W → Calls Tryz.prog 42 #[.slice p n cap] W (SbOut W (normT c k))) := fun W hW => l8body_all k.cells.length c k p n cap W (Nat.le_refl _) hok (by rw [hn, ec]; simp; omega) (by omega) hc hm (by have := hin.below hW; rwa [ec] at this)
    have HOK : Hid ((Fo.node c k .nil).ok ∧ k.cells.length ≤ 2000) := ⟨hok, by rw [ec] at hl; simp at hl; omega⟩
    clear hin hn hc hm hv ec hok hl hre
    cases hnt : normT c k with
    | none =>
      have HRR : Hid (r = ([], 4)) := by show _ = _; rw [HRE.out, hnt]; rfl
      rw [hnt] at HB8
      clear hnt
      go_enter Tryz.func14, Tryz.ntmps14
      go_wp2_with fail
      refine HV.mono ?_
      rintro e w1 ⟨rfl, hb⟩
      have HB1 : Hid (Below w.heap.size w w1) := hb
      have HT1 := HB8.out w1 hb
      clear hb HV
      go_wp2_with fail
      refine HT1.mono ?_
      rintro e w3 hout
      obtain ⟨hb3, rfl⟩ := hout
      have HB3 : Hid (Below w.heap.size w w3) := Below.on HB1.out hb3
      clear hb3 HT1
      go_wp2_with fail
      go_ret2
      rw [HRR.out]
      exact ⟨none, 0, 0, rfl, OwnC.nil _ _, HB3.out⟩
    | some G =>
      rw [hnt] at HB8
      obtain ⟨c', k', rfl, hok', hl'⟩ := normT_ok hnt HOK.out.1
      have hl2 : (Fo.node c' k' .nil).cells.length ≤ 10000 := by have := HOK.out.2; omega
      have HRE2 : Hid (r = normR cs (some (.node c' k' .nil))) := by show _ = _; rw [HRE.out, hnt]
      obtain ⟨gs, egs⟩ : ∃ gs, gs = (Fo.node c' k' .nil).cells := ⟨_, rfl⟩
      rw [← egs] at hl2
      have HGS : Hid (gs = (Fo.node c' k' .nil).cells) := egs
      clear hnt hok' hl' egs
      by_cases hs : gs.length ≤ 2000
      · have HRR : Hid (r = (gs, 0)) := by show _ = _; rw [HRE2.out]; unfold normR; simp only; rw [← HGS.out, if_pos hs]
        obtain ⟨L, eL⟩ : ∃ L, L = gs.length := ⟨_, rfl⟩
        have HL : Hid (L = gs.length) := eL
        rw [← eL] at hs hl2
        clear eL
        go_enter Tryz.func14, Tryz.ntmps14
        go_wp2_with fail
        refine HV.mono ?_
        rintro e w1 ⟨rfl, hb⟩
        have HB1 : Hid (Below w.heap.size w w1) := hb
        have HT1 := HB8.out w1 hb
        clear hb HV
        go_wp2_with fail
        refine HT1.mono ?_
        rintro e w3 hout
        obtain ⟨hb3, q, m, c2, rfl, ho⟩ := hout
        have hm : m = L := by rw [ho.1, HL.out, HGS.out]
        subst hm
        have HF : Hid (NbRes w (gs, 0) (.returned (.tuple #[.slice q m c2, .int .i64 0])) w3) := ⟨q, m, c2, rfl, by rw [HGS.out]; exact ho.mono HB1.out.size, Below.on HB1.out hb3⟩
        clear hb3 HT1 ho
        go_wp2_with fail
        go_ret2
        rw [HRR.out]
        exact HF.out
      · have HRR : Hid (r = ([], 3)) := by show _ = _; rw [HRE2.out]; unfold normR; simp only; rw [← HGS.out, if_neg hs]
        obtain ⟨L, eL⟩ : ∃ L, L = gs.length := ⟨_, rfl⟩
        have HL : Hid (L = gs.length) := eL
        rw [← eL] at hs hl2
        clear eL
        go_enter Tryz.func14, Tryz.ntmps14
        go_wp2_with fail
        refine HV.mono ?_
        rintro e w1 ⟨rfl, hb⟩
        have HB1 : Hid (Below w.heap.size w w1) := hb
        have HT1 := HB8.out w1 hb
        clear hb HV
        go_wp2_with fail
        refine HT1.mono ?_
        rintro e w3 hout
        obtain ⟨hb3, q, m, c2, rfl, ho⟩ := hout
        have hm : m = L := by rw [ho.1, HL.out, HGS.out]
        subst hm
        have HB3 : Hid (Below w.heap.size w w3) := Below.on HB1.out hb3
        clear hb3 HT1 ho
        go_wp2_with fail
        go_ret2
        rw [HRR.out]
        exact ⟨none, 0, 0, rfl, OwnC.nil _ _, HB3.out⟩
end Go.Proofs.YtfgaenggbbgboaaGreatDoor

namespace Go.Proofs.YtfgaenggbbgboaaGreatDoor
open Go Go.RowKit
set_option linter.unusedVariables false
theorem infoIntN : (Tryz.prog.info? 3).map (fun i => (i.zero, i.size, i.bytes)) = some (some (.int .i64 0), 1, 8) := by kernel_rfl
theorem rowsN {w : World} {B B' s s' n n' : Nat} {e e' : TypeId} {v v' : Value} {xs xs' : List Value} (h : w.ownsRow B e s v n xs) (h' : w.ownsRow B' e' s' v' n' xs') (hne : e ≠ e') : v.ownBlock = none ∨ v.ownBlock ≠ v'.ownBlock := by
  rcases h.2 with ⟨rfl, _⟩ | ⟨g, cap, cur, rfl, _, hh, _⟩
  · exact .inl rfl
  · right
    intro e0
    rcases h'.2 with ⟨rfl, _⟩ | ⟨g', cap', cur', rfl, _, hh', _⟩
    · cases e0
    · cases e0
      rw [hh] at hh'
      simp only [Option.some.injEq, Obj.cells.injEq] at hh'
      exact hne hh'.2.1
theorem new_one (w : World) (u : Value) (t : TypeId) : ∀ j x, [u][j]? = some x → (w.alloc (.cells #[u] t)).cell? ((⟨w.heap.size, 0, none⟩ : Addr).add j) = some x := fun j x hx => by
  match j, hx with
  | 0, hx => simp at hx; rw [← hx]; simp [Addr.add, World.cell?_alloc_new]
  | j + 1, hx => simp at hx
theorem take_next {α : Type} (l : List α) (j : Nat) (h : j < l.length) : l.take (j + 1) = l.take j ++ [l[j]] := by
  rw [List.take_add_one, List.getElem?_eq_getElem h]; rfl
theorem app_strI (w : World) {ops : Array Oper} {rest : List Oper} {o : Oper} {a : Act} {Q : Exit → Act → World → Prop} (hgd : o.guard = none) (s x : Operand)
    (ho : o.op = .call { callee := .builtin .append, args := #[s, x], argTypes := #[93, 93] }) (B : Nat) (p : Option Addr) (n c : Nat) (vs : List Value) (z : ByteArray)
    (hs : a.eval s = .slice p n c) (hown : w.ownsRow B 9 1 (.slice p n c) n vs) (hx : a.eval x = .slice (some ⟨w.heap.size, 0, none⟩) 1 1) (hlen : n + 1 ≤ 1000000) (hbase : B ≤ w.heap.size)
    (h : ∀ g cap w', w'.ownsRow B 9 1 (.slice (some ⟨g, 0, none⟩) (n + 1) cap) (n + 1) (vs ++ [.string z]) → (w.alloc (.cells #[.string z] 9)).grownBy w' (Value.ownBlock (.slice p n c)) → (Value.ownBlock (.slice p n c) = some g ∨ w.heap.size < g) → wpList Tryz.prog ops Q rest (a.put o.dst (.slice (some ⟨g, 0, none⟩) (n + 1) cap)) w') : wpList Tryz.prog ops Q (o :: rest) a (w.alloc (.cells #[.string z] 9)) := by
  obtain ⟨i0, hi, hz0, hz1, hz2⟩ := info_parts infoStr
  refine wpList_append_lies _ hgd s x 93 ho B 9 i0 (.string ⟨#[]⟩) 1 16 Tryz.underlying93 hi hz0 hz1 hz2 rfl (by decide) (.slice p n c) n vs hs (hown.alloc _) ⟨w.heap.size, 0, none⟩ 1 1 [.string z] hx rfl (new_one _ _ _) (fun u hu => by simp at hu; rw [hu]; rfl) (by decide) (by unfold maxLen; omega) (by omega) (by simp; omega) _ rfl ?_
  intro g cap w' h1 h2 h3 h4
  exact h g cap w' h1 h2 (h3.imp id fun e => by rw [e]; simp)
theorem app_num (w : World) {ops : Array Oper} {rest : List Oper} {o : Oper} {a : Act} {Q : Exit → Act → World → Prop} (hgd : o.guard = none) (s x : Operand)
    (ho : o.op = .call { callee := .builtin .append, args := #[s, x], argTypes := #[94, 94] }) (B : Nat) (p : Option Addr) (n c : Nat) (vs : List Value) (z : Int)
    (hs : a.eval s = .slice p n c) (hown : w.ownsRow B 3 1 (.slice p n c) n vs) (hx : a.eval x = .slice (some ⟨w.heap.size, 0, none⟩) 1 1) (hlen : n + 1 ≤ 1000000) (hbase : B ≤ w.heap.size)
    (h : ∀ g cap w', w'.ownsRow B 3 1 (.slice (some ⟨g, 0, none⟩) (n + 1) cap) (n + 1) (vs ++ [.int .i64 z]) → (w.alloc (.cells #[.int .i64 z] 3)).grownBy w' (Value.ownBlock (.slice p n c)) → wpList Tryz.prog ops Q rest (a.put o.dst (.slice (some ⟨g, 0, none⟩) (n + 1) cap)) w') : wpList Tryz.prog ops Q (o :: rest) a (w.alloc (.cells #[.int .i64 z] 3)) := by
  obtain ⟨i0, hi, hz0, hz1, hz2⟩ := info_parts infoIntN
  refine wpList_append_lies _ hgd s x 94 ho B 3 i0 (.int .i64 0) 1 8 Tryz.underlying94 hi hz0 hz1 hz2 rfl (by decide) (.slice p n c) n vs hs (hown.alloc _) ⟨w.heap.size, 0, none⟩ 1 1 [.int .i64 z] hx rfl (new_one _ _ _) (fun u hu => by simp at hu; rw [hu]; rfl) (by decide) (by unfold maxLen; omega) (by omega) (by simp; omega) _ rfl ?_
  intro g cap w' h1 h2 h3 h4
  exact h g cap w' h1 h2
structure TbS (B : Nat) (W : World) (p1 p2 : Option Addr) (n c1 c2 : Nat) (L : List (List UInt8 × Int)) : Prop where
  len : n = L.length
  nam : W.ownsRow B 9 1 (.slice p1 n c1) n (L.map fun x => strV x.1)
  ari : W.ownsRow B 3 1 (.slice p2 n c2) n (L.map fun x => .int .i64 x.2)
theorem kept_none {w w' : World} {B s n : Nat} {e : TypeId} {v : Value} {xs : List Value} (h : w.ownsRow B e s v n xs) (hb : Below w.heap.size w w') : w'.ownsRow B e s v n xs :=
  h.kept (row := none) ⟨hb.os, hb.tape, hb.output, hb.size, fun k hk _ => hb.block k hk⟩ (by cases v.ownBlock <;> simp)
theorem TbS.below {B : Nat} {W W' : World} {p1 p2 : Option Addr} {n c1 c2 : Nat} {L : List (List UInt8 × Int)} (h : TbS B W p1 p2 n c1 c2 L) (hb : Below W.heap.size W W') : TbS B W' p1 p2 n c1 c2 L := ⟨h.len, kept_none h.nam hb, kept_none h.ari hb⟩
def TabOut (w : World) (e : Ending) (w' : World) : Prop := ∃ p1 p2 n c1 c2, e = .returned (.tuple #[.slice p1 n c1, .slice p2 n c2]) ∧ n = 45 ∧ (∃ B, TbS B w' p1 p2 n c1 c2 (bTab 4)) ∧ Below w.heap.size w w'
def rowsV : List Value := bRows.map strV
theorem rows_at (w : World) (t : TypeId) (k : Nat) (hk : k < 4) : (w.alloc (.cells rowsV.toArray t)).cell? ⟨w.heap.size, k, none⟩ = some (strV (bRow k)) := by
  rw [World.cell?_alloc_new]
  match k, hk with
  | 0, _ => rfl
  | 1, _ => rfl
  | 2, _ => rfl
  | 3, _ => rfl
set_option maxRecDepth 100000 in
set_option maxHeartbeats 4000000 in
theorem l7table_any (w : World) : Calls Tryz.prog 57 #[] w (TabOut w) := by
  obtain ⟨wA, eA⟩ : ∃ wA, wA = w.alloc (.cells rowsV.toArray 9) := ⟨_, rfl⟩
  have HD : Hid (∀ k, k < 4 → wA.cell? ⟨w.heap.size, k, none⟩ = some (strV (bRow k))) := fun k hk => by rw [eA]; exact rows_at w _ k hk
  have HBA : Hid (Below w.heap.size w wA) := by rw [eA]; exact (Below.refl _ _).alloc (Nat.le_refl _) _
  have HLEN : Hid (∀ k, k < 4 → (bRow k).length ≤ 400 ∧ (wd [] (bRow k)).length ≤ 45 ∧ (bTab k).length + (wd [] (bRow k)).length ≤ 45) := fun k hk => by
    have := List.all_eq_true.1 bTab_len.2 k (List.mem_range.2 hk)
    simpa using this
  go_enter Tryz.func57, Tryz.ntmps57
  go_wp2_with fail
  have eA' : wA = w.alloc (Obj.cells #[.string ⟨#[116, 114, 117, 101, 32, 102, 97, 105, 108, 32, 102, 97, 108, 115, 101, 32, 110, 108]⟩, .string ⟨#[118, 97, 114, 32, 110, 111, 110, 118, 97, 114, 32, 97, 116, 111, 109, 32, 105, 110, 116, 101, 103, 101, 114, 32, 97, 116, 111, 109, 105, 99, 32, 99, 111, 109, 112, 111, 117, 110, 100, 32, 99, 97, 108, 108, 97, 98, 108, 101, 32, 105, 115, 95, 108, 105, 115, 116, 32, 103, 114, 111, 117, 110, 100, 32, 119, 114, 105, 116, 101, 32, 119, 114, 105, 116, 101, 113, 32, 112, 114, 105, 110, 116, 32, 116, 97, 98]⟩, .string ⟨#[61, 32, 92, 61, 32, 61, 61, 32, 92, 61, 61, 32, 64, 60, 32, 64, 61, 60, 32, 64, 62, 32, 64, 62, 61, 32, 105, 115, 32, 61, 58, 61, 32, 61, 92, 61, 32, 60, 32, 61, 60, 32, 62, 32, 62, 61, 32, 61, 46, 46, 32, 99, 111, 112, 121, 95, 116, 101, 114, 109, 32, 108, 101, 110, 103, 116, 104, 32, 97, 116, 111, 109, 95, 108, 101, 110, 103, 116, 104, 32, 97, 116, 111, 109, 95, 99, 111, 100, 101, 115, 32, 97, 116, 111, 109, 95, 99, 104, 97, 114, 115, 32, 99, 104, 97, 114, 95, 99, 111, 100, 101, 32, 110, 117, 109, 98, 101, 114, 95, 99, 111, 100, 101, 115, 32, 109, 115, 111, 114, 116, 32, 115, 111, 114, 116]⟩, .string ⟨#[99, 111, 109, 112, 97, 114, 101, 32, 102, 117, 110, 99, 116, 111, 114, 32, 97, 114, 103]⟩] 9) := by rw [eA]; rfl
  rw [← eA']
  clear eA eA'
  go_loopw [3, 4, 5] (fun s a i wr => ∃ (k n c1 c2 : Nat) (p1 p2 : Option Addr), k ≤ 4 ∧ n ≤ 45 ∧ s = .slice p1 n c1 ∧ a = .slice p2 n c2 ∧ i = .int .i64 k ∧ Hid (TbS wA.heap.size wr p1 p2 n c1 c2 (bTab k)) ∧ Hid (Below wA.heap.size wA wr)) (fun _ _ i _ => 4 - (intOf i).toNat)
  case atStart => exact ⟨0, 0, 0, 0, none, none, by omega, by omega, rfl, rfl, rfl, ⟨rfl, World.ownsRow_nil _ _ _ _, World.ownsRow_nil _ _ _ _⟩, Below.refl _ _⟩
  case round =>
    obtain ⟨k, n, c1, c2, p1, p2, hk, hn, rfl, rfl, rfl, HT, HB⟩ := hrel
    by_cases hlt : k < 4
    · obtain ⟨hl1, hl2, hl3⟩ := HLEN.out k hlt
      have d0 := (HB.out.cell (World.block_lt_of_cell? _ _ (HD.out k hlt))).trans (HD.out k hlt)
      have HW := l3words_any (bRow k) wr (by omega)
      obtain ⟨ws, ews⟩ : ∃ ws, ws = wd [] (bRow k) := ⟨_, rfl⟩
      have HEW : Hid (ws = wd [] (bRow k)) := ews
      rw [← ews] at HW hl2 hl3
      obtain ⟨sr, esr⟩ : ∃ s, s = bOf (bRow k) := ⟨_, rfl⟩
      simp only [strV] at d0
      rw [← esr] at d0 HW
      clear esr ews hl1
      go_wp2_with fail
      refine HW.mono ?_
      rintro e w2 ⟨pw, nw, cw, rfl, hnw, hrow2, hb2⟩
      have HNW : Hid (nw = ws.length) := hnw
      have hnw45 : nw ≤ 45 := by omega
      have HT2 : Hid (TbS wA.heap.size w2 p1 p2 n c1 c2 (bTab k)) := HT.out.below hb2
      have HB2 : Hid (Below wA.heap.size wA w2) := Below.on HB.out hb2
      obtain ⟨Bw, eBw⟩ : ∃ B, B = wr.heap.size := ⟨_, rfl⟩
      have HR2 : Hid (w2.ownsRow Bw 9 1 (.slice pw nw cw) nw (ws.map strV)) := by rw [eBw]; exact hrow2
      have HAP : Hid (Value.ownBlock (.slice p1 n c1) = none ∨ Value.ownBlock (.slice p1 n c1) ≠ Value.ownBlock (.slice pw nw cw)) := by
        cases h1 : Value.ownBlock (.slice p1 n c1) with
        | none => exact .inl rfl
        | some g =>
          right
          intro h2
          have h3 := (HT.out.nam.lt g h1).2
          have h4 := (hrow2.lt g h2.symm).1
          omega
      clear hrow2 hb2 hnw HW d0 eBw
      go_wp2_with fail
      go_loopw [3, 4, 7] (fun s a i wv => ∃ (j n c1 c2 : Nat) (p1 p2 : Option Addr), j ≤ nw ∧ n ≤ 45 ∧ s = .slice p1 n c1 ∧ a = .slice p2 n c2 ∧ i = .int .i64 j ∧ Hid (TbS wA.heap.size wv p1 p2 n c1 c2 (bTab k ++ (ws.take j).map fun x => (x, (k : Int)))) ∧ Hid (wv.ownsRow Bw 9 1 (.slice pw nw cw) nw (ws.map strV)) ∧ Hid (Value.ownBlock (.slice p1 n c1) = none ∨ Value.ownBlock (.slice p1 n c1) ≠ Value.ownBlock (.slice pw nw cw)) ∧ Hid (Below wA.heap.size wA wv)) (fun _ _ i _ => nw - (intOf i).toNat)
      case atStart => exact ⟨0, n, c1, c2, p1, p2, Nat.zero_le _, hn, rfl, rfl, rfl, by simpa using HT2, HR2, HAP, HB2⟩
      case round =>
        obtain ⟨j, n5, c5, d5, p5, q5, hj, hn5, rfl, rfl, rfl, HT5, HR5, HA5, HB5⟩ := hrel
        by_cases hlj : j < nw
        · obtain ⟨gw, capw, hv, _⟩ := HR5.out.form (by omega)
          simp only [Value.slice.injEq] at hv
          obtain ⟨rfl, hq0⟩ := hv
          clear hq0
          have hjw : j < ws.length := by have := HNW.out; omega
          have hcw : wr.cell? ⟨gw, j, none⟩ = some (strV ws[j]) := by
            rw [HR5.out.cellAt j (by omega)]
            simp [hjw]
          obtain ⟨sx, esx⟩ : ∃ s, s = bOf ws[j] := ⟨_, rfl⟩
          have HSX : Hid (sx = bOf ws[j]) := esx
          simp only [strV] at hcw
          rw [← esx] at hcw
          have hBv : wA.heap.size ≤ wr.heap.size := HB5.out.size
          have HBV : Hid (wA.heap.size ≤ wr.heap.size) := hBv
          have hnn : n5 + 1 ≤ 45 := by
            have h1 := HT5.out.len
            rw [h1]
            simp only [List.length_append, List.length_map, List.length_take]
            omega
          have HL5 : Hid (n5 = (bTab k ++ (ws.take j).map fun x => (x, (k : Int))).length) := HT5.out.len
          clear esx
          go_wp2_with (first
            | (at_builtin; refine app_strI _ rfl _ _ rfl wA.heap.size p5 n5 c5 _ sx rfl HT5.out.nam rfl (by omega) HBV.out ?_; intro g6 cap6 w6 hrow6 hg6 hat6; have hne1 : Value.ownBlock (.slice q5 n5 d5) = none ∨ Value.ownBlock (.slice q5 n5 d5) ≠ Value.ownBlock (.slice p5 n5 c5) := rowsN HT5.out.ari HT5.out.nam (by decide); have HAR : Hid (w6.ownsRow wA.heap.size 3 1 (.slice q5 n5 d5) n5 ((bTab k ++ (ws.take j).map fun x => (x, (k : Int))).map fun x => .int .i64 x.2)) := (HT5.out.ari.alloc _).kept hg6 hne1; have HB6 : Hid (Below wA.heap.size wA w6) := (HB5.out.alloc HBV.out _).grown hg6 (by simp; have := HBV.out; omega) (fun kk hkk => (HT5.out.nam.lt kk hkk).1); have HSZ6 : Hid (wA.heap.size ≤ w6.heap.size) := HB6.out.size)
            | (at_builtin; refine app_num _ rfl _ _ rfl wA.heap.size q5 n5 d5 _ (k : Int) rfl HAR.out rfl (by omega) HSZ6.out ?_; intro g7 cap7 w7 hrow7 hg7))
          have HRW : Hid (w6.ownsRow Bw 9 1 (.slice (some ⟨gw, 0, none⟩) nw cw) nw (ws.map strV)) := (HR5.out.alloc _).kept hg6 (by
            rcases HA5.out with h | h
            · rw [h]; right; intro h2; cases h2
            · exact .inr fun h2 => h h2.symm)
          have HA6 : Hid (g6 ≠ gw) := fun e => by
            subst e
            rcases hat6 with h | h
            · rcases HA5.out with h2 | h2
              · rw [h2] at h; cases h
              · exact h2 h
            · have := World.block_lt_of_cell? _ _ hcw
              simp at this
              omega
          have HN6 : Hid (w6.ownsRow wA.heap.size 9 1 (.slice (some ⟨g6, 0, none⟩) (n5 + 1) cap6) (n5 + 1) ((bTab k ++ (ws.take (j + 1)).map fun x => (x, (k : Int))).map fun x => strV x.1)) := by
            have e : (bTab k ++ (ws.take (j + 1)).map fun x => (x, (k : Int))).map (fun x => strV x.1) = (bTab k ++ (ws.take j).map fun x => (x, (k : Int))).map (fun x => strV x.1) ++ [.string sx] := by
              rw [HSX.out, take_next ws j hjw]
              simp only [List.map_append, List.map_cons, List.map_nil, List.append_assoc, strV]
            rw [e]; exact hrow6
          have hne2 : Value.ownBlock (.slice (some ⟨g6, 0, none⟩) (n5 + 1) cap6) = none ∨ Value.ownBlock (.slice (some ⟨g6, 0, none⟩) (n5 + 1) cap6) ≠ Value.ownBlock (.slice q5 n5 d5) := rowsN HN6.out HAR.out (by decide)
          have hne3 : Value.ownBlock (.slice (some ⟨gw, 0, none⟩) nw cw) = none ∨ Value.ownBlock (.slice (some ⟨gw, 0, none⟩) nw cw) ≠ Value.ownBlock (.slice q5 n5 d5) := rowsN HRW.out HAR.out (by decide)
          have HT7 : Hid (TbS wA.heap.size w7 (some ⟨g6, 0, none⟩) (some ⟨g7, 0, none⟩) (n5 + 1) cap6 cap7 (bTab k ++ (ws.take (j + 1)).map fun x => (x, (k : Int)))) := by
            refine ⟨?_, (HN6.out.alloc _).kept hg7 hne2, ?_⟩
            · have h1 := HL5.out
              rw [h1]
              simp only [List.length_append, List.length_map, List.length_take]
              omega
            · have e : (bTab k ++ (ws.take (j + 1)).map fun x => (x, (k : Int))).map (fun x => Value.int .i64 x.2) = (bTab k ++ (ws.take j).map fun x => (x, (k : Int))).map (fun x => Value.int .i64 x.2) ++ [.int .i64 k] := by
                rw [take_next ws j hjw]
                simp only [List.map_append, List.map_cons, List.map_nil, List.append_assoc]
              rw [e]; exact hrow7
          have HR7 : Hid (w7.ownsRow Bw 9 1 (.slice (some ⟨gw, 0, none⟩) nw cw) nw (ws.map strV)) := (HRW.out.alloc _).kept hg7 hne3
          have HA7 : Hid (Value.ownBlock (.slice (some ⟨g6, 0, none⟩) (n5 + 1) cap6) = none ∨ Value.ownBlock (.slice (some ⟨g6, 0, none⟩) (n5 + 1) cap6) ≠ Value.ownBlock (.slice (some ⟨gw, 0, none⟩) nw cw)) := .inr fun h => HA6.out (by simpa [Value.ownBlock] using h)
          have HB7 : Hid (Below wA.heap.size wA w7) := (HB6.out.alloc HSZ6.out _).grown hg7 (by simp; have := HSZ6.out; omega) (fun kk hkk => (HAR.out.lt kk hkk).1)
          clear hrow7 hg7 hne2 hne3 HAR HRW HN6 HB6 HSZ6 HA6 hrow6 hg6 hat6 hne1 hcw HT5 HR5 HA5 HB5 hBv HBV
          go_wp2_with fail
          go_roundw
          case rel => exact ⟨j + 1, n5 + 1, cap6, cap7, _, _, by omega, by omega, rfl, rfl, by go_num, HT7, HR7, HA7, HB7⟩
          case measure => simp [intOf]; omega
        · obtain rfl : j = nw := by omega
          have HT6 : Hid (TbS wA.heap.size wr p5 q5 n5 c5 d5 (bTab (k + 1))) := by
            show TbS _ _ _ _ _ _ _ _
            rw [bTab_next, ← HEW.out]
            have h1 := HT5.out
            rw [HNW.out, List.take_length] at h1
            exact h1
          go_wp2_with fail
          go_roundw
          case rel => exact ⟨k + 1, n5, c5, d5, p5, q5, by omega, hn5, rfl, rfl, by go_num, HT6, HB5⟩
          case measure => simp [intOf]; omega
    · obtain rfl : k = 4 := by omega
      have HF : Hid (n = 45) := HT.out.len.trans bTab_len.1
      go_wp2_with fail
      go_ret2
      exact ⟨p1, p2, n, c1, c2, rfl, HF.out, ⟨_, HT.out⟩, HBA.out.trans (HB.out.mono HBA.out.size)⟩
end Go.Proofs.YtfgaenggbbgboaaGreatDoor

namespace Go.Proofs.YtfgaenggbbgboaaGreatDoor
open Go Go.RowKit
set_option linter.unusedVariables false
def bAt (j : Nat) : List UInt8 × Int := (bTab 4).getD j ([], 0)
theorem bAt_get (j : Nat) (h : j < 45) : (bTab 4)[j]? = some (bAt j) := by
  have : j < (bTab 4).length := by rw [bTab_len.1]; exact h
  rw [bAt, List.getD_eq_getElem?_getD, List.getElem?_eq_getElem this]; rfl
theorem isBu_hit {x : List UInt8} {a : Int} {j : Nat} (hj : j < 45) (h1 : (bAt j).1 = x) (h2 : (bAt j).2 = a) : isBu x a = true := by
  unfold isBu
  refine List.any_eq_true.2 ⟨bAt j, List.mem_of_getElem? (bAt_get j hj), ?_⟩
  simp [h1, h2]
theorem isBu_miss {x : List UInt8} {a : Int} (h : ∀ q, q < 45 → ¬ ((bAt q).1 = x ∧ (bAt q).2 = a)) : isBu x a = false := by
  cases hb : isBu x a with
  | false => rfl
  | true =>
    exfalso
    unfold isBu at hb
    obtain ⟨p, hp, h2⟩ := List.any_eq_true.1 hb
    obtain ⟨j, hj, rfl⟩ := List.mem_iff_getElem.1 hp
    have hj' : j < 45 := by rw [← bTab_len.1]; exact hj
    have h3 := bAt_get j hj'
    rw [List.getElem?_eq_getElem hj] at h3
    rw [Option.some.inj h3] at h2
    simp only [Bool.and_eq_true, decide_eq_true_eq] at h2
    exact h j hj' h2
set_option maxRecDepth 100000 in
theorem bAt_small : ((List.range 45).all fun j => decide (0 ≤ (bAt j).2 ∧ (bAt j).2 ≤ 3)) = true := by decide
set_option maxRecDepth 100000 in
set_option maxHeartbeats 2000000 in
theorem specIsBu_any (p : Option Addr) (cap : Nat) (xs : List Int) (a : Int) (w : World) (hin : BIn w p xs) :
    Calls Tryz.prog 33 #[.slice p xs.length cap, .int .i64 a] w fun e w' => e = .returned (.bool (isBu (unU xs) a)) ∧ Below w.heap.size w w' := by
  obtain ⟨l, el⟩ : ∃ l, l = xs.length := ⟨_, rfl⟩
  obtain ⟨s, es⟩ : ∃ s, s = strOfNums xs := ⟨_, rfl⟩
  have HCV : Hid (∀ W, Below w.heap.size w W → (convert 37 9 (.slice p l cap)).run Tryz.prog W = .ok (.string s) W) := fun W hW => by rw [es]; exact conv_str (hin.below hW) l cap el 9 Tryz.underlying9
  have HS : Hid (s = bOf (unU xs)) := by rw [es]; exact str_unU xs
  have HT := l7table_any w
  rw [← el]
  clear hin el es
  go_enter Tryz.func33, Tryz.ntmps33
  go_wp2_with fail
  refine HT.mono ?_
  rintro e w2 ⟨p1, p2, n, c1, c2, rfl, rfl, ⟨B, htb⟩, hb2⟩
  obtain ⟨g1, cap1, hv1, _⟩ := htb.nam.form (by decide)
  simp only [Value.slice.injEq] at hv1
  obtain ⟨rfl, hq1⟩ := hv1
  obtain ⟨g2, cap2, hv2, _⟩ := htb.ari.form (by decide)
  simp only [Value.slice.injEq] at hv2
  obtain ⟨rfl, hq2⟩ := hv2
  have HC : Hid (∀ j, j < 45 → w2.cell? ⟨g1, j, none⟩ = some (.string (bOf (bAt j).1)) ∧ w2.cell? ⟨g2, j, none⟩ = some (.int .i64 (bAt j).2)) := fun j hj => by
    have h1 := htb.nam.cellAt j (by omega)
    have h2 := htb.ari.cellAt j (by omega)
    rw [List.getElem?_map, bAt_get j hj] at h1 h2
    exact ⟨h1, h2⟩
  have HB2 : Hid (Below w.heap.size w w2) := hb2
  clear htb hb2 HT hq1 hq2
  go_wp2_with fail
  go_loopw [7] (fun i wr => ∃ j : Nat, j ≤ 45 ∧ i = .int .i64 j ∧ Hid (∀ q, q < j → ¬ ((bAt q).1 = unU xs ∧ (bAt q).2 = a)) ∧ Hid (Below w2.heap.size w2 wr)) (fun i _ => 45 - (intOf i).toNat)
  case atStart => exact ⟨0, by omega, rfl, fun q hq => absurd hq (Nat.not_lt_zero _), Below.refl _ _⟩
  case round =>
    obtain ⟨j, hj, rfl, HP, HB⟩ := hrel
    by_cases hlt : j < 45
    · obtain ⟨h1, h2⟩ := HC.out j hlt
      have d1 := (HB.out.cell (World.block_lt_of_cell? _ _ h1)).trans h1
      have d2 := (HB.out.cell (World.block_lt_of_cell? _ _ h2)).trans h2
      have hsm := List.all_eq_true.1 bAt_small j (List.mem_range.2 hlt)
      simp only [decide_eq_true_eq] at hsm
      have hBw : Below w.heap.size w wr := Below.on HB2.out HB.out
      have hk0 : (0 : Int) ≤ (j : Int) := by omega
      have hk1 : (j : Int) < 45 := by omega
      have hcv2 := HCV.out wr.drew hBw.drew
      have HQ1 : Hid (((bOf (bAt j).1).toList == s.toList) = decide ((bAt j).1 = unU xs)) := by
        show _ = _
        rw [HS.out, bOf_list, bOf_list]
        by_cases h : (bAt j).1 = unU xs
        · rw [h]; simp
        · rw [decide_eq_false h]; simpa using h
      obtain ⟨sj, esj⟩ : ∃ sj, sj = bOf (bAt j).1 := ⟨_, rfl⟩
      obtain ⟨aj, eaj⟩ : ∃ aj, aj = (bAt j).2 := ⟨_, rfl⟩
      rw [← esj] at d1 HQ1
      rw [← eaj] at d2 hsm
      have HEA : Hid (aj = (bAt j).2) := eaj
      clear esj eaj h1 h2 hBw
      by_cases hA : (bAt j).1 = unU xs
      · have hs1 : (sj.toList == s.toList) = true := by rw [HQ1.out]; simpa using hA
        by_cases hB : aj = a
        · have HF : Hid (isBu (unU xs) a = true) := isBu_hit hlt hA (by rw [← HEA.out]; exact hB)
          have ha1 : (aj == a) = true := by simpa using hB
          clear hA hB HQ1
          go_wp2_with fail
          go_region_held3 (fun W => W = wr.drew) (rfl) (fail)
          all_goals go_wp2_with fail
          all_goals go_ret
          all_goals exact ⟨ret_bool HF.out.symm, (Below.on HB2.out HB.out).drew⟩
        · have HN : Hid (∀ q, q < j + 1 → ¬ ((bAt q).1 = unU xs ∧ (bAt q).2 = a)) := fun q hq hh => by
            by_cases e : q = j
            · subst e; exact hB (HEA.out.trans hh.2)
            · exact HP.out q (by omega) hh
          have ha1 : (aj == a) = false := by simpa using hB
          have HB3 : Hid (Below w2.heap.size w2 wr.drew) := HB.out.drew
          clear hA hB HQ1
          go_wp2_with fail
          go_region_held3 (fun W => W = wr.drew) (rfl) (fail)
          all_goals go_wp2_with fail
          all_goals go_roundw
          all_goals first
            | (simp [intOf]; omega)
            | exact ⟨j + 1, by omega, by go_num, HN, HB3⟩
      · have hs1 : (sj.toList == s.toList) = false := by rw [HQ1.out]; simpa using hA
        have HN : Hid (∀ q, q < j + 1 → ¬ ((bAt q).1 = unU xs ∧ (bAt q).2 = a)) := fun q hq hh => by
          by_cases e : q = j
          · subst e; exact hA hh.1
          · exact HP.out q (by omega) hh
        have HB3 : Hid (Below w2.heap.size w2 wr.drew) := HB.out.drew
        clear hA HQ1
        go_wp2_with fail
        refine wp_region_held_drew (S := fun W => W = wr.drew) (by kernel_rfl) ?_ (fun hHeld => ?_)
        · exact rfl
        refine hTake (i := 0) (v := .slice (some ⟨g1, 0, none⟩) 45 c1) (some 18) (by kernel_rfl) (by kernel_rfl) (by kernel_rfl) (by kernel_rfl) (by kernel_rfl) (fun _ _ _ h => h) (fun o ho W hSw => ?y0) (by assumption) ?_
        case y0 =>
          cases ho
          simp [execOp, go_sem, Act.eval]
        simp only [Act.put, List.setIfInBounds_toArray, List.set_cons_zero, List.set_cons_succ]
        refine hTake (i := 1) (v := .int .i64 j) (some 19) (by kernel_rfl) (by kernel_rfl) (by kernel_rfl) (by kernel_rfl) (by kernel_rfl) (fun _ _ _ h => h) (fun o ho W hSw => ?y1) (by assumption) ?_
        case y1 =>
          cases ho
          simp [execOp, go_sem, Act.eval]
        simp only [Act.put, List.setIfInBounds_toArray, List.set_cons_zero, List.set_cons_succ]
        refine hTake (i := 2) (v := .pointer (some ⟨g1, j, none⟩)) (some 20) (by kernel_rfl) (by kernel_rfl) (by kernel_rfl) (by kernel_rfl) (by kernel_rfl) (fun _ _ _ h => h) (fun o ho W hSw => ?y2) (by assumption) ?_
        case y2 =>
          cases ho
          simp [execOp, go_sem, Act.eval, hk0, hk1]
        simp only [Act.put, List.setIfInBounds_toArray, List.set_cons_zero, List.set_cons_succ]
        refine hTake (i := 3) (v := .string sj) (some 21) (by kernel_rfl) (by kernel_rfl) (by kernel_rfl) (by kernel_rfl) (by kernel_rfl) (fun _ _ _ h => h) (fun o ho W hSw => ?y3) (by assumption) ?_
        case y3 =>
          cases ho
          subst hSw
          simp [execOp, go_sem, Act.eval, d1]
        simp only [Act.put, List.setIfInBounds_toArray, List.set_cons_zero, List.set_cons_succ]
        refine hTake (i := 4) (v := .slice p l cap) (some 22) (by kernel_rfl) (by kernel_rfl) (by kernel_rfl) (by kernel_rfl) (by kernel_rfl) (fun _ _ _ h => h) (fun o ho W hSw => ?y4) (by assumption) ?_
        case y4 =>
          cases ho
          simp [execOp, go_sem, Act.eval]
        simp only [Act.put, List.setIfInBounds_toArray, List.set_cons_zero, List.set_cons_succ]
        refine hTake (i := 5) (v := .string s) (some 23) (by kernel_rfl) (by kernel_rfl) (by kernel_rfl) (by kernel_rfl) (by kernel_rfl) (fun _ _ _ h => h) (fun o ho W hSw => ?y5) (by assumption) ?_
        case y5 =>
          cases ho
          subst hSw
          simp [execOp, go_sem, Act.eval, hcv2]
        simp only [Act.put, List.setIfInBounds_toArray, List.set_cons_zero, List.set_cons_succ]
        refine hTake (i := 6) (v := .bool false) (some 24) (by kernel_rfl) (by kernel_rfl) (by kernel_rfl) (by kernel_rfl) (by kernel_rfl) (fun _ _ _ h => h) (fun o ho W hSw => ?y6) (by assumption) ?_
        case y6 =>
          cases ho
          simp [execOp, go_sem, Act.eval, hs1]
        simp only [Act.put, List.setIfInBounds_toArray, List.set_cons_zero, List.set_cons_succ]
        refine hTake (i := 7) (v := .bool false) (some 25) (by kernel_rfl) (by kernel_rfl) (by kernel_rfl) (by kernel_rfl) (by kernel_rfl) (fun _ _ _ h => h) (fun o ho W hSw => ?y7) (by assumption) ?_
        case y7 =>
          cases ho
          simp [execOp, go_sem, Act.eval]
        simp only [Act.put, List.setIfInBounds_toArray, List.set_cons_zero, List.set_cons_succ]
        refine hSkip (i := 8) (some 26) (by kernel_rfl) (by kernel_rfl) (by kernel_rfl) (by kernel_rfl) (by kernel_rfl) (fun _ _ _ h => h) (by assumption) ?_
        simp only [Act.put, List.setIfInBounds_toArray, List.set_cons_zero, List.set_cons_succ]
        refine hSkip (i := 9) (some 27) (by kernel_rfl) (by kernel_rfl) (by kernel_rfl) (by kernel_rfl) (by kernel_rfl) (fun _ _ _ h => h) (by assumption) ?_
        simp only [Act.put, List.setIfInBounds_toArray, List.set_cons_zero, List.set_cons_succ]
        refine hSkip (i := 10) (some 28) (by kernel_rfl) (by kernel_rfl) (by kernel_rfl) (by kernel_rfl) (by kernel_rfl) (fun _ _ _ h => h) (by assumption) ?_
        simp only [Act.put, List.setIfInBounds_toArray, List.set_cons_zero, List.set_cons_succ]
        refine hSkip (i := 11) (some 29) (by kernel_rfl) (by kernel_rfl) (by kernel_rfl) (by kernel_rfl) (by kernel_rfl) (fun _ _ _ h => h) (by assumption) ?_
        simp only [Act.put, List.setIfInBounds_toArray, List.set_cons_zero, List.set_cons_succ]
        refine hSkip (i := 12) (some 30) (by kernel_rfl) (by kernel_rfl) (by kernel_rfl) (by kernel_rfl) (by kernel_rfl) (fun _ _ _ h => h) (by assumption) ?_
        simp only [Act.put, List.setIfInBounds_toArray, List.set_cons_zero, List.set_cons_succ]
        refine hSkip (i := 13) (some 31) (by kernel_rfl) (by kernel_rfl) (by kernel_rfl) (by kernel_rfl) (by kernel_rfl) (fun _ _ _ h => h) (by assumption) ?_
        simp only [Act.put, List.setIfInBounds_toArray, List.set_cons_zero, List.set_cons_succ]
        refine hTake (i := 14) (v := .bool false) (some 32) (by kernel_rfl) (by kernel_rfl) (by kernel_rfl) (by kernel_rfl) (by kernel_rfl) (fun _ _ _ h => h) (fun o ho W hSw => ?y14) (by assumption) ?_
        case y14 =>
          cases ho
          simp [execOp, go_sem, Act.eval]
        simp only [Act.put, List.setIfInBounds_toArray, List.set_cons_zero, List.set_cons_succ]
        refine wpAnyH_done (by kernel_rfl) ?_ _
        change Exit.then _ _ _ _ wr.drew
        go_wp2_with fail
        go_roundw
        case rel => exact ⟨j + 1, by omega, by go_num, HN, HB3⟩
        case measure => simp [intOf]; omega
    · obtain rfl : j = 45 := by omega
      have HF : Hid (isBu (unU xs) a = false) := isBu_miss HP.out
      go_wp2_with fail
      go_ret
      exact ⟨ret_bool HF.out.symm, Below.on HB2.out HB.out⟩
end Go.Proofs.YtfgaenggbbgboaaGreatDoor

