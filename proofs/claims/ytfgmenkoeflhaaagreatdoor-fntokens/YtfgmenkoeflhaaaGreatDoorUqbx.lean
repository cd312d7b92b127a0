/- Texts of LexQ, LexK, FtG. Own work of the verifier. -/
import Derived.Test.YtfgmenkoeflhaaaGreatDoorUqbw
namespace Go.Proofs.YtfgmenkoeflhaaaGreatDoor
open Go Go.RowKit
set_option linter.unusedVariables false
set_option maxRecDepth 100000 in
set_option maxHeartbeats 600000 in
theorem lexLong_any (p : Option Addr) (cap n : Nat) (w : World) (hl : 10000 < n) (hm : n ≤ 9000000000) :
  Calls Tryz.prog 6 #[.slice p n cap] w fun e w' => e = .returned (.tuple #[.slice none 0 0, .int .i64 3, .int .i64 10000]) ∧ Below w.heap.size w w' := by
 have hl' : (10000 : Int) < (n : Int) := by omega
 go_enter Tryz.func6, Tryz.ntmps6
 go_wp2_with fail; obtain ⟨hlow, h0, h1, h2⟩ := lay3 w (.cells #[.slice none 0 0] 24) (.cells #[.int .i64 3] 3) (.cells #[.int .i64 10000] 3) _ rfl; have c0 := cell_of_row _ _ 0 _ _ _ h0; have c1 := cell_of_row _ _ 0 _ _ _ h1; have c2 := cell_of_row _ _ 0 _ _ _ h2; refine bodyPost_ret (v := .tuple #[.slice none 0 0, .int .i64 3, .int .i64 10000]) (by simp [results, Tryz.results6, go_sem, c0, c1, c2]) rfl ⟨rfl, hlow⟩
theorem lexP_any (b cap : Nat) (xs : List Int) (m : Int) (w : World) (hb : Bytes xs) (hn : xs.length ≤ 9000000000) (hcap : xs.length ≤ cap) (hc : ∀ i, i < xs.length → w.cell? ⟨b, i, none⟩ = some (.int .u8 (xs.getD i 0))) (hbl : b < w.heap.size) (hT : Tab w)
  (hM : w.cell? ⟨2, 0, none⟩ = some (.int .i64 m)) (hE : w.cell? ⟨0, 0, none⟩ = some (.iface 123 (.agg #[.pointer (some ⟨3, 62, none⟩)]))) :
  Calls Tryz.prog 6 #[.slice (some ⟨b, 0, none⟩) xs.length cap] w (LexSOut w (lexR xs)) := by
 unfold lexR
 by_cases hl : 10000 < xs.length
 ·rw [if_pos hl]
  exact (lexLong_any _ cap xs.length w hl hn).mono fun e w' h => h
 ·rw [if_neg hl]
  exact lexImpl_any b cap xs.length xs m w hb rfl (by omega) hcap hc hbl hT hM hE
structure LxEnv (w : World) (m : Int) : Prop where
 tab : Tab w
 ml : w.cell? ⟨2, 0, none⟩ = some (.int .i64 m)
 et : w.cell? ⟨0, 0, none⟩ = some (.iface 123 (.agg #[.pointer (some ⟨3, 62, none⟩)]))
theorem LxEnv.below {w w' : World} {m : Int} (h : LxEnv w m) (hb : Below w.heap.size w w') : LxEnv w' m :=
 ⟨h.tab.below hb, (hb.cell (World.block_lt_of_cell? _ _ h.ml)).trans h.ml, (hb.cell (World.block_lt_of_cell? _ _ h.et)).trans h.et⟩
theorem OwnR.row {w : World} {B : Nat} {p : Option Addr} {n c : Nat} {ys : List Int} (h : OwnR w B p n c ys) : n = ys.length ∧ n ≤ c ∧ c ≤ 9223372036854775807 ∧ ∃ g, p = some ⟨g, 0, none⟩ ∧ B ≤ g ∧ Row w g ys := by
 obtain ⟨g, e1, e2, e3, e4⟩ := h.cellA; obtain ⟨hn, _, _, _, _, _, _, _, _, hc, hm, _⟩ := h; exact ⟨hn, hc, by unfold maxLen at hm; omega, g, e1, e2, e3, e4⟩
theorem implLexR {W : World} {B : Nat} {p : Option Addr} {n c : Nat} {Z : List Int} {m : Int} (h : OwnR W B p n c Z) (hb : Bytes Z) (hl : Z.length ≤ 9000000000) (E : LxEnv W m) :
  Calls Tryz.prog 6 #[.slice p n c] W (LexOut W (lexT Z)) := by
 obtain ⟨rfl, hc, _, g, rfl, _, hr⟩ := h.row
 exact (lexP_any g c Z m W hb hl hc hr.2 hr.1 E.tab E.ml E.et).mono fun e w' h => lexOut_of h
theorem specLexR {W : World} {B : Nat} {p : Option Addr} {n c : Nat} {Z : List Int} (h : OwnR W B p n c Z) (hb : Bytes Z) (hl : Z.length ≤ 9000000000) :
  Calls Tryz.prog 5 #[.slice p n c] W (LexOut W (lexT Z)) := by
 obtain ⟨rfl, hc, _, g, rfl, _, hr⟩ := h.row
 exact (lexS_any g c Z W hb hl hc hr.2).mono fun e w' h => lexOut_of h
theorem implQuoteR {W : World} {B : Nat} {p : Option Addr} {n c : Nat} {Z : List Int} {m : Int} (h : OwnR W B p n c Z) (hb : Bytes Z) (hl : Z.length ≤ 1048576) (E : LxEnv W m) :
  Calls Tryz.prog 9 #[.slice p n c] W fun e w' => ∃ p' n' c', e = .returned (.slice p' n' c') ∧ OwnS w' W.heap.size p' n' c' (quoteB Z) ∧ Below W.heap.size W w' := by
 obtain ⟨rfl, hc, _, g, rfl, _, hr⟩ := h.row; exact implQuote_any g c Z W hb hl hc hr E.tab
theorem bin_cut {W : World} {g e l : Nat} {X : List Int} (h : Row W g X) (hl : e + l ≤ X.length) : BIn W (some ⟨g, e, none⟩) (cutL X e l) := fun _ => ⟨g, e, rfl, fun i hi => by
 rw [cut_len hl] at hi; rw [h.2 (e + i) (by omega)]; have := cut_byte hl hi; rw [byteI_lt (by rw [cut_len hl]; exact hi), byteI_lt (by omega)] at this
 rw [this]⟩
theorem own_empty (W : World) (B : Nat) (hB : B ≤ W.heap.size) : OwnR (W.alloc (.cells #[] 5)) B (some ⟨W.heap.size, 0, none⟩) 0 0 [] := ⟨rfl, W.heap.size, #[], (0, 0), rfl, hB, heap_alloc_new W _, .inl rfl, rfl, Nat.le_refl _, Nat.zero_le _, rfl⟩
theorem cut_bytes {X : List Int} (h : Bytes X) (e l : Nat) : Bytes (cutL X e l) := fun x hx => h x (List.mem_of_mem_drop (List.mem_of_mem_take hx))
theorem cut_short (X : List Int) (e l : Nat) : (cutL X e l).length ≤ X.length := by unfold cutL; rw [List.length_take, List.length_drop]; omega
end Go.Proofs.YtfgmenkoeflhaaaGreatDoor
