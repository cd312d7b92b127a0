/- Texts of LxE, LxF, LxG, FtP. Own work of the verifier. -/
import Derived.Test.YtfgmenkoeflhaaaGreatDoorUqbr
namespace Go.Proofs.YtfgmenkoeflhaaaGreatDoor
open Go Go.RowKit
set_option linter.unusedVariables false
theorem skipS_none {xs : List Int} {pos : Nat} (h : layI xs pos = none) : skipS xs pos = -1 := by rw [skipS, h]
theorem skipS_some {xs : List Int} {pos n : Nat} (h : layI xs pos = some n) : skipS xs pos = (n : Nat) := by rw [skipS, h]
theorem lay_le {xs : List Int} {pos n : Nat} (hp : pos < xs.length) (h : layI xs pos = some n) : pos + n ≤ xs.length := by
 unfold layI at h
 split at h
 ·cases h; omega
 split at h
 ·cases h
  have := runLen_le (fun c => c != 10) (xs.drop pos); rw [List.length_drop] at this
  unfold lineI; omega
 split at h
 ·split at h
  ·cases h
  ·rename_i j hj
   cases h
   have := blk_rng _ _ _ hj
   omega
 ·cases h; omega
theorem txt_le {xs : List Int} {q : Int} (hq : 0 ≤ q) : ∀ (f i : Nat) (ys zs : List Int) (j : Nat), txtF xs q f i ys = some (zs, j) → j ≤ xs.length
 | 0, i, ys, zs, j, h => by cases h
 | f + 1, i, ys, zs, j, h => by
   unfold txtF at h
   split at h
   ·rename_i hi
    have hil : i < xs.length := by
     rcases Nat.lt_or_ge i xs.length with h' | h'
     ·exact h'
     ·rw [byteI_ge h'] at hi; omega
    split at h
    ·exact txt_le hq f _ _ _ _ h
    ·cases h; omega
   ·split at h
    ·split at h
     ·exact txt_le hq f _ _ _ _ h
     ·split at h
      ·cases h
      ·exact txt_le hq f _ _ _ _ h
    ·split at h
     ·exact txt_le hq f _ _ _ _ h
     ·cases h
theorem next_le {xs : List Int} {call : Bool} {pos l : Nat} {k v : Int} {ys : List Int} (hb : Bytes xs) (hp : pos < xs.length) (h : nextR xs call pos = .ok (k, l, ys, v)) : l ≤ 2 * xs.length + 6 := by
 have hrun : ∀ kd kk, runR xs pos kd kk = .ok (k, l, ys, v) → l ≤ 2 * xs.length + 6 := fun kd kk hq => by
  have := runI_le kk xs pos (by omega)
  unfold runR at hq
  split at hq
  ·cases hq
  ·cases hq; omega
 have hquo : ∀ kd, quoR xs kd pos = .ok (k, l, ys, v) → l ≤ 2 * xs.length + 6 := fun kd hq => by
  unfold quoR at hq
  split at hq
  ·cases hq
  ·rename_i zs j hj
   have := txt_le (by rw [byteI_lt hp]; exact (hb.at pos).1) _ _ _ _ _ hj
   split at hq
   ·cases hq
   ·cases hq; omega
 unfold nextR nextF at h
 split at h
 ·exact hrun _ _ h
 split at h
 ·exact hrun _ _ h
 split at h
 ·unfold numR at h
  split at h
  ·cases h
  ·rename_i v' q hq
   have := numI_rng hb hq
   split at h
   ·cases h
   ·split at h
    ·cases h
    ·cases h; omega
 split at h
 ·cases h; omega
 split at h
 ·exact hrun _ _ h
 split at h
 ·cases h; omega
 split at h
 ·exact hquo _ h
 split at h
 ·exact hquo _ h
 split at h
 ·cases h; omega
 split at h
 ·cases h; omega
 ·cases h
theorem next_code {xs : List Int} {call : Bool} {pos : Nat} {c : Int} (h : nextR xs call pos = .error c) : c = 2 ∨ c = 3 := by
 have hrun : ∀ kd kk, runR xs pos kd kk = .error c → c = 2 ∨ c = 3 := fun kd kk hq => by
  unfold runR at hq
  split at hq
  ·cases hq; exact .inr rfl
  ·cases hq
 have hquo : ∀ kd, quoR xs kd pos = .error c → c = 2 ∨ c = 3 := fun kd hq => by
  unfold quoR at hq
  split at hq
  ·cases hq; exact .inl rfl
  ·split at hq
   ·cases hq; exact .inr rfl
   ·cases hq
 unfold nextR nextF at h
 split at h
 ·exact hrun _ _ h
 split at h
 ·exact hrun _ _ h
 split at h
 ·unfold numR at h
  split at h
  ·cases h; exact .inl rfl
  ·split at h
   ·cases h; exact .inl rfl
   ·split at h
    ·cases h; exact .inr rfl
    ·cases h
 split at h
 ·cases h
 split at h
 ·exact hrun _ _ h
 split at h
 ·cases h
 split at h
 ·exact hquo _ h
 split at h
 ·exact hquo _ h
 split at h
 ·cases h
 split at h
 ·cases h
 ·cases h; exact .inl rfl
set_option maxRecDepth 100000 in
set_option maxHeartbeats 8000000 in
theorem lexS_any (b cap : Nat) (xs : List Int) (w : World) (hb : Bytes xs) (hn : xs.length ≤ 9000000000) (hcap : xs.length ≤ cap) (hc : ∀ m, m < xs.length → w.cell? ⟨b, m, none⟩ = some (.int .u8 (xs.getD m 0))) :
 Calls Tryz.prog 5 #[.slice (some ⟨b, 0, none⟩) xs.length cap] w (LexSOut w (lexR xs)) := by
 obtain ⟨n, en⟩ : ∃ n, n = xs.length := ⟨_, rfl⟩
 by_cases hbig : 10000 < xs.length
 ·have HF : Hid (LexSOut w (lexR xs) (.returned (.tuple #[.slice none 0 0, .int .i64 3, .int .i64 10000])) w) := lexSOut_of (r := .error (3, 10000)) ⟨rfl, Below.refl _ _⟩ (by rw [lexR, if_pos hbig])
  rw [← en] at hn hbig ⊢
  have hbI : (10000 : Int) < n := by omega
  clear hb hc hcap en
  go_enter Tryz.func5, Tryz.ntmps5
  go_wp2_with fail
  go_ret3
  exact HF.out
 have HR : Hid (lexR xs = lexI xs 0 (-1) []) := by show _ = _; rw [lexR, if_neg hbig]
 have HC : Hid (∀ (W : World), Below w.heap.size w W → ∀ m, m < xs.length → W.cell? ⟨b, m, none⟩ = some (.int .u8 (xs.getD m 0))) := fun W hW m hm => (hW.cell (World.block_lt_of_cell? _ _ (hc m hm))).trans (hc m hm)
 have HSK : Hid (∀ (W : World) (pos : Nat), Below w.heap.size w W → pos < n → Calls Tryz.prog 12 #[.slice (some ⟨b, 0, none⟩) n cap, .int .i64 pos] W fun e w' => e = .returned (.int .i64 (skipS xs pos)) ∧ w' = W) := fun W pos hW hp => by
  have := skipS_any b cap pos xs W hb (by omega) (by omega) (HC.out W hW); rw [← en] at this; exact this
 have HTK : Hid (∀ (W : World) (pos : Nat) (call : Bool), Below w.heap.size w W → pos < n → Calls Tryz.prog 13 #[.slice (some ⟨b, 0, none⟩) n cap, .int .i64 pos, .bool call] W (TokSOut W pos (nextR xs call pos))) := fun W pos call hW hp => by
  have := tokenS_any b cap pos call xs W hb (by omega) hcap (by omega) (HC.out W hW); rw [← en] at this; exact this
 have HBY : Hid (Bytes xs) := hb; have HN : Hid (n = xs.length) := en
 have hn4 : n ≤ 10000 := by omega
 have hbI : ¬ (10000 : Int) < n := by omega
 rw [← en] at hcap ⊢; clear hb hc en hn hbig HC
 go_enter Tryz.func5, Tryz.ntmps5
 go_wp2_with fail
 go_loopw [5, 6, 7] (fun s pv av wr => ∃ (pos n5 c5 : Nat) (a : Int) (p5 : Option Addr) (ts : List Tok), pos ≤ 60000 ∧ n5 ≤ pos ∧ -1 ≤ a ∧ a ≤ 60000 ∧ s = .slice p5 n5 c5 ∧ pv = .int .i64 pos ∧ av = .int .i64 a ∧ Hid (lexI xs pos a ts = lexI xs 0 (-1) []) ∧ Hid (OwnK wr w.heap.size p5 n5 c5 ts) ∧ Hid (Below w.heap.size w wr)) (fun _ pv _ _ => 70000 - (intOf pv).toNat)
 case atStart => exact ⟨0, 0, 0, -1, none, [], by omega, by omega, by omega, by omega, by trivial, by trivial, by trivial, rfl, OwnK.nil _ _, Below.refl _ _⟩
 case round =>
  obtain ⟨pos, n5, c5, a, p5, ts, hpos, hn5, ha0, ha1, rfl, rfl, rfl, HT, HO, HB⟩ := hrel
  by_cases hlt : pos < n
  ·have hsk := HSK.out wr pos HB.out hlt
   have hstep := lexI_step HBY.out (pos := pos) (by rw [← HN.out]; exact hlt) a ts
   cases hl : layI xs pos with
   | none =>
     rw [skipS_none hl] at hsk; rw [hl] at hstep; have HF : Hid (LexSOut w (lexR xs) (.returned (.tuple #[.slice none 0 0, .int .i64 2, .int .i64 pos])) wr) := lexSOut_of (r := .error (2, pos)) ⟨rfl, HB.out⟩ (by rw [HR.out, ← HT.out]; exact hstep); clear hstep hl HSK HTK HBY HT HO HB HR; go_wp2_with (go_at_call 12; refine hsk.mono ?_; rintro e w' ⟨rfl, rfl⟩)
     go_ret3
     exact HF.out
   | some m =>
     rw [skipS_some hl] at hsk; rw [hl] at hstep; have hmle := lay_le (by rw [← HN.out]; exact hlt) hl
     have hm : pos + m ≤ 10000 := by have := HN.out; omega
     simp only at hstep
     by_cases h0 : 0 < m
     ·rw [if_pos h0] at hstep
      have HT2 : Hid (lexI xs (pos + m) a ts = lexI xs 0 (-1) []) := by show _ = _; rw [← HT.out]; exact hstep.symm
      have h0I : (0 : Int) < m := by omega
      clear hstep hl hmle HSK HTK HBY HT HR; go_wp2_with (go_at_call 12; refine hsk.mono ?_; rintro e w' ⟨rfl, rfl⟩); go_roundw
      case rel => exact ⟨pos + m, n5, c5, a, _, _, by omega, by omega, by omega, by omega, by trivial, by go_num, by trivial, HT2, HO, HB⟩
      case measure => simp [intOf]; omega
     ·obtain rfl : m = 0 := by omega
      rw [if_neg h0] at hstep
      obtain ⟨cl, ecl⟩ : ∃ cl : Bool, cl = decide (a = pos) := ⟨_, rfl⟩
      rw [← ecl] at hstep
      have hcl : (a == (pos : Int)) = cl := by rw [ecl]; rfl
      have htk := HTK.out wr pos cl HB.out hlt; have HBY2 : Hid (Bytes xs) := HBY; clear ecl hl hmle HSK HTK HBY
      cases hnx : nextR xs cl pos with
      | error cd =>
        rw [hnx] at htk hstep
        have HF : Hid (∀ W, Below w.heap.size w W → LexSOut w (lexR xs) (.returned (.tuple #[.slice none 0 0, .int .i64 cd, .int .i64 pos])) W) := fun W hW => lexSOut_of (r := .error (cd, pos)) ⟨rfl, hW⟩ (by rw [HR.out, ← HT.out]; exact hstep)
        have hcd := next_code hnx
        have hcb : (cd != 0) = true := by simp; omega
        clear hstep hnx HT HO HR hcd; go_wp2_with (go_at_call 12; refine hsk.mono ?_; rintro e w' ⟨rfl, rfl⟩); refine htk.mono ?_; rintro e w5 ⟨k, a', l, v, rfl, hb5⟩; have HF5 : Hid _ := HF.out _ ((Below.on HB.out hb5).alloc (Nat.le_trans HB.out.size hb5.size) (.cells #[.int .i64 k, .int .i64 a', .int .i64 l, .slice none 0 0, .int .i64 v] 28)); clear HF hb5 htk hsk; go_wp2_with fail
        go_ret3
        exact HF5.out
      | ok r =>
        obtain ⟨k, l, ys, v⟩ := r; have hl1 := next_len HBY2.out (by rw [← HN.out]; exact hlt) hnx; have hl2 := next_le HBY2.out (by rw [← HN.out]; exact hlt) hnx
        have hl3 : l ≤ 20006 := by have := HN.out; omega
        rw [hnx] at htk hstep; simp only at hstep
        have HS : Hid (lexI xs (pos + l) (if k = 1 then ((pos + l : Nat) : Int) else -1) (ts ++ [((k, (pos : Int), (l : Int), v), ys)]) = lexI xs 0 (-1) []) := by show _ = _; rw [← HT.out]; exact hstep.symm
        clear hstep hnx HT HR hl2 HBY2; go_wp2_with (go_at_call 12; refine hsk.mono ?_; rintro e w' ⟨rfl, hw'⟩; obtain rfl := hw'.symm); refine htk.mono ?_; rintro e w5 ⟨p6, n6, c6, rfl, ho6, hb6⟩
        obtain ⟨wB, eB⟩ : ∃ wB, wB = (w5.alloc (.cells #[.int .i64 k, .int .i64 pos, .int .i64 l, .slice p6 n6 c6, .int .i64 v] 28)).alloc (.cells #[.int .i64 k, .int .i64 pos, .int .i64 l, .slice p6 n6 c6, .int .i64 v] 28) := ⟨_, rfl⟩
        have hb5B : Below w5.heap.size w5 wB := by rw [eB]; exact ((Below.refl _ _).alloc (Nat.le_refl _) _).alloc (by simp) _
        have G1 : wB.heap[w5.heap.size]? = some (.cells #[.int .i64 k, .int .i64 pos, .int .i64 l, .slice p6 n6 c6, .int .i64 v] 28) := by rw [eB]; exact (Below.heap_alloc _ _ _ (by simp)).trans (heap_alloc_new _ _)
        have G2 : wB.heap[w5.heap.size + 1]? = some (.cells #[.int .i64 k, .int .i64 pos, .int .i64 l, .slice p6 n6 c6, .int .i64 v] 28) := by
         have := heap_alloc_new (w5.alloc (.cells #[.int .i64 k, .int .i64 pos, .int .i64 l, .slice p6 n6 c6, .int .i64 v] 28)) (.cells #[.int .i64 k, .int .i64 pos, .int .i64 l, .slice p6 n6 c6, .int .i64 v] 28); rw [World.size_alloc] at this; rw [eB]; exact this
        have HG1 : Hid _ := G1; have HNW : Hid _ := news_rt (r := ((k, (pos : Int), (l : Int), v), p6, n6, c6)) G2; have HBB : Hid (Below wr.heap.size wr wB) := Below.on hb6 hb5B; have HOT : Hid (OwnT wB wr.heap.size p6 n6 c6 ys) := ho6.toT.below hb5B
        have HW5 : Hid (wr.heap.size ≤ w5.heap.size ∧ w5.heap.size < wB.heap.size) := ⟨hb6.size, (Array.getElem?_eq_some_iff.1 G1).1⟩
        have HLO : Hid (∀ q, Value.ownBlock (.slice p5 n5 c5) = some q → q < wr.heap.size) := fun q hq => by
         obtain ⟨_, rs, _, hr, _⟩ := HO.out; exact (hr.lt q hq).2
        clear htk hsk ho6 hb6 hb5B G1 G2
        by_cases hk1 : k = 1
        ·have hs := HS.out
         rw [if_pos hk1] at hs; have HS1 : Hid (lexI xs (pos + l) (((pos + l : Nat) : Int)) (ts ++ [((k, (pos : Int), (l : Int), v), ys)]) = lexI xs 0 (-1) []) := hs
         have hkb : (k == 1) = true := by simpa using hk1
         clear hs HS hk1; go_wp2_with (rw [← eB]; refine app_tok wr _ rfl _ _ rfl w.heap.size p5 n5 c5 ts rfl HO.out HBB.out HB.out.size ⟨w5.heap.size + 1, 0, none⟩ 1 rfl (k, (pos : Int), (l : Int), v) p6 n6 c6 ys HOT.out HNW.out (by omega) ?_; intro g7 n7 cap7 w7 hown7 hb7 hg7 hn7; obtain ⟨⟨a0, a1, a2, a3, a4⟩, af⟩ := five_cells ((hg7.block w5.heap.size HW5.out.2 (fun e => by have := HLO.out _ e.symm; have := HW5.out.1; omega)).trans HG1.out); have HO7 : Hid (OwnK w7 w.heap.size (some ⟨g7, 0, none⟩) n7 cap7 (ts ++ [((k, (pos : Int), (l : Int), v), ys)])) := hown7; have HB7 : Hid (Below w.heap.size w w7) := (HB.out.trans (HBB.out.mono HB.out.size)).trans hb7; have HN7 : Hid (n7 = n5 + 1) := hn7; clear hown7 hb7 hg7 hn7); have hn7' := HN7.out; go_roundw
         case rel => exact ⟨pos + l, n7, cap7, ((pos + l : Nat) : Int), _, _, by omega, by omega, by omega, by omega, by trivial, by go_num, by go_num, HS1, HO7, HB7⟩
         case measure => simp [intOf]; omega
        ·have hs := HS.out
         rw [if_neg hk1] at hs; have HS1 : Hid (lexI xs (pos + l) (-1) (ts ++ [((k, (pos : Int), (l : Int), v), ys)]) = lexI xs 0 (-1) []) := hs
         have hkb : (k == 1) = false := by simpa using hk1
         clear hs HS hk1; go_wp2_with (rw [← eB]; refine app_tok wr _ rfl _ _ rfl w.heap.size p5 n5 c5 ts rfl HO.out HBB.out HB.out.size ⟨w5.heap.size + 1, 0, none⟩ 1 rfl (k, (pos : Int), (l : Int), v) p6 n6 c6 ys HOT.out HNW.out (by omega) ?_; intro g7 n7 cap7 w7 hown7 hb7 hg7 hn7; obtain ⟨⟨a0, a1, a2, a3, a4⟩, af⟩ := five_cells ((hg7.block w5.heap.size HW5.out.2 (fun e => by have := HLO.out _ e.symm; have := HW5.out.1; omega)).trans HG1.out); have HO7 : Hid (OwnK w7 w.heap.size (some ⟨g7, 0, none⟩) n7 cap7 (ts ++ [((k, (pos : Int), (l : Int), v), ys)])) := hown7; have HB7 : Hid (Below w.heap.size w w7) := (HB.out.trans (HBB.out.mono HB.out.size)).trans hb7; have HN7 : Hid (n7 = n5 + 1) := hn7; clear hown7 hb7 hg7 hn7); have hn7' := HN7.out; go_roundw
         case rel => exact ⟨pos + l, n7, cap7, -1, _, _, by omega, by omega, by omega, by omega, by trivial, by go_num, by trivial, HS1, HO7, HB7⟩
         case measure => simp [intOf]; omega
  ·have hltI : ¬ (pos : Int) < n := by omega
   have HF : Hid (LexSOut w (lexR xs) (.returned (.tuple #[.slice p5 n5 c5, .int .i64 0, .int .i64 0])) wr) := lexSOut_of (r := .ok ts) ⟨p5, n5, c5, rfl, HO.out, HB.out⟩ (by rw [HR.out, ← HT.out, lexI_end (by rw [← HN.out]; omega)]); clear HSK HTK HBY HT HO HB HR; go_wp2_with fail
   go_ret3
   exact HF.out
theorem byteI_in {xs : List Int} {i : Nat} (h : byteI xs i ≠ -1) : i < xs.length := by
 rcases Nat.lt_or_ge i xs.length with h' | h'
 ·exact h'
 ·exact absurd (byteI_ge h') h
theorem dig_in {xs : List Int} {i : Nat} {base : Int} (hb : base ≤ 16) (h : digI (byteI xs i) < base) : i < xs.length := byteI_in fun e => by
 rw [e] at h
 have : digI (-1) = 16 := by decide
 omega
theorem digs_fit (xs : List Int) (base : Int) (hb : base ≤ 16) : ∀ (f i : Nat) (v : Int), i ≤ xs.length → (digsB xs base f i v).2 ≤ xs.length
 | 0, i, v, h => h
 | f + 1, i, v, h => by
   unfold digsB
   split
   ·rename_i hd
    exact digs_fit xs base hb f (i + 1) _ (dig_in hb hd)
   ·exact h
theorem hexI_fit {xs : List Int} {at_ q : Nat} {v : Int} (h : hexI xs at_ = some (v, q)) : q ≤ xs.length := by
 unfold hexI at h
 simp only at h
 split at h
 ·cases h
 ·rename_i hn
  have h9 : byteI xs (digsB xs 16 xs.length at_ 0).2 = 92 := Classical.byContradiction fun e => hn (.inr (.inr e))
  have := byteI_in (xs := xs) (i := (digsB xs 16 xs.length at_ 0).2) (by rw [h9]; decide)
  cases h
  omega
theorem escI_fit {xs : List Int} {at_ q : Nat} {v : Int} (h : escI xs at_ = some (v, q)) : q ≤ xs.length := by
 unfold escI at h
 have hin : byteI xs (at_ + 1) ≠ -1 → at_ + 2 ≤ xs.length := fun h => byteI_in h
 generalize byteI xs (at_ + 1) = x at h hin
 unfold escF at h
 repeat' (split at h)
 all_goals first | (exact hexI_fit h) | (cases h; exact hin (by omega)) | cases h
theorem chrI_fit {xs : List Int} {at_ q : Nat} {v : Int} (h : chrI xs at_ = some (v, q)) : q ≤ xs.length := by
 unfold chrI at h
 have h0 : byteI xs at_ ≠ -1 → at_ + 1 ≤ xs.length := fun h => byteI_in h
 have h1 : byteI xs (at_ + 1) ≠ -1 → at_ + 2 ≤ xs.length := fun h => byteI_in h
 generalize byteI xs (at_ + 1) = y at h h1
 generalize byteI xs at_ = x at h h0
 unfold chrF at h
 split at h
 ·cases h; exact h1 (by omega)
 split at h
 ·exact escI_fit h
 split at h
 ·cases h
 ·rename_i hn
  cases h
  exact h0 (by omega)
theorem numI_fit {xs : List Int} {pos q : Nat} {v : Int} (hp : pos < xs.length) (h : numI xs pos = some (v, q)) : q ≤ xs.length := by
 have key : ∀ bs : Int, bs ≤ 16 → ∀ at_ : Nat, at_ ≤ xs.length → some (digsB xs bs xs.length at_ 0) = some (v, q) → q ≤ xs.length := fun bs h0 at_ ha e => by
  have h1 := digs_fit xs bs h0 xs.length at_ 0 ha; simp only [Option.some.injEq] at e; rw [e] at h1; exact h1
 unfold numI numF at h
 split at h
 ·exact key 10 (by decide) pos (by omega) h
 split at h
 ·exact chrI_fit h
 split at h
 ·rename_i hd
  have := dig_in (baseI_rng _).2 hd; exact key _ (baseI_rng _).2 (pos + 2) (by omega) h
 ·exact key 10 (by decide) pos (by omega) h
theorem next_fit {xs : List Int} {call : Bool} {pos l : Nat} {k v : Int} {ys : List Int} (hb : Bytes xs) (hp : pos < xs.length) (h : nextR xs call pos = .ok (k, l, ys, v)) : pos + l ≤ xs.length := by
 have hrun : ∀ kd kk, runR xs pos kd kk = .ok (k, l, ys, v) → pos + l ≤ xs.length := fun kd kk hq => by
  have := runI_le kk xs pos (by omega)
  unfold runR at hq
  split at hq
  ·cases hq
  ·cases hq; omega
 have hquo : ∀ kd, quoR xs kd pos = .ok (k, l, ys, v) → pos + l ≤ xs.length := fun kd hq => by
  unfold quoR at hq
  split at hq
  ·cases hq
  ·rename_i zs j hj
   have := txt_le (by rw [byteI_lt hp]; exact (hb.at pos).1) _ _ _ _ _ hj
   split at hq
   ·cases hq
   ·cases hq; omega
 unfold nextR nextF at h
 split at h
 ·exact hrun _ _ h
 split at h
 ·exact hrun _ _ h
 split at h
 ·unfold numR at h
  split at h
  ·cases h
  ·rename_i v' q hq
   have := numI_fit hp hq
   split at h
   ·cases h
   ·split at h
    ·cases h
    ·cases h; omega
 split at h
 ·cases h; omega
 split at h
 ·exact hrun _ _ h
 split at h
 ·cases h; omega
 split at h
 ·exact hquo _ h
 split at h
 ·exact hquo _ h
 split at h
 ·cases h; omega
 split at h
 ·cases h; omega
 ·cases h
theorem next_text {xs : List Int} {call : Bool} {pos l : Nat} {k v : Int} {ys : List Int} (hp : pos < xs.length) (h : nextR xs call pos = .ok (k, l, ys, v)) : ys.length ≤ 100 := by
 have hrun : ∀ kd kk, runR xs pos kd kk = .ok (k, l, ys, v) → ys.length ≤ 100 := fun kd kk hq => by
  unfold runR at hq
  split at hq
  ·cases hq
  ·cases hq; simp; omega
 have hquo : ∀ kd, quoR xs kd pos = .ok (k, l, ys, v) → ys.length ≤ 100 := fun kd hq => by
  unfold quoR at hq
  split at hq
  ·cases hq
  ·split at hq
   ·cases hq
   ·cases hq; omega
 unfold nextR nextF at h
 split at h
 ·exact hrun _ _ h
 split at h
 ·exact hrun _ _ h
 split at h
 ·unfold numR at h
  split at h
  ·cases h
  ·split at h
   ·cases h
   ·split at h
    ·cases h
    ·cases h; simp
 split at h
 ·cases h; simp
 split at h
 ·exact hrun _ _ h
 split at h
 ·cases h; simp
 split at h
 ·exact hquo _ h
 split at h
 ·exact hquo _ h
 split at h
 ·cases h; simp
 split at h
 ·cases h; simp
 ·cases h
theorem ttl_snoc : ∀ (a : List Tok) (t : Tok), ttl (a ++ [t]) = ttl a + t.2.length
 | [], t => by simp [ttl]
 | x :: r, t => by
   have := ttl_snoc r t; simp only [List.cons_append, ttl]
   omega
theorem lexF_size {xs : List Int} (hb : Bytes xs) : ∀ (f pos : Nat) (a : Int) (acc ts : List Tok), lexF xs f pos a acc = .ok ts → acc.length ≤ pos → pos ≤ xs.length → ttl acc ≤ 100 * acc.length → ts.length ≤ xs.length ∧ ttl ts ≤ 100 * ts.length
 | 0, pos, a, acc, ts, h, h1, h2, h3 => by
   unfold lexF at h
   cases h
   exact ⟨by omega, h3⟩
 | f + 1, pos, a, acc, ts, h, h1, h2, h3 => by
   unfold lexF at h
   by_cases hp : xs.length ≤ pos
   ·rw [if_pos hp] at h
    cases h
    exact ⟨by omega, h3⟩
   ·rw [if_neg hp] at h
    cases hl : layI xs pos with
    | none => rw [hl] at h; cases h
    | some n =>
      rw [hl] at h; simp only at h
      by_cases h0 : 0 < n
      ·rw [if_pos h0] at h
       exact lexF_size hb f (pos + n) a acc ts h (by omega) (lay_le (by omega) hl) h3
      ·rw [if_neg h0] at h
       cases hn : nextR xs (decide (a = pos)) pos with
       | error c => rw [hn] at h; cases h
       | ok r =>
         obtain ⟨k, l, ys, v⟩ := r; rw [hn] at h; simp only at h; have e1 := next_len hb (by omega) hn; have e2 := next_fit hb (by omega) hn; have e3 := next_text (by omega) hn; refine lexF_size hb f (pos + l) _ _ ts h ?_ e2 ?_
         ·simp only [List.length_append, List.length_singleton]; omega
         ·rw [ttl_snoc]; simp only [List.length_append, List.length_singleton]; omega
def lexT (xs : List Int) : List Tok × Int × Int := match lexR xs with
 | .ok ts => (ts, 0, 0)
 | .error (c, q) => ([], c, (q : Int))
theorem lexT_size {xs : List Int} (hb : Bytes xs) : (lexT xs).1.length + ttl (lexT xs).1 ≤ 2000000 := by
 unfold lexT
 cases h : lexR xs with
 | error r => simp [ttl]
 | ok ts =>
   unfold lexR at h
   split at h
   ·cases h
   ·rename_i hl
    unfold lexI at h
    have := lexF_size hb _ _ _ _ _ h (by simp) (by omega) (by simp [ttl])
    show ts.length + ttl ts ≤ 2000000
    omega
def LexOut (w : World) (r : List Tok × Int × Int) (e : Ending) (w' : World) : Prop :=
 ∃ p n c, e = .returned (.tuple #[.slice p n c, .int .i64 r.2.1, .int .i64 r.2.2]) ∧ OwnK w' w.heap.size p n c r.1 ∧ Below w.heap.size w w'
theorem lexOut_of {w w' : World} {xs : List Int} {e : Ending} (h : LexSOut w (lexR xs) e w') : LexOut w (lexT xs) e w' := by
 unfold lexT
 unfold LexSOut at h
 split at h
 ·rename_i ts hr
  rw [hr]; exact h
 ·rename_i c q hr
  rw [hr]; exact ⟨none, 0, 0, h.1, OwnK.nil _ _, h.2⟩
def cutL (xs : List Int) (p l : Nat) : List Int := (xs.drop p).take l
theorem cut_len {xs : List Int} {p l : Nat} (h : p + l ≤ xs.length) : (cutL xs p l).length = l := by simp [cutL]; omega
theorem cut_byte {xs : List Int} {p l : Nat} (h : p + l ≤ xs.length) {i : Nat} (hi : i < l) : byteI (cutL xs p l) i = byteI xs (p + i) := by
 rw [byteI_lt (by rw [cut_len h]; exact hi), byteI_lt (by omega)]
 simp [cutL, List.getD, hi]
theorem cut_end {xs : List Int} {p l : Nat} (h : p + l ≤ xs.length) {i : Nat} (hi : l ≤ i) : byteI (cutL xs p l) i = -1 := byteI_ge (by rw [cut_len h]; exact hi)
theorem cut_or {xs : List Int} {p l : Nat} (h : p + l ≤ xs.length) (i : Nat) : byteI (cutL xs p l) i = byteI xs (p + i) ∨ byteI (cutL xs p l) i = -1 := by
 rcases Nat.lt_or_ge i l with hi | hi
 ·exact .inl (cut_byte h hi)
 ·exact .inr (cut_end h hi)
theorem runLen_take (f : Int → Bool) : ∀ (L : List Int) (n : Nat), runLen f (L.take n) = min n (runLen f L)
 | [], n => by simp [runLen]
 | x :: r, 0 => by simp [runLen]
 | x :: r, n + 1 => by
   have := runLen_take f r n; simp only [List.take_succ_cons, runLen]
   split <;> omega
theorem dig_no {base : Int} (hb : base ≤ 16) : ¬ digI (-1) < base := by unfold digI; rw [if_neg (by omega), if_neg (by omega), if_neg (by omega)]; omega
theorem digs_cut {xs : List Int} {p l : Nat} (hl : p + l ≤ xs.length) {base : Int} (hb : base ≤ 16) : ∀ (f i : Nat) (v : Int), (digsB xs base f (p + i) v).2 ≤ p + l → digsB (cutL xs p l) base f i v = ((digsB xs base f (p + i) v).1, (digsB xs base f (p + i) v).2 - p)
 | 0, i, v, h => by simp [digsB]
 | f + 1, i, v, h => by
   unfold digsB at h ⊢
   by_cases hd : digI (byteI xs (p + i)) < base
   ·rw [if_pos hd] at h ⊢
    have h2 := digs_ge xs base f (p + i + 1) (min (v * base + digI (byteI xs (p + i))) 1000000000000001)
    have hi : i < l := by omega
    rw [cut_byte hl hi, if_pos hd]; exact digs_cut hl hb f (i + 1) _ h
   ·rw [if_neg hd] at h ⊢
    rw [if_neg (by rcases cut_or hl i with e | e <;> rw [e]; · exact hd
                   ·exact dig_no hb)]
    simp
theorem digs_cutI {xs : List Int} {p l : Nat} (hl : p + l ≤ xs.length) {base : Int} (hb : base ≤ 16) (i : Nat) (v : Int) (h : (digsB xs base xs.length (p + i) v).2 ≤ p + l) : digsB (cutL xs p l) base (cutL xs p l).length i v = ((digsB xs base xs.length (p + i) v).1, (digsB xs base xs.length (p + i) v).2 - p) := by
 have e := digs_end (cutL xs p l) base hb l i v (by rw [cut_len hl]; omega) (xs.length - l); rw [show l + (xs.length - l) = xs.length by omega] at e; rw [cut_len hl, ← e]; exact digs_cut hl hb xs.length i v h
theorem hexI_ge {xs : List Int} {a q : Nat} {v : Int} (h : hexI xs a = some (v, q)) : a + 2 ≤ q := by
 unfold hexI at h
 have := digs_ge xs 16 xs.length a 0; simp only at h
 split at h
 ·cases h
 ·rename_i hn
  cases h
  omega
theorem hexI_cut {xs : List Int} {p l i q : Nat} {v : Int} (hl : p + l ≤ xs.length) (h : hexI xs (p + i) = some (v, q)) (hq : q ≤ p + l) : hexI (cutL xs p l) i = some (v, q - p) := by
 have h0 := digs_ge xs 16 xs.length (p + i) 0
 unfold hexI at h ⊢
 simp only at h ⊢
 split at h
 ·cases h
 ·rename_i hn
  cases h
  have e := digs_cutI hl (base := 16) (by omega) i 0 (by omega); rw [e]; simp only; rw [if_neg]
  ·congr 2; omega
  ·intro hh
   rw [cut_byte hl (by omega), show p + ((digsB xs 16 xs.length (p + i) 0).2 - p) = (digsB xs 16 xs.length (p + i) 0).2 by omega] at hh
   omega
theorem escI_ge {xs : List Int} {a q : Nat} {v : Int} (h : escI xs a = some (v, q)) : a + 2 ≤ q := by
 unfold escI escF at h
 repeat' split at h
 all_goals first
  | (cases h; omega)
  | (have := hexI_ge h; omega)
  | cases h
theorem escI_cut {xs : List Int} {p l i q : Nat} {v : Int} (hl : p + l ≤ xs.length) (h : escI xs (p + i) = some (v, q)) (hq : q ≤ p + l) : escI (cutL xs p l) i = some (v, q - p) := by
 have h0 := escI_ge h
 unfold escI escF at h ⊢
 rw [cut_byte hl (show i + 1 < l by omega), show p + (i + 1) = p + i + 1 by omega]
 repeat' split at h
 all_goals first
  | (cases h; rename_i hx; simp [hx]; omega)
  | skip
 all_goals first
  | (rename_i h1 h2 h3 h4 h5 h6 h7; rw [if_neg h1, if_neg h2, if_neg h3, if_neg h4, if_neg h5, if_neg h6, if_pos h7]; exact hexI_cut hl (by rw [show p + (i + 2) = p + i + 2 by omega]; exact h) hq)
  | cases h
theorem chrI_ge {xs : List Int} {a q : Nat} {v : Int} (h : chrI xs a = some (v, q)) : a + 1 ≤ q := by
 unfold chrI chrF at h
 split at h
 ·cases h; omega
 ·split at h
  ·have := escI_ge h; omega
  ·split at h
   ·cases h
   ·cases h; omega
theorem chrI_cut {xs : List Int} {p l i q : Nat} {v : Int} (hl : p + l ≤ xs.length) (h : chrI xs (p + i) = some (v, q)) (hq : q ≤ p + l) : chrI (cutL xs p l) i = some (v, q - p) := by
 have h0 := chrI_ge h
 unfold chrI chrF at h ⊢
 rw [cut_byte hl (show i < l by omega)]
 split at h
 ·rename_i hx
  cases h
  rw [cut_byte hl (show i + 1 < l by omega), show p + (i + 1) = p + i + 1 by omega, if_pos hx]
  congr 2; omega
 ·rename_i hx
  split at h
  ·rename_i h92
   rw [if_neg (by rw [h92]; omega), if_pos h92]; exact escI_cut hl h hq
  ·rename_i h92
   split at h
   ·cases h
   ·rename_i h3
    cases h
    rw [if_neg (fun hh => h3 (.inl hh.1)), if_neg h92, if_neg h3]
    congr 2; omega
theorem base_le (m : Int) : baseI m ≤ 16 := (baseI_rng m).2
theorem base_no : baseI (-1) = 0 := by unfold baseI; simp
theorem numI_cut {xs : List Int} {p l : Nat} {v : Int} (hl : p + l ≤ xs.length) (h1 : 1 ≤ l) (h : numI xs p = some (v, p + l)) : numI (cutL xs p l) 0 = some (v, l) := by
 have dg : ∀ (base : Int) (i : Nat), base ≤ 16 → digsB xs base xs.length (p + i) 0 = (v, p + l) → digsB (cutL xs p l) base (cutL xs p l).length i 0 = (v, l) := fun base i hb e => by
  have := digs_cutI hl hb i 0 (by rw [e]; exact Nat.le_refl _); rw [e] at this; rw [this]
  simp
 unfold numI numF at h ⊢
 rw [cut_byte hl (show 0 < l by omega), Nat.add_zero]
 split at h
 ·rename_i hx
  rw [if_pos hx]; rw [dg 10 0 (by omega) (Option.some.inj h)]
 ·rename_i hx
  rw [if_neg hx]
  split at h
  ·rename_i hm
   have h2 := chrI_ge h; rw [Nat.zero_add, cut_byte hl (show 1 < l by omega), if_pos hm]; have := chrI_cut hl (i := 2) h (Nat.le_refl _); rw [Nat.zero_add, this]
   simp
  ·rename_i hm
   split at h
   ·rename_i hz
    have h2 := Option.some.inj h; have h3 := digs_one (base_le (byteI xs (p + 1))) hz; rw [h2] at h3; simp only at h3; rw [Nat.zero_add, Nat.zero_add, cut_byte hl (show 1 < l by omega), cut_byte hl (show 2 < l by omega), if_neg hm, if_pos hz]; rw [dg _ 2 (base_le _) h2]
   ·rename_i hz
    have e : digsB (cutL xs p l) 10 (cutL xs p l).length 0 0 = (v, l) := dg 10 0 (by omega) (Option.some.inj h); rw [Nat.zero_add, Nat.zero_add]
    rcases cut_or hl 1 with e1 | e1
    ·rw [e1, if_neg hm]
     rw [if_neg (by
      rcases cut_or hl 2 with e2 | e2 <;> rw [e2]
      ·exact hz
      ·exact dig_no (base_le _)), e]
    ·rw [e1, if_neg (by omega), if_neg (by
      rw [base_no]
      rcases cut_or hl 2 with e2 | e2 <;> rw [e2]
      ·unfold digI; repeat' split <;> omega
      ·exact dig_no (by omega)), e]
theorem txt_geT {xs : List Int} {q : Int} : ∀ (f i : Nat) (ys zs : List Int) (j : Nat), txtF xs q f i ys = some (zs, j) → i + 1 ≤ j
 | 0, i, ys, zs, j, h => by cases h
 | f + 1, i, ys, zs, j, h => by
   unfold txtF at h
   split at h
   ·split at h
    ·have := txt_geT f _ _ _ _ h; omega
    ·cases h; omega
   ·split at h
    ·split at h
     ·have := txt_geT f _ _ _ _ h; omega
     ·split at h
      ·cases h
      ·rename_i v j' he
       have := txt_geT f _ _ _ _ h; have := escI_ge he
       omega
    ·split at h
     ·have := txt_geT f _ _ _ _ h; omega
     ·cases h
theorem txt_cut {xs : List Int} {p l : Nat} (hl : p + l ≤ xs.length) {q : Int} (hq : 0 ≤ q) : ∀ (f i : Nat) (ys zs : List Int) (j : Nat), txtF xs q f (p + i) ys = some (zs, j) → j ≤ p + l → txtF (cutL xs p l) q f i ys = some (zs, j - p)
 | 0, i, ys, zs, j, h, _ => by cases h
 | f + 1, i, ys, zs, j, h, hj => by
   have hge := txt_geT _ _ _ _ _ h
   have hi : i < l := by omega
   unfold txtF at h ⊢
   rw [cut_byte hl hi]
   split at h
   ·rename_i hx
    rw [if_pos hx]
    split at h
    ·rename_i hy
     have := txt_geT _ _ _ _ _ h; rw [cut_byte hl (show i + 1 < l by omega), show p + (i + 1) = p + i + 1 by omega, if_pos hy]; exact txt_cut hl hq f (i + 2) _ _ _ h hj
    ·rename_i hy
     cases h
     rw [if_neg (by
      rcases cut_or hl (i + 1) with e | e <;> rw [e]
      ·exact hy
      ·omega)]
     congr 2; omega
   ·rename_i hx
    rw [if_neg hx]
    split at h
    ·rename_i h92
     rw [if_pos h92]
     split at h
     ·rename_i hy
      have := txt_geT _ _ _ _ _ h; rw [cut_byte hl (show i + 1 < l by omega), show p + (i + 1) = p + i + 1 by omega, if_pos hy]; exact txt_cut hl hq f (i + 2) _ _ _ h hj
     ·rename_i hy
      split at h
      ·cases h
      ·rename_i v j' he
       have h2 := txt_geT _ _ _ _ _ h; have h3 := escI_ge he; rw [cut_byte hl (show i + 1 < l by omega), show p + (i + 1) = p + i + 1 by omega, if_neg hy, escI_cut hl he (by omega)]; simp only; exact txt_cut hl hq f (j' - p) _ _ _ (by rw [show p + (j' - p) = j' by omega]; exact h) hj
    ·rename_i h92
     rw [if_neg h92]
     split at h
     ·rename_i hr
      rw [if_pos hr]; exact txt_cut hl hq f (i + 1) _ _ _ h hj
     ·cases h
theorem run_cut {xs : List Int} {p l : Nat} {kind k : Int} {kd v : Int} {ys : List Int} (hl : p + l ≤ xs.length) (h : runR xs p kind k = .ok (kd, l, ys, v)) : runR (cutL xs p l) 0 kind k = .ok (kd, l, ys, v) := by
 unfold runR at h ⊢
 split at h
 ·cases h
 ·rename_i hn
  have hr : runI k xs p = l := by injection h with h; injection h with _ h; injection h with h _
  have e : runI k (cutL xs p l) 0 = l := by
   unfold runI cutL
   rw [List.drop_zero, runLen_take]; have : runLen (isOfB · k) (xs.drop p) = l := hr
   omega
  rw [hr] at h hn; rw [e, if_neg hn, List.drop_zero, show (cutL xs p l).take l = (xs.drop p).take l by unfold cutL; rw [List.take_take]; simp]; exact h
theorem quo_cut {xs : List Int} {p l : Nat} {kind kd v : Int} {ys : List Int} (hl : p + l ≤ xs.length) (h1 : 1 ≤ l) (h0 : 0 ≤ byteI xs p) (h : quoR xs kind p = .ok (kd, l, ys, v)) : quoR (cutL xs p l) kind 0 = .ok (kd, l, ys, v) := by
 unfold quoR at h ⊢
 rw [cut_byte hl (show 0 < l by omega), Nat.add_zero]
 split at h
 ·cases h
 ·rename_i zs j hj
  split at h
  ·cases h
  ·rename_i hn
   have hge := txt_geT _ _ _ _ _ hj
   have hr : j - p = l := by injection h with h; injection h with _ h; injection h with h _
   have e : txtI (cutL xs p l) (byteI xs p) (0 + 1) [] = some (zs, l) := by
    have c := txt_cut hl h0 (xs.length + 1) 1 [] zs j hj (by omega); have m := txt_more (cutL xs p l) (byteI xs p) h0 (l + 1) 1 [] (by rw [cut_len hl]; omega) (xs.length - l); rw [show l + 1 + (xs.length - l) = xs.length + 1 by omega, c, hr] at m
    unfold txtI
    rw [cut_len hl]; exact m.symm
   rw [e]; simp only; rw [if_neg hn]; rw [hr] at h; exact h
theorem num_cut {xs : List Int} {p l : Nat} {kd v : Int} {ys : List Int} (hl : p + l ≤ xs.length) (h1 : 1 ≤ l) (h : numR xs p = .ok (kd, l, ys, v)) : numR (cutL xs p l) 0 = .ok (kd, l, ys, v) := by
 unfold numR at h ⊢
 split at h
 ·cases h
 ·rename_i u q hq
  split at h
  ·cases h
  ·split at h
   ·cases h
   ·rename_i h3 h4
    have hr : q - p = l := by injection h with h; injection h with _ h; injection h with h _
    have hqp : q = p + l := by omega
    subst hqp; rw [numI_cut hl h1 hq]; simp only; rw [cut_end hl (Nat.le_refl _), if_neg (by rw [isOf_lo (by omega)]; simp), if_neg h4]; simp only [Nat.sub_zero]; rw [show p + l - p = l by omega] at h; exact h
theorem next_cut {xs : List Int} (hb : Bytes xs) {p l : Nat} {call : Bool} {k v : Int} {ys : List Int} (hp : p < xs.length) (h : nextR xs call p = .ok (k, l, ys, v)) (h6 : k ≠ 6) (h7 : k ≠ 7) (hd : ¬ (k = 1 ∧ l = 1 ∧ byteI xs p = 46)) : nextR (cutL xs p l) false 0 = .ok (k, l, ys, v) := by
 have h1 := next_len hb hp h; have hl := next_fit hb hp h
 have h0 : 0 ≤ byteI xs p := by rw [byteI_lt hp]; exact (hb.at p).1
 unfold nextR at h ⊢
 rw [cut_byte hl (show 0 < l by omega), Nat.add_zero]
 unfold nextF at h ⊢
 split at h
 ·rename_i a1; rw [if_pos a1]; exact run_cut hl h
 ·rename_i a1; rw [if_neg a1]
  split at h
  ·rename_i a2; rw [if_pos a2]; exact run_cut hl h
  ·rename_i a2; rw [if_neg a2]
   split at h
   ·rename_i a4; rw [if_pos a4]; exact num_cut hl h1 h
   ·rename_i a4; rw [if_neg a4]
    split at h
    ·cases h; exact absurd rfl h7
    ·rename_i ae
     split at h
     ·rename_i a8
      rw [if_neg (fun hh => by
       rcases Nat.lt_or_ge 1 l with hl1 | hl1
       ·rw [Nat.zero_add, cut_byte hl hl1] at hh; exact ae hh
       ·have hl1' : l = 1 := by omega
        refine hd ⟨?_, hl1', hh.1⟩
        unfold runR at h
        split at h
        ·cases h
        ·injection h with h; injection h with h _; exact h.symm), if_pos a8]
      exact run_cut hl h
     ·rename_i a8
      have n46 : byteI xs p ≠ 46 := fun e => a8 (by rw [e]; rfl)
      rw [if_neg (fun hh => n46 hh.1), if_neg a8]
      split at h
      ·rename_i a32; rw [if_pos a32]; exact h
      ·rename_i a32; rw [if_neg a32]
       split at h
       ·rename_i a39; rw [if_pos a39]; exact quo_cut hl h1 h0 h
       ·rename_i a39; rw [if_neg a39]
        split at h
        ·rename_i a34; rw [if_pos a34]; exact quo_cut hl h1 h0 h
        ·rename_i a34; rw [if_neg a34]
         split at h
         ·cases h; exact absurd rfl h6
         ·split at h
          ·rename_i a64; rw [if_neg (by simp), if_pos a64]; exact h
          ·cases h
end Go.Proofs.YtfgmenkoeflhaaaGreatDoor
