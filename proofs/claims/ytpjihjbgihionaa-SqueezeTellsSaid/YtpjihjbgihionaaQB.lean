/- Walks of squeeze's symbolOf, used and bytesOf. -/
import Derived.Test.YtpjihjbgihionaaWC
import Derived.Test.YtpjihjbgihionaaQA
import Derived.Test.YtpjihjbgihionaaPC
import Derived.Test.YtpjihjbgihionaaPE
import Derived.Test.YtpjihjbgihionaaJ1
import Derived.Test.YtpjihjbgihionaaPD
import Derived.Test.YtpjihjbgihionaaG1
import Derived.Lib.AppendStr
import Derived.Recover
namespace Go.Proofs.Ytpjihjbgihionaa
open Go.RowKit
set_option linter.unusedVariables false

/-- a token's symbol, and whether it has one -/
def symS (t : Nat × Int × Int) : Nat × Bool := if t.2.1 = 0 then (t.1, true) else if 3 ≤ t.2.1 ∧ t.2.1 ≤ 34 then (253 + t.2.1.toNat, true) else (0, false)
set_option maxRecDepth 100000 in
set_option maxHeartbeats 400000 in
theorem q_symbolOf (c : Nat) (hc : c < 256) (n k : Int) (w : World) :
    Calls Try.prog 25 #[.agg #[.int .u8 (c : Int), .int .i64 n, .int .i64 k]] w fun e w' => e = .returned (.tuple #[.int .i64 ((symS (c, n, k)).1 : Int), .bool (symS (c, n, k)).2]) ∧ Below w.heap.size w w' := by
  have hX := Blk.new' w 34 (c := #[.int .u8 (c : Int), .int .i64 n, .int .i64 k]) (rowT (c, n, k)) rfl
  have hb := (Below.refl w.heap.size w).alloc (Nat.le_refl _) (.cells #[.int .u8 (c : Int), .int .i64 n, .int .i64 k] 34)
  have q0 := hX.cell 0
  have q1 := hX.cell 1
  simp only [rowT, List.getElem?_cons_zero, List.getElem?_cons_succ] at q0 q1
  have HB := Lib.hid hb
  clear hX hb
  by_cases h0 : n = 0
  · subst h0
    have hs : symS (c, 0, k) = (c, true) := if_pos rfl
    rw [hs]
    go_enter Try.func25, Try.ntmps25
    go_wp2
    go_ret2
    exact ⟨rfl, HB.out⟩
  · have e0 : (n == 0) = false := by rw [beq_eq_false_iff_ne]; exact h0
    by_cases h3 : 3 ≤ n
    · have d3 : decide (3 ≤ n) = true := decide_eq_true h3
      by_cases h4 : n ≤ 34
      · have d4 : decide (n ≤ 34) = true := decide_eq_true h4
        obtain ⟨m, rfl⟩ : ∃ m : Nat, n = (m : Int) := ⟨n.toNat, by omega⟩
        have hs : symS (c, (m : Int), k) = (253 + m, true) := by unfold symS; rw [if_neg h0, if_pos ⟨h3, h4⟩, Int.toNat_natCast]
        rw [hs]
        go_enter Try.func25, Try.ntmps25
        go_wp2
        go_ret2
        exact ⟨by congr 3; go_num, HB.out⟩
      · have d4 : decide (n ≤ 34) = false := decide_eq_false h4
        have hs : symS (c, n, k) = (0, false) := by unfold symS; rw [if_neg h0, if_neg (by simp only; omega)]
        rw [hs]
        go_enter Try.func25, Try.ntmps25
        go_wp2
        go_ret2
        exact ⟨rfl, HB.out⟩
    · have d3 : decide (3 ≤ n) = false := decide_eq_false h3
      have hs : symS (c, n, k) = (0, false) := by unfold symS; rw [if_neg h0, if_neg (by simp only; omega)]
      rw [hs]
      go_enter Try.func25, Try.ntmps25
      go_wp2
      go_ret2
      exact ⟨rfl, HB.out⟩
theorem nzN_take (L : List Nat) {j : Nat} (h : j < L.length) : nzN (L.take (j + 1)) = nzN (L.take j) + (if 0 < L.getD j 0 then 1 else 0) := by
  unfold nzN
  rw [List.take_succ_eq_append_getElem h, List.filter_append, List.length_append]
  congr 1
  have e : L.getD j 0 = L[j] := by simp [h]
  rw [e]
  by_cases h0 : 0 < L[j]
  · simp [h0]
  · simp [h0]
theorem nzN_le (L : List Nat) : nzN L ≤ L.length := List.length_filter_le _ _
set_option maxRecDepth 100000 in
set_option maxHeartbeats 400000 in
theorem q_used (L : List Nat) (p : Option Addr) (cap : Nat) (w : World) (hl : L.length ≤ 310) (hS : Sl w 1 (.slice p L.length cap) (rowsN L)) :
    Calls Try.prog 68 #[.slice p L.length cap] w fun e w' => e = .returned (.int .i64 (nzN L : Int)) ∧ w = w' := by
  have HS := Lib.hid hS
  clear hS
  go_enter Try.func68, Try.ntmps68
  go_wp2
  go_loop [3, 8] (fun n i => ∃ j q : Nat, j ≤ L.length ∧ i = .int .i64 (j : Int) ∧ n = .int .i64 (q : Int) ∧ nzN (L.take j) = q) (fun _ i => L.length - (intOf i).toNat)
  case atStart => exact ⟨0, 0, by omega, rfl, rfl, rfl⟩
  case round =>
    obtain ⟨j, q, hj, rfl, rfl, hq⟩ := hrel
    by_cases hlt : j < L.length
    · have d1 : (j : Int) < (L.length : Int) := by omega
      obtain ⟨a, rfl, hc⟩ := SlN.cell HS.out hlt
      have hs := nzN_take L hlt
      have hql := nzN_le (L.take j)
      rw [List.length_take] at hql
      rw [hq] at hs hql
      have HQ := Lib.hid hs
      have hq310 : q ≤ 310 := by omega
      obtain ⟨x, hx⟩ : ∃ x, L.getD j 0 = x := ⟨_, rfl⟩
      rw [hx] at hc HQ
      clear hs hq hql hx
      by_cases h0 : 0 < x
      · have g0 : (0 : Int) < (x : Int) := by omega
        have HQ2 : Hid (nzN (L.take (j + 1)) = q + 1) := Lib.hid (by rw [HQ.out, if_pos h0])
        clear HQ
        go_wp2
        go_round
        case rel => exact ⟨j + 1, q + 1, by omega, by go_num, by go_num, HQ2.out⟩
        case measure => (simp [intOf]; try omega)
      · have g0 : ¬ (0 : Int) < (x : Int) := by omega
        have HQ2 : Hid (nzN (L.take (j + 1)) = q) := Lib.hid (by rw [HQ.out, if_neg h0, Nat.add_zero])
        clear HQ
        go_wp2
        go_round
        case rel => exact ⟨j + 1, q, by omega, by go_num, rfl, HQ2.out⟩
        case measure => (simp [intOf]; try omega)
    · obtain rfl : j = L.length := by omega
      rw [List.take_length] at hq
      have HQ := Lib.hid hq
      clear hq
      go_wp2
      go_ret
      exact ⟨by rw [HQ.out]; rfl, rfl⟩
/-- a byte as a token -/
def byT (c : Nat) : Nat × Int × Int := (c, 0, 0)
theorem byT_at (b : List Nat) {j : Nat} (h : j < b.length) : (b.map byT).take (j + 1) = (b.map byT).take j ++ [(b.getD j 0, 0, 0)] := by
  have hl : j < (b.map byT).length := by simpa using h
  rw [List.take_succ_eq_append_getElem hl]
  simp [byT, h]
set_option maxRecDepth 100000 in
set_option maxHeartbeats 2000000 in
theorem q_bytesOf (b : List Nat) (p : Option Addr) (cap : Nat) (w : World) (hl : b.length ≤ 1000000) (hS : Sl w 1 (.slice p b.length cap) (rowsBy b)) :
    Calls Try.prog 76 #[.slice p b.length cap] w (OwnRetR 34 3 (rowsTk (b.map byT)) w) := by
  obtain ⟨i0, hi0, hz0, hz1, hz2⟩ := info_parts2 info_tk
  have hbt := build_tk1
  have HS := Lib.hid hS
  clear hS
  go_enter Try.func76, Try.ntmps76
  go_wp2
  go_loopw [3, 8] (fun l i wr => ∃ (j : Nat) (lv : Value), lv = l ∧ i = .int .i64 (j : Int) ∧ j ≤ b.length ∧ OwnR wr w.heap.size 34 3 lv (rowsTk ((b.map byT).take j)) ∧ Below w.heap.size w wr) (fun _ i _ => b.length - (intOf i).toNat)
  case atStart => exact ⟨0, _, rfl, rfl, by omega, OwnR.nil _ _ _ _, Below.refl _ _⟩
  case round =>
    obtain ⟨j, lv, rfl, rfl, hj, gO, gb⟩ := hrel
    by_cases hlt : j < b.length
    · have d1 : (j : Int) < (b.length : Int) := by omega
      obtain ⟨a, rfl, hc⟩ := SlB.cell (HS.out.below gb) hlt
      have hst := byT_at b hlt
      obtain ⟨c, hcc⟩ : ∃ c, b.getD j 0 = c := ⟨_, rfl⟩
      rw [hcc] at hc hst
      have k6 := Blk.new' wr 34 (c := #[.int .u8 (c : Int), .int .i64 0, .int .i64 0]) (rowT (c, 0, 0)) rfl
      have hb6 := (Below.refl wr.heap.size wr).alloc (Nat.le_refl _) (.cells #[.int .u8 (c : Int), .int .i64 0, .int .i64 0] 34)
      have hlo := gO.lt
      have hO6 := gO.keep hb6
      have hB6 := gb.trans (hb6.mono gb.size)
      have hnews := sl_one k6
      have hlen0 : ((b.map byT).take j).length ≤ 1000000 := by rw [List.length_take, List.length_map]; omega
      have hone : ∀ r ∈ [rowT (c, 0, 0)], ∀ u ∈ r, u.oneCell' = true := by simp [rowT, Value.oneCell']
      have hlen : (rowsTk ((b.map byT).take j)).length + [rowT (c, 0, 0)].length ≤ maxLen := by rw [rowsTk_len, List.length_singleton]; unfold maxLen; omega
      have hby : ((rowsTk ((b.map byT).take j)).length + [rowT (c, 0, 0)].length) * 24 ≤ 140737488355328 := by rw [rowsTk_len, List.length_singleton]; omega
      have HO := Lib.hid hO6
      have HB6 := Lib.hid hB6
      have HNW := Lib.hid hnews
      have HLO := Lib.hid hlo
      have HONE := Lib.hid hone
      have HLEN := Lib.hid hlen
      have HBY := Lib.hid hby
      have HBA := Lib.hid hB6.size
      have HST := Lib.hid hst
      clear gO gb k6 hb6 hlo hO6 hB6 hnews hlen0 hone hlen hby hst hcc
      go_wp2_with (first | (refine wpList_append_rows rfl _ _ 30 rfl w.heap.size 34 i0 (.agg #[.int .u8 0, .int .i64 0, .int .i64 0]) 3 24 Try.underlying30 hi0 hz0 hz1 hz2 rfl (by decide) _ (rowsTk ((b.map byT).take j)) rfl HO.out (.slice (some ⟨wr.heap.size, 0, none⟩) 1 1) [rowT (c, 0, 0)] rfl HNW.out HONE.out HLEN.out HBY.out HBA.out (.inr ⟨_, _, _, rfl⟩) ?_; intro v7 w7 ho7 hg7 hv7))
      go_roundw
      case rel => exact ⟨j + 1, v7, rfl, by go_num, by omega, by rw [HST.out, rowsTk_snoc]; exact ho7, HB6.out.grown hg7 HBA.out (fun k e => (HLO.out k e).1)⟩
      case measure => (simp [intOf]; try omega)
    · obtain rfl : j = b.length := by omega
      have GO := Lib.hid gO
      have GB := Lib.hid gb
      clear gO gb
      go_wp2
      go_ret
      exact ⟨_, rfl, by have := GO.out; rwa [List.take_of_length_le (by simp)] at this, GB.out⟩
end Go.Proofs.Ytpjihjbgihionaa
namespace Go.Proofs.Ytpjihjbgihionaa
set_option linter.unusedVariables false

theorem told_in {L s : List Nat} {p i p' : Nat} : ∀ d w, toldW L s p d w = (i, 0, p') → i < L.length ∧ p + w ≤ p' ∧ p' ≤ 8 * s.length
  | 0, w, h => by unfold toldW at h; simp at h
  | d + 1, w, h => by
    unfold toldW at h
    split at h
    · simp at h
    · rename_i hs
      split at h
      · rename_i k hk
        simp only [Prod.mk.injEq] at h
        obtain ⟨rfl, _, rfl⟩ := h
        refine ⟨?_, Nat.le_refl _, by omega⟩
        unfold hitW at hk
        exact List.mem_range.1 (List.mem_of_find?_eq_some hk)
      · split at h
        · obtain ⟨h1, h2, h3⟩ := told_in d (w + 1) h
          exact ⟨h1, by omega, h3⟩
        · simp at h
theorem takeP_ok {s : List Nat} {p n p' : Nat} {x : Int} (h0 : 0 ≤ x) (hp : p ≤ 8 * s.length) (h : takeP s p x = (n, 0, p')) : n < 2 ^ x.toNat ∧ p' = p + x.toNat ∧ p' ≤ 8 * s.length := by
  unfold takeP at h
  split at h
  · simp at h
  · split at h
    · simp at h
    · simp only [Prod.mk.injEq] at h
      obtain ⟨rfl, _, rfl⟩ := h
      exact ⟨numB_lt _ _ _, rfl, by omega⟩
/-- what a token of a symbol is -/
def tokS (sym back : Nat) : Nat × Int × Int := if sym < 256 then (sym, 0, 0) else (0, ((sym - 253 : Nat) : Int), ((back + 1 : Nat) : Int))
/-- what is expanded behind a symbol -/
def expG (L s : List Nat) (most : Int) (f sym p : Nat) (b : List Nat) : List Nat × Nat :=
  if sym = 288 then (if endP s p ≠ 0 then ([], endP s p) else (b, 0))
  else if sym < 256 then (if (stepW most (tokS sym 0) b).1 = 0 then expF L s most f p (stepW most (tokS sym 0) b).2 else ([], (stepW most (tokS sym 0) b).1))
  else if (takeP s p 9).2.1 ≠ 0 then ([], (takeP s p 9).2.1)
  else if (stepW most (tokS sym (takeP s p 9).1) b).1 = 0 then expF L s most f (takeP s p 9).2.2 (stepW most (tokS sym (takeP s p 9).1) b).2 else ([], (stepW most (tokS sym (takeP s p 9).1) b).1)
theorem expF_G {L s : List Nat} {most : Int} {f p sym p' : Nat} {b : List Nat} (hp : p ≤ 8 * s.length) (h : toldW L s p 15 1 = (sym, 0, p')) (hs : sym < 289) : expF L s most (f + 1) p b = expG L s most f sym p' b := by
  have hp' := (told_in 15 1 h).2.2
  rw [expF, h]
  unfold expG
  simp only [ne_eq, not_true_eq_false, if_false]
  by_cases h1 : sym = 288
  · rw [if_pos h1, if_pos h1]
  · rw [if_neg h1, if_neg h1]
    by_cases h2 : sym < 256
    · rw [if_pos h2, if_pos h2]
      have e : tokS sym 0 = (sym, 0, 0) := if_pos h2
      rw [e]
      unfold stepW
      simp only [ne_eq, not_true_eq_false, if_true, if_false]
      by_cases hm : most < ((b.length + 1 : Nat) : Int)
      · rw [if_pos hm, if_pos hm, if_neg (by show ¬ (90 = 0); omega)]
      · rw [if_neg hm, if_neg hm, if_pos rfl]
    · rw [if_neg h2, if_neg h2]
      by_cases h3 : (takeP s p' 9).2.1 = 0
      · have g3 : ¬ ¬ (takeP s p' 9).2.1 = 0 := fun h => h h3
        rw [if_neg g3, if_neg g3]
        obtain ⟨k, hk, hkl⟩ : ∃ k, (takeP s p' 9).1 = k ∧ k < 512 := by
          have := takeP_ok (s := s) (p := p') (n := (takeP s p' 9).1) (p' := (takeP s p' 9).2.2) (x := 9) (by omega) hp' (by rw [← h3])
          exact ⟨_, rfl, this.1⟩
        rw [hk]
        have e : tokS sym k = (0, ((sym - 253 : Nat) : Int), ((k + 1 : Nat) : Int)) := if_neg h2
        rw [e]
        unfold stepW
        simp only
        rw [if_neg (show ¬ ((sym - 253 : Nat) : Int) = 0 by omega), if_neg (show ¬ (((sym - 253 : Nat) : Int) < 3 ∨ 34 < ((sym - 253 : Nat) : Int) ∨ ((k + 1 : Nat) : Int) < 1 ∨ 512 < ((k + 1 : Nat) : Int) ∨ (0 : Nat) ≠ 0) by omega)]
        simp only [Int.toNat_natCast]
        by_cases h4 : b.length < k + 1
        · rw [if_pos h4, if_pos (show (b.length : Int) < ((k + 1 : Nat) : Int) by omega), if_neg (by show ¬ (80 = 0); omega)]
        · rw [if_neg h4, if_neg (show ¬ (b.length : Int) < ((k + 1 : Nat) : Int) by omega)]
          by_cases hm : most < ((b.length + (sym - 253) : Nat) : Int)
          · rw [if_pos hm, if_pos hm, if_neg (by show ¬ (90 = 0); omega)]
          · rw [if_neg hm, if_neg hm, if_pos rfl]
      · rw [if_pos h3, if_pos h3]
theorem expF_dead {L s : List Nat} {most : Int} {f p : Nat} {b : List Nat} (h : (toldW L s p 15 1).2.1 ≠ 0) : expF L s most (f + 1) p b = ([], (toldW L s p 15 1).2.1) := by
  rw [expF, if_pos h]
/-! ### a token joined with no more than it reaches back to -/
theorem step_byte {most : Int} {b : List Nat} {c : Nat} (h : ¬ most < ((b.length + 1 : Nat) : Int)) : stepW most (c, 0, 0) b = (0, b ++ [c]) := by
  unfold stepW
  simp only [ne_eq, not_true_eq_false, if_true, if_false]
  rw [if_neg h]
theorem join_bytes {most : Int} (T : List (Nat × Int × Int)) : ∀ (l acc : List Nat), l = [] ∨ ((acc.length + l.length : Nat) : Int) ≤ most → joinW most (l.map (fun c => (c, (0 : Int), (0 : Int))) ++ T) acc = joinW most T (acc ++ l)
  | [], acc, _ => by simp
  | c :: l, acc, h => by
    have h' : ((acc.length + (l.length + 1) : Nat) : Int) ≤ most := by
      rcases h with h | h
      · cases h
      · simpa using h
    rw [List.map_cons, List.cons_append, join_cons, step_byte (by omega), if_pos rfl]
    simp only
    rw [join_bytes T l (acc ++ [c]) (.inr (by rw [List.length_append, List.length_singleton]; omega)), List.append_assoc]
    rfl
theorem copyW_takeF {k f : Nat} : ∀ (n : Nat) (b : List Nat), f ≤ b.length → (copyW k n b).take f = b.take f
  | 0, b, _ => rfl
  | n + 1, b, h => by
    show (copyW k n (b ++ [b.getD (b.length - k) 0])).take f = _
    rw [copyW_takeF n _ (by rw [List.length_append]; omega), List.take_append_of_le_length h]
theorem copyW_dropF {k f : Nat} (hk : 1 ≤ k) : ∀ (n : Nat) (b : List Nat), f + k ≤ b.length → copyW k n (b.drop f) = (copyW k n b).drop f
  | 0, b, _ => rfl
  | n + 1, b, h => by
    show copyW k n (b.drop f ++ [(b.drop f).getD ((b.drop f).length - k) 0]) = (copyW k n (b ++ [b.getD (b.length - k) 0])).drop f
    rw [← copyW_dropF hk n _ (by rw [List.length_append]; omega), List.drop_append_of_le_length (by omega), getD_drop, List.length_drop, show f + (b.length - f - k) = b.length - k by omega]
/-- how far a token reaches back -/
def fromW (k : Nat) (b : List Nat) : Nat := b.length - k
theorem step_from {most : Int} {sym back : Nat} {b : List Nat} (hs : sym < 288) (hk : back < 512) :
    ∃ from' : Nat, from' = (if sym < 256 then b.length else b.length - (back + 1)) ∧ from' ≤ b.length ∧
      stepW (most - (from' : Int)) (tokS sym back) (b.drop from') = ((stepW most (tokS sym back) b).1, (stepW most (tokS sym back) b).2.drop from') ∧
      (stepW most (tokS sym back) b).2.take from' = b.take from' := by
  refine ⟨_, rfl, by split <;> omega, ?_⟩
  by_cases h2 : sym < 256
  · have e : tokS sym back = (sym, 0, 0) := if_pos h2
    rw [e, if_pos h2]
    unfold stepW
    simp only [ne_eq, not_true_eq_false, if_true, if_false]
    have hd : b.drop b.length = [] := List.drop_length
    rw [hd]
    by_cases hm : most < ((b.length + 1 : Nat) : Int)
    · rw [if_pos hm, if_pos (show most - (b.length : Int) < (([] : List Nat).length + 1 : Nat) by simp; omega)]
      simp
    · rw [if_neg hm, if_neg (show ¬ most - (b.length : Int) < (([] : List Nat).length + 1 : Nat) by simp; omega)]
      simp
  · have e : tokS sym back = (0, ((sym - 253 : Nat) : Int), ((back + 1 : Nat) : Int)) := if_neg h2
    rw [e, if_neg h2]
    unfold stepW
    simp only
    rw [if_neg (show ¬ ((sym - 253 : Nat) : Int) = 0 by omega), if_neg (show ¬ (((sym - 253 : Nat) : Int) < 3 ∨ 34 < ((sym - 253 : Nat) : Int) ∨ ((back + 1 : Nat) : Int) < 1 ∨ 512 < ((back + 1 : Nat) : Int) ∨ (0 : Nat) ≠ 0) by omega), if_neg (show ¬ ((sym - 253 : Nat) : Int) = 0 by omega), if_neg (show ¬ (((sym - 253 : Nat) : Int) < 3 ∨ 34 < ((sym - 253 : Nat) : Int) ∨ ((back + 1 : Nat) : Int) < 1 ∨ 512 < ((back + 1 : Nat) : Int) ∨ (0 : Nat) ≠ 0) by omega)]
    simp only [Int.toNat_natCast]
    have hd : (b.drop (b.length - (back + 1))).length = b.length - (b.length - (back + 1)) := List.length_drop
    rw [hd]
    by_cases h4 : b.length < back + 1
    · rw [if_pos (show (b.length : Int) < ((back + 1 : Nat) : Int) by omega), if_pos (show ((b.length - (b.length - (back + 1)) : Nat) : Int) < ((back + 1 : Nat) : Int) by omega)]
      exact ⟨rfl, rfl⟩
    · rw [if_neg (show ¬ (b.length : Int) < ((back + 1 : Nat) : Int) by omega), if_neg (show ¬ ((b.length - (b.length - (back + 1)) : Nat) : Int) < ((back + 1 : Nat) : Int) by omega)]
      generalize sym - 253 = m
      have hdr := copyW_dropF (k := back + 1) (f := b.length - (back + 1)) (by omega) m b (by omega)
      have htk := copyW_takeF (k := back + 1) (f := b.length - (back + 1)) m b (by omega)
      by_cases hm : most < ((b.length + m : Nat) : Int)
      · rw [if_pos hm, if_pos (show most - ((b.length - (back + 1) : Nat) : Int) < ((b.length - (b.length - (back + 1)) + m : Nat) : Int) by omega)]
        exact ⟨congrArg (fun x => ((90 : Nat), x)) hdr, htk⟩
      · rw [if_neg hm, if_neg (show ¬ most - ((b.length - (back + 1) : Nat) : Int) < ((b.length - (b.length - (back + 1)) + m : Nat) : Int) by omega)]
        exact ⟨congrArg (fun x => ((0 : Nat), x)) hdr, htk⟩
/-- what a token is joined to, with what it reaches back to -/
theorem join_from {most : Int} {sym back : Nat} {b : List Nat} (hs : sym < 288) (hk : back < 512) (hb : b = [] ∨ (b.length : Int) ≤ most) {q : Nat} (hq : q = (if sym < 256 then b.length else b.length - (back + 1))) :
    joinW (most - (q : Int)) ((b.drop q).map (fun c => (c, (0 : Int), (0 : Int))) ++ [tokS sym back]) [] = (if (stepW most (tokS sym back) b).1 = 0 then ((stepW most (tokS sym back) b).2.drop q, 0) else ([], (stepW most (tokS sym back) b).1)) ∧
      (stepW most (tokS sym back) b).2 = b.take q ++ (stepW most (tokS sym back) b).2.drop q ∧ q ≤ b.length := by
  obtain ⟨q', hq', hle, h1, h2⟩ := step_from (most := most) (b := b) hs hk
  obtain rfl : q = q' := by rw [hq, hq']
  refine ⟨?_, by rw [← h2, List.take_append_drop], hle⟩
  rw [join_bytes [tokS sym back] (b.drop q) [] ?_, List.nil_append, join_cons, h1]
  · rfl
  · rcases hb with rfl | hb
    · left; simp
    · right
      rw [List.length_drop]
      simp
      omega
theorem step_most {most : Int} {t : Nat × Int × Int} {b : List Nat} (h : (stepW most t b).1 = 0) : ((stepW most t b).2.length : Int) ≤ most := by
  obtain ⟨c, n, k⟩ := t
  unfold stepW at h ⊢
  simp only at h ⊢
  split at h
  · split at h
    · simp at h
    · split at h
      · simp at h
      · rename_i h1 h2 h3
        rw [if_pos h1, if_neg h2, if_neg h3]
        simp only [List.length_append, List.length_singleton]
        omega
  · split at h
    · simp at h
    · split at h
      · simp at h
      · split at h
        · simp at h
        · rename_i h1 h2 h3 h4
          rw [if_neg h1, if_neg h2, if_neg h3, if_neg h4]
          simp only [copyW_len]
          omega
end Go.Proofs.Ytpjihjbgihionaa
namespace Go.Proofs.Ytpjihjbgihionaa
open Go.RowKit
set_option linter.unusedVariables false

theorem grown_setRow {w w2 : World} {o : Option Nat} (h : w.grownBy w2 o) {b : Nat} (hb : w.heap.size ≤ b) (cs : Array Value) : w.grownBy (w2.setRow b cs) o := by
  obtain ⟨h1, h2, h3, h4, h5⟩ := h
  exact ⟨h1, h2, h3, by simpa using h4, fun k hk hne => by rw [setRow_other w2 b k cs (by omega)]; exact h5 k hk hne⟩
/-- an end by a panic with an error -/
def Died (er : Nat) : Ending := .panicked [{ v := .iface 23 (.int .i64 (er : Int)), recovered := false }]
theorem q_must_ok (w : World) : Calls Try.prog 50 #[.int .i64 0] w fun e w' => e = .returned (.tuple #[]) ∧ w' = w := by
  go_enter Try.func50, Try.ntmps50
  go_wp2
  go_end0
  exact ⟨rfl, rfl⟩
theorem q_must_no (er : Nat) (h : er ≠ 0) (w : World) : Calls Try.prog 50 #[.int .i64 (er : Int)] w fun e w' => e = Died er ∧ w' = w := by
  have e0 : ((er : Int) != 0) = true := by rw [bne_iff_ne]; omega
  clear h
  go_enter Try.func50, Try.ntmps50
  go_wp2
  exact ⟨rfl, rfl, rfl⟩
/-- what a step comes to: a value, or a panic with the error -/
def Step (er : Nat) (v : Value) (e : Ending) : Prop := (er = 0 → e = .returned v) ∧ (er ≠ 0 → e = Died er)
set_option maxRecDepth 100000 in
set_option maxHeartbeats 400000 in
theorem q_number (X R : Nat) (v m : Value) (s : ByteArray) (p : Nat) (x : Int) (w : World) (hX : Blk w X 61 [.pointer (some ⟨R, 0, none⟩), v, m]) (hR : Blk w R 91 (rdr s p)) (hp : p ≤ 8 * s.size) (hs : s.size ≤ 1000000) (h0 : 0 ≤ x) (h24 : x ≤ 24) (n er p' : Nat) (h : takeP (sl s) p x = (n, er, p')) :
    Calls Try.prog 73 #[.pointer (some ⟨X, 0, none⟩), .int .i64 x] w fun e w' => Step er (.int .i64 (n : Int)) e ∧ Turned w w' R 91 (rdr s p') := by
  have hT := i_Take R s p x w hR hp (by omega) n er p' h
  have c0 := hX.cell 0
  simp only [List.getElem?_cons_zero] at c0
  have HT := Lib.hid hT
  by_cases he : er = 0
  · subst he
    have hn : n < 16777216 := by
      have h1 := (takeP_ok h0 (by rw [sl_len]; exact hp) h).1
      have h2 : 2 ^ x.toNat ≤ 2 ^ 24 := Nat.pow_le_pow_right (by decide) (by omega)
      omega
    have hm := q_must_ok
    have HM := Lib.hid hm
    clear hT hX hR h hm
    go_enter Try.func73, Try.ntmps73
    go_wp2_with fail
    (with_reducible refine HT.out.mono ?_)
    rintro e w2 ⟨rfl, hT2⟩
    have HT2 := Lib.hid hT2
    clear hT2 HT
    go_wp2_with fail
    refine (HM.out _).mono ?_
    rintro e w3 ⟨rfl, rfl⟩
    go_wp2
    go_ret
    exact ⟨⟨fun _ => rfl, fun h => absurd rfl h⟩, HT2.out⟩
  · have hm := q_must_no er he
    have HM := Lib.hid hm
    have HE := Lib.hid he
    clear hT hX hR h hm he
    go_enter Try.func73, Try.ntmps73
    go_wp2_with fail
    (with_reducible refine HT.out.mono ?_)
    rintro e w2 ⟨rfl, hT2⟩
    have HT2 := Lib.hid hT2
    clear hT2 HT
    go_wp2_with fail
    refine (HM.out _).mono ?_
    rintro e w3 ⟨rfl, rfl⟩
    exact ⟨rfl, ⟨fun h => absurd h HE.out, fun _ => rfl⟩, HT2.out⟩
set_option maxRecDepth 100000 in
set_option maxHeartbeats 400000 in
theorem q_symbol (X R g : Nat) (v m : Value) (s : ByteArray) (p : Nat) (L : List Nat) (w : World) (hX : Blk w X 61 [.pointer (some ⟨R, 0, none⟩), v, m]) (hR : Blk w R 91 (rdr s p)) (hG : Blk w g 3 (ints .i64 (nn L))) (hRL : RightN L) (hgR : g ≠ R) (hp : p ≤ 8 * s.size) (hs : s.size ≤ 1000000) (n er p' : Nat) (h : toldW L (sl s) p 15 1 = (n, er, p')) :
    Calls Try.prog 47 #[.pointer (some ⟨X, 0, none⟩), .slice (some ⟨g, 0, none⟩) L.length L.length] w fun e w' => Step er (.int .i64 (n : Int)) e ∧ Turned w w' R 91 (rdr s p') := by
  have hT := p_Next_yes L (some ⟨g, 0, none⟩) L.length R s p w hRL (hG.slN _) hR hp hs (fun a e => by cases e; exact hgR)
  rw [h] at hT
  have hT : Calls Try.prog 74 #[.pointer (some ⟨R, 0, none⟩), .slice (some ⟨g, 0, none⟩) L.length L.length] w fun e w' => e = .returned (.tuple #[.int .i64 (n : Int), .int .i64 (er : Int)]) ∧ Turned w w' R 91 (rdr s p') := hT
  have c0 := hX.cell 0
  simp only [List.getElem?_cons_zero] at c0
  have HT := Lib.hid hT
  generalize L.length = N at *
  by_cases he : er = 0
  · subst he
    have hm := q_must_ok
    have HM := Lib.hid hm
    clear hT hX hR hG h hm
    go_enter Try.func47, Try.ntmps47
    go_wp2_with fail
    (with_reducible refine HT.out.mono ?_)
    rintro e w2 ⟨rfl, hT2⟩
    have HT2 := Lib.hid hT2
    clear hT2 HT
    go_wp2_with fail
    refine (HM.out _).mono ?_
    rintro e w3 ⟨rfl, rfl⟩
    go_wp2
    go_ret
    exact ⟨⟨fun _ => rfl, fun h => absurd rfl h⟩, HT2.out⟩
  · have hm := q_must_no er he
    have HM := Lib.hid hm
    have HE := Lib.hid he
    clear hT hX hR hG h hm he
    go_enter Try.func47, Try.ntmps47
    go_wp2_with fail
    (with_reducible refine HT.out.mono ?_)
    rintro e w2 ⟨rfl, hT2⟩
    have HT2 := Lib.hid hT2
    clear hT2 HT
    go_wp2_with fail
    refine (HM.out _).mono ?_
    rintro e w3 ⟨rfl, rfl⟩
    exact ⟨rfl, ⟨fun h => absurd h HE.out, fun _ => rfl⟩, HT2.out⟩
set_option maxRecDepth 100000 in
set_option maxHeartbeats 400000 in
theorem q_token_byte (X : Nat) (sym : Nat) (w : World) (hs : sym < 256) :
    Calls Try.prog 49 #[.pointer (some ⟨X, 0, none⟩), .int .i64 (sym : Int)] w fun e w' => e = .returned (.agg (rowT (sym, 0, 0)).toArray) ∧ Below w.heap.size w w' := by
  have k0 := Blk.new' w 34 (c := #[.int .u8 0, .int .i64 0, .int .i64 0]) [.int .u8 0, .int .i64 0, .int .i64 0] rfl
  have hb := (Below.refl w.heap.size w).alloc (Nat.le_refl _) (.cells #[.int .u8 0, .int .i64 0, .int .i64 0] 34)
  have b1 := build_tk1
  have K0 := Lib.hid k0
  have HB := Lib.hid hb
  have g1 : (sym : Int) < 256 := by omega
  have g2 : IntKind.u8.wrap (sym : Int) = (sym : Int) := by rw [IntKind.wrap_u8]; omega
  clear k0 hb
  go_enter Try.func49, Try.ntmps49
  go_wp2_with (refine wpList_store_blk rfl 34 _ _ rfl w.heap.size (rowT (sym, 0, 0)) rfl rfl K0.out size_tk rfl (rowT_one _) ?_)
  refine bodyPost_ret (v := .agg (rowT (sym, 0, 0)).toArray) (results_cell_blk rfl _ _ _ rfl (K0.out.row (rowT (sym, 0, 0)) rfl) Try.underlying34 rfl size_tk) rfl ⟨rfl, below_setRow HB.out (Nat.le_refl _) _⟩
set_option maxRecDepth 100000 in
set_option maxHeartbeats 400000 in
theorem q_token_match (X R : Nat) (v m : Value) (s : ByteArray) (p : Nat) (sym : Nat) (w : World) (hX : Blk w X 61 [.pointer (some ⟨R, 0, none⟩), v, m]) (hR : Blk w R 91 (rdr s p)) (hp : p ≤ 8 * s.size) (hs : s.size ≤ 1000000) (h1 : 256 ≤ sym) (h2 : sym < 288) (k er p' : Nat) (h : takeP (sl s) p 9 = (k, er, p')) :
    Calls Try.prog 49 #[.pointer (some ⟨X, 0, none⟩), .int .i64 (sym : Int)] w fun e w' => Step er (.agg #[.int .u8 0, .int .i64 ((sym - 253 : Nat) : Int), .int .i64 ((k + 1 : Nat) : Int)]) e ∧ Turned w w' R 91 (rdr s p') := by
  obtain ⟨w1, hw1⟩ : ∃ w1, w.alloc (.cells #[.int .u8 0, .int .i64 0, .int .i64 0] 34) = w1 := ⟨_, rfl⟩
  have hb : Below w.heap.size w w1 := by rw [← hw1]; exact (Below.refl w.heap.size w).alloc (Nat.le_refl _) (.cells #[.int .u8 0, .int .i64 0, .int .i64 0] 34)
  have k0 : Blk w1 w.heap.size 34 [.int .u8 0, .int .i64 0, .int .i64 0] := by rw [← hw1]; exact Blk.new' w 34 (c := #[.int .u8 0, .int .i64 0, .int .i64 0]) [.int .u8 0, .int .i64 0, .int .i64 0] rfl
  have hN := q_number X R v m s p 9 w1 (hX.below hb hX.lt) (hR.below hb hR.lt) hp hs (by omega) (by omega) k er p' h
  have hRl := hR.lt
  have hG : w.grownBy w1 (some R) := (grown_below hb).but (some R)
  have b2 := build_tk2
  have g1 : ¬ (sym : Int) < 256 := by omega
  have HN := Lib.hid hN
  have K0 := Lib.hid k0
  have HG := Lib.hid hG
  have HW := Lib.hid hw1
  by_cases he : er = 0
  · subst he
    have hk : k < 512 := (takeP_ok (by omega) (by rw [sl_len]; exact hp) h).1
    obtain ⟨q, hq⟩ : ∃ q, sym - 253 = q := ⟨_, rfl⟩
    have e1 : (sym : Int) - 256 + 3 = (q : Int) := by omega
    rw [hq]
    have i1 : (sym : Int) ≤ 288 := by omega
    have i2 : (k : Int) < 512 := by omega
    clear hN k0 hG hw1 hb hX hR h h1 h2 hq
    go_enter Try.func49, Try.ntmps49
    go_wp2_with fail
    rw [HW.out]
    refine HN.out.mono ?_
    rintro e w2 ⟨hst, hT2⟩
    obtain rfl := hst.1 rfl
    have K2 := hT2.other K0.out (show w.heap.size ≠ R by omega)
    have hG2 : w.grownBy w2 (some R) := HG.out.trans hT2.1
    have K2 := Lib.hid K2
    have T2 := Lib.hid hT2.2
    have G2 := Lib.hid hG2
    have hz := hT2.size
    have hz1 := K0.out.lt
    clear HN K0 HG HW hT2 hst hG2
    go_wp2_with (refine wpList_store_blk rfl 34 _ _ rfl w.heap.size (rowT (0, (q : Int), ((k + 1 : Nat) : Int))) rfl (by first | rfl | (simp only [rowT]; go_num)) K2.out size_tk rfl (rowT_one _) ?_)
    refine bodyPost_ret (v := .agg (rowT (0, (q : Int), ((k + 1 : Nat) : Int))).toArray) (results_cell_blk rfl _ _ _ rfl (K2.out.row (rowT (0, (q : Int), ((k + 1 : Nat) : Int))) rfl) Try.underlying34 rfl size_tk) rfl ⟨⟨fun _ => rfl, fun h => absurd rfl h⟩, ?_, T2.out.rowOther (by omega) _⟩
    exact grown_setRow G2.out (Nat.le_refl _) _
  · have HE := Lib.hid he
    clear hN k0 hG hw1 hb hX hR h h1 h2 he
    go_enter Try.func49, Try.ntmps49
    go_wp2_with fail
    rw [HW.out]
    refine HN.out.mono ?_
    rintro e w2 ⟨hst, hT2⟩
    obtain rfl := hst.2 HE.out
    exact ⟨rfl, ⟨fun h => absurd h HE.out, fun _ => rfl⟩, HG.out.trans hT2.1, hT2.2⟩
end Go.Proofs.Ytpjihjbgihionaa
namespace Go.Proofs.Ytpjihjbgihionaa
open Go.RowKit
set_option linter.unusedVariables false

theorem Blk.neT {w : World} {a b : Nat} {t t' : TypeId} {vs vs' : List Value} (h : Blk w a t vs) (h' : Blk w b t' vs') (ht : t ≠ t') : a ≠ b := by
  rintro rfl
  unfold Blk at h h'
  rw [h] at h'
  simp at h'
  exact ht h'.2
theorem OwnR.mono {w : World} {B B' : Nat} {e : TypeId} {k : Nat} {v : Value} {rows : List (List Value)} (h : OwnR w B e k v rows) (hb : B' ≤ B) : OwnR w B' e k v rows := by
  obtain ⟨h0, h1, h2⟩ := h
  refine ⟨h0, h1, ?_⟩
  rcases h2 with h2 | ⟨g, cap, cur, hv, hg, r⟩
  · exact .inl h2
  · exact .inr ⟨g, cap, cur, hv, by omega, r⟩
theorem rightW_N {L : List Nat} (hl : L.length = 289) (h15 : ∀ i, L.getD i 0 ≤ 15) : rightW L ↔ RightN L := by
  have h15' : ∀ d ∈ L, d ≤ 15 := fun d hd => by
    obtain ⟨i, hi, rfl⟩ := List.getElem_of_mem hd
    have := h15 i
    simpa [hi] using this
  have e : lgN L 1 = (L.filter fun d => decide (0 < d)).length := by
    unfold lgN
    congr 1
  unfold rightW RightN
  rw [← e]
  constructor
  · rintro ⟨_, h | h⟩
    · exact ⟨by omega, h15, .inl h⟩
    · exact ⟨by omega, h15, .inr ((single_iff h15).2 h)⟩
  · rintro ⟨_, _, h | h⟩
    · exact ⟨h15', .inl h⟩
    · exact ⟨h15', .inr ((single_iff h15).1 h)⟩
theorem rightI_N {L : List Nat} (h : RightI (nn L)) : RightN L := by
  obtain ⟨M, e, h1⟩ := h.nat
  rw [nn_inj e]
  exact h1
/-- what the lengths are read as: they, the error, and how far the bits are -/
def lensP (s : List Nat) : List Nat × Nat × Nat :=
  if (takeP s 0 9).2.1 ≠ 0 then ([], (takeP s 0 9).2.1, 0)
  else if 289 < (takeP s 0 9).1 then ([], 70, 0)
  else if (readT s (takeP s 0 9).1 (-1) (takeP s 0 9).2.2 (zerN 289)).2.1 ≠ 0 then ([], (readT s (takeP s 0 9).1 (-1) (takeP s 0 9).2.2 (zerN 289)).2.1, 0)
  else if ¬ (rightW (readT s (takeP s 0 9).1 (-1) (takeP s 0 9).2.2 (zerN 289)).1 ∧ (readT s (takeP s 0 9).1 (-1) (takeP s 0 9).2.2 (zerN 289)).1.getD 288 0 ≠ 0) then ([], 70, 0)
  else ((readT s (takeP s 0 9).1 (-1) (takeP s 0 9).2.2 (zerN 289)).1, 0, (readT s (takeP s 0 9).1 (-1) (takeP s 0 9).2.2 (zerN 289)).2.2)
theorem expandP_lens (s : List Nat) (most : Int) : expandP s most = if (lensP s).2.1 ≠ 0 then ([], (lensP s).2.1) else expF (lensP s).1 s most (8 * s.length + 1) (lensP s).2.2 [] := by
  unfold expandP lensP
  split
  · rfl
  · split
    · rfl
    · split
      · rfl
      · split
        · rfl
        · rfl
/-- what lengths hands back -/
def LenRet (w : World) (R : Nat) (s : ByteArray) (L : List Nat) (er p' : Nat) (e : Ending) (w' : World) : Prop :=
  (er ≠ 0 → e = Died er) ∧ w.grownBy w' (some R) ∧ (er = 0 → ∃ g, e = .returned (.slice (some ⟨g, 0, none⟩) 289 289) ∧ w.heap.size ≤ g ∧ Blk w' g 3 (ints .i64 (nn L)) ∧ Blk w' R 91 (rdr s p') ∧ RightN L ∧ L.length = 289 ∧ p' ≤ 8 * s.size)
set_option maxRecDepth 100000 in
set_option maxHeartbeats 8000000 in
theorem q_lengths (X R : Nat) (v m : Value) (s : ByteArray) (w : World) (hX : Blk w X 61 [.pointer (some ⟨R, 0, none⟩), v, m]) (hR : Blk w R 91 (rdr s 0)) (hs : s.size ≤ 1000000) (L : List Nat) (er p' : Nat) (h : lensP (sl s) = (L, er, p')) :
    Calls Try.prog 46 #[.pointer (some ⟨X, 0, none⟩)] w (LenRet w R s L er p') := by
  have hmk : ∀ w : World, (Instr.makeSlice 35 (.int .i64 289) (.int .i64 289)).run Try.prog w = .ok (.slice (some ⟨w.heap.size, 0, none⟩) 289 289) (w.alloc (.cells (ints .i64 (nn (zerN 289))).toArray 3)) := make_ints 289 (by decide)
  have hzl : (zerN 289).length = 289 := zerN_len 289
  have hz15 : ∀ i, (zerN 289).getD i 0 ≤ 15 := fun i => by rw [zerN_at]; omega
  unfold lensP at h
  generalize zerN 289 = Z at *
  have hXR : X ≠ R := hX.neT hR (by decide)
  have hRl := hR.lt
  obtain ⟨w1, hw1⟩ : ∃ w1, w.alloc (.cells (ints .i64 (nn Z)).toArray 3) = w1 := ⟨_, rfl⟩
  have G1 : Blk w1 w.heap.size 3 (ints .i64 (nn Z)) := by rw [← hw1]; exact Blk.new' w _ _ rfl
  have hb1 : Below w.heap.size w w1 := by rw [← hw1]; exact (Below.refl _ _).alloc (Nat.le_refl _) _
  have X1 := hX.below hb1 hX.lt
  have R1 := hR.below hb1 hR.lt
  have B1 : w.grownBy w1 (some R) := (grown_below hb1).but (some R)
  obtain ⟨⟨n, e1, p1⟩, ht⟩ : ∃ r, takeP (sl s) 0 9 = r := ⟨_, rfl⟩
  have hN := q_number X R v m s 0 9 w1 X1 R1 (Nat.zero_le _) hs (by omega) (by omega) n e1 p1 ht
  have hp1 : p1 ≤ 8 * s.size := by
    have := takeP_le (s := sl s) (p := 0) 9 (Nat.zero_le _)
    rw [ht, sl_len] at this
    exact this
  rw [ht] at h
  simp only at h
  have HN := Lib.hid hN
  have HW1 := Lib.hid hw1
  have HG1 := Lib.hid G1
  have HX1 := Lib.hid X1
  have HB1 := Lib.hid B1
  have HZ := Lib.hid hz15
  clear hX hR hN hw1 G1 hb1 X1 R1 B1 ht hz15
  by_cases he1 : e1 = 0
  case neg =>
    rw [if_pos he1] at h
    cases h
    have HE := Lib.hid he1
    clear he1
    go_enter Try.func46, Try.ntmps46
    go_wp2_with fail
    rw [HW1.out]
    refine HN.out.mono ?_
    rintro e w2 ⟨hst, hT2⟩
    obtain rfl := hst.2 HE.out
    exact ⟨rfl, fun _ => rfl, HB1.out.trans hT2.1, fun h => absurd h HE.out⟩
  subst he1
  rw [if_neg (fun h => h rfl)] at h
  by_cases hn : 289 < n
  · rw [if_pos hn] at h
    cases h
    have g1 : (289 : Int) < (n : Int) := by omega
    go_enter Try.func46, Try.ntmps46
    go_wp2_with fail
    rw [HW1.out]
    refine HN.out.mono ?_
    rintro e w2 ⟨hst, hT2⟩
    obtain rfl := hst.1 rfl
    have HB2 := Lib.hid (HB1.out.trans hT2.1)
    clear hst hT2 HN HG1 HX1 HB1 HZ HW1 hn
    go_wp2
    exact ⟨rfl, fun _ => rfl, HB2.out, fun h => by cases h⟩
  rw [if_neg hn] at h
  obtain ⟨RT, hRT⟩ : ∃ r, readT (sl s) n (-1) p1 Z = r := ⟨_, rfl⟩
  rw [hRT] at h
  have HRT := Lib.hid hRT
  have HH := Lib.hid h
  have g1 : ¬ (289 : Int) < (n : Int) := by omega
  have hn289 : n ≤ 289 := by omega
  clear h hRT hn
  go_enter Try.func46, Try.ntmps46
  go_wp2_with fail
  rw [HW1.out]
  refine HN.out.mono ?_
  rintro e w2 ⟨hst, hT2⟩
  obtain rfl := hst.1 rfl
  have HX2 := Lib.hid (hT2.other HX1.out hXR)
  have HR2 := Lib.hid hT2.2
  have HG2 := Lib.hid (hT2.other HG1.out (show w.heap.size ≠ R by omega))
  have HB2 := Lib.hid (HB1.out.trans hT2.1)
  clear hst hT2 HN HX1 HG1 HB1 HW1
  go_wp2_with fail
  go_loopw [5, 17] (fun nx i wr => ∃ (j k q : Nat) (out : List Nat), j ≤ n ∧ i = .int .i64 (j : Int) ∧ nx = .int .i64 (k : Int) ∧ k ≤ 289 ∧ out.length = 289 ∧ (∀ i, out.getD i 0 ≤ 15) ∧ q ≤ 8 * s.size ∧ readT (sl s) (n - j) ((k : Int) - 1) q out = RT ∧ Blk wr X 61 [.pointer (some ⟨R, 0, none⟩), v, m] ∧ Blk wr R 91 (rdr s q) ∧ Blk wr w.heap.size 3 (ints .i64 (nn out)) ∧ w.grownBy wr (some R)) (fun _ i _ => n - (intOf i).toNat)
  case atStart => exact ⟨0, 0, p1, Z, by omega, rfl, rfl, by omega, hzl, HZ.out, hp1, HRT.out, HX2.out, HR2.out, HG2.out, HB2.out⟩
  case round =>
    obtain ⟨j, k, q, out, hj, rfl, rfl, hk, hol, ho15, hq, gRT, gX, gR, gG, gb⟩ := hrel
    clear HX2 HR2 HG2 HB2 HRT HZ hzl hp1 g1
    by_cases hlt : j < n
    · have d0 : (j : Int) < (n : Int) := by omega
      obtain ⟨d, hd⟩ : ∃ d, n - j = d + 1 := ⟨n - j - 1, by omega⟩
      rw [hd, readT] at gRT
      obtain ⟨⟨a, ea, pa⟩, hta⟩ : ∃ r, takeP (sl s) q 9 = r := ⟨_, rfl⟩
      have hN1 := q_number X R v m s q 9 wr gX gR hq hs (by omega) (by omega) a ea pa hta
      have hpa : pa ≤ 8 * s.size := by
        have := takeP_le (s := sl s) (p := q) 9 (by rw [sl_len]; exact hq)
        rw [hta, sl_len] at this
        exact this
      have ha512 : ea = 0 → a < 512 := fun h => (takeP_ok (s := sl s) (p := q) (x := 9) (by omega) (by rw [sl_len]; exact hq) (by rw [hta, h])).1
      rw [hta] at gRT
      simp only at gRT
      have HN1 := Lib.hid hN1
      have GX := Lib.hid gX
      have GG := Lib.hid gG
      have GB := Lib.hid gb
      have GO := Lib.hid ho15
      clear hN1 gX gR gG gb hta ho15
      by_cases hea : ea = 0
      case neg =>
        rw [if_pos hea] at gRT
        subst gRT
        have h := HH.out
        simp only at h
        rw [if_pos hea] at h
        cases h
        have HE := Lib.hid hea
        clear hea HH
        go_wp2_with fail
        refine HN1.out.mono ?_
        rintro e w3 ⟨hst, hT3⟩
        obtain rfl := hst.2 HE.out
        exact ⟨rfl, fun _ => rfl, GB.out.trans hT3.1, fun h => absurd h HE.out⟩
      subst hea
      rw [if_neg (fun h => h rfl)] at gRT
      have ha := ha512 rfl
      clear ha512
      obtain ⟨⟨b, eb, pb⟩, htb⟩ : ∃ r, takeP (sl s) pa 4 = r := ⟨_, rfl⟩
      have hN2 := fun w3 (h3 : Blk w3 X 61 [.pointer (some ⟨R, 0, none⟩), v, m]) h4 => q_number X R v m s pa 4 w3 h3 h4 hpa hs (by omega) (by omega) b eb pb htb
      have hpb : pb ≤ 8 * s.size := by
        have := takeP_le (s := sl s) (p := pa) 4 (by rw [sl_len]; exact hpa)
        rw [htb, sl_len] at this
        exact this
      have hb16 : eb = 0 → b < 16 := fun h => (takeP_ok (s := sl s) (p := pa) (x := 4) (by omega) (by rw [sl_len]; exact hpa) (by rw [htb, h])).1
      rw [htb] at gRT
      simp only at gRT
      have HN2 := Lib.hid hN2
      clear hN2 htb
      by_cases heb : eb = 0
      case neg =>
        rw [if_pos heb] at gRT
        subst gRT
        have h := HH.out
        simp only at h
        rw [if_pos heb] at h
        cases h
        have HE := Lib.hid heb
        clear heb HH
        go_wp2_with fail
        refine HN1.out.mono ?_
        rintro e w3 ⟨hst, hT3⟩
        obtain rfl := hst.1 rfl
        have hN2 := HN2.out w3 (hT3.other GX.out hXR) hT3.2
        have HN2 := Lib.hid hN2
        have GB3 := Lib.hid (GB.out.trans hT3.1)
        clear hN2 hT3 hst HN1
        go_wp2_with fail
        refine HN2.out.mono ?_
        rintro e w4 ⟨hst, hT4⟩
        obtain rfl := hst.2 HE.out
        exact ⟨rfl, fun _ => rfl, GB3.out.trans hT4.1, fun h => absurd h HE.out⟩
      subst heb
      rw [if_neg (fun h => h rfl)] at gRT
      have hb := hb16 rfl
      clear hb16
      have i1 : (a : Int) < 512 := by omega
      have i2 : (k : Int) ≤ 289 := by omega
      have i3 : (b : Int) < 16 := by omega
      by_cases hbad : 289 ≤ a ∨ (a : Int) ≤ (k : Int) - 1 ∨ b = 0
      · rw [if_pos hbad] at gRT
        subst gRT
        have h := HH.out
        simp only at h
        rw [if_pos (by decide)] at h
        cases h
        clear HH
        by_cases h1 : a < k
        · have d1 : decide ((a : Int) < (k : Int)) = true := by simp; omega
          have d1' : (a : Int) < (k : Int) := by omega
          have d1n : decide (a < k) = true := decide_eq_true h1
          clear hbad h1
          go_wp2_with fail
          refine HN1.out.mono ?_
          rintro e w3 ⟨hst, hT3⟩
          obtain rfl := hst.1 rfl
          have hN2 := HN2.out w3 (hT3.other GX.out hXR) hT3.2
          have HN2 := Lib.hid hN2
          have GB3 := Lib.hid (GB.out.trans hT3.1)
          clear hN2 hT3 hst HN1
          go_wp2_with fail
          refine HN2.out.mono ?_
          rintro e w4 ⟨hst, hT4⟩
          obtain rfl := hst.1 rfl
          have GB4 := Lib.hid (GB3.out.trans hT4.1)
          clear hst hT4 HN2 GB3
          go_wp2
          exact ⟨rfl, fun _ => rfl, GB4.out, fun h => by cases h⟩
        · have d1 : decide ((a : Int) < (k : Int)) = false := by simp; omega
          have d1' : ¬ (a : Int) < (k : Int) := by omega
          have d1n : decide (a < k) = false := decide_eq_false h1
          by_cases h2 : 289 ≤ a
          · have d2 : decide ((289 : Int) ≤ (a : Int)) = true := by simp; omega
            have d2' : (289 : Int) ≤ (a : Int) := by omega
            have d2n : decide (289 ≤ a) = true := decide_eq_true h2
            clear hbad h1 h2
            go_wp2_with fail
            refine HN1.out.mono ?_
            rintro e w3 ⟨hst, hT3⟩
            obtain rfl := hst.1 rfl
            have hN2 := HN2.out w3 (hT3.other GX.out hXR) hT3.2
            have HN2 := Lib.hid hN2
            have GB3 := Lib.hid (GB.out.trans hT3.1)
            clear hN2 hT3 hst HN1
            go_wp2_with fail
            refine HN2.out.mono ?_
            rintro e w4 ⟨hst, hT4⟩
            obtain rfl := hst.1 rfl
            have GB4 := Lib.hid (GB3.out.trans hT4.1)
            clear hst hT4 HN2 GB3
            go_wp2
            exact ⟨rfl, fun _ => rfl, GB4.out, fun h => by cases h⟩
          · have d2 : decide ((289 : Int) ≤ (a : Int)) = false := by simp; omega
            have d2' : ¬ (289 : Int) ≤ (a : Int) := by omega
            have d2n : decide (289 ≤ a) = false := decide_eq_false h2
            obtain rfl : b = 0 := by omega
            clear hbad h1 h2
            go_wp2_with fail
            refine HN1.out.mono ?_
            rintro e w3 ⟨hst, hT3⟩
            obtain rfl := hst.1 rfl
            have hN2 := HN2.out w3 (hT3.other GX.out hXR) hT3.2
            have HN2 := Lib.hid hN2
            have GB3 := Lib.hid (GB.out.trans hT3.1)
            clear hN2 hT3 hst HN1
            go_wp2_with fail
            refine HN2.out.mono ?_
            rintro e w4 ⟨hst, hT4⟩
            obtain rfl := hst.1 rfl
            have GB4 := Lib.hid (GB3.out.trans hT4.1)
            clear hst hT4 HN2 GB3
            go_wp2
            exact ⟨rfl, fun _ => rfl, GB4.out, fun h => by cases h⟩
      · rw [if_neg hbad] at gRT
        have d1 : decide ((a : Int) < (k : Int)) = false := by simp; omega
        have d1' : ¬ (a : Int) < (k : Int) := by omega
        have d1n : decide (a < k) = false := decide_eq_false (by omega)
        have d2 : decide ((289 : Int) ≤ (a : Int)) = false := by simp; omega
        have d2' : ¬ (289 : Int) ≤ (a : Int) := by omega
        have d2n : decide (289 ≤ a) = false := decide_eq_false (by omega)
        have d3 : ((b : Int) == 0) = false := by rw [beq_eq_false_iff_ne]; omega
        have d4 : (a : Int) < 289 := by omega
        have ha289 : a < 289 := by omega
        have GRT := Lib.hid gRT
        clear gRT hbad
        go_wp2_with fail
        refine HN1.out.mono ?_
        rintro e w3 ⟨hst, hT3⟩
        obtain rfl := hst.1 rfl
        have X3 := hT3.other GX.out hXR
        have hN2 := HN2.out w3 X3 hT3.2
        have HN2 := Lib.hid hN2
        have HX3 := Lib.hid X3
        have GB3 := Lib.hid (GB.out.trans hT3.1)
        have GG3 := Lib.hid (hT3.other GG.out (show w.heap.size ≠ R by omega))
        clear hN2 hT3 hst HN1 X3 GX GG GB
        go_wp2_with fail
        refine HN2.out.mono ?_
        rintro e w4 ⟨hst, hT4⟩
        obtain rfl := hst.1 rfl
        have g4 := hT4.other GG3.out (show w.heap.size ≠ R by omega)
        have c4 := g4.nat (j := a) (by omega)
        have f4 := g4.free a
        have GX4 := Lib.hid ((hT4.other HX3.out hXR).other (a := ⟨w.heap.size, a, none⟩) (HX3.out.neT GG3.out (by decide)).symm (.int .i64 (b : Int)))
        have GR4 := Lib.hid (hT4.2.other (a := ⟨w.heap.size, a, none⟩) (show w.heap.size ≠ R by omega) (.int .i64 (b : Int)))
        have GG4 := Lib.hid (g4.setNat a b)
        have gb4 := GB3.out.trans hT4.1
        have GB4 : Hid (w.grownBy (w4.setCell ⟨w.heap.size, a, none⟩ (.int .i64 (b : Int))) (some R)) := Lib.hid (by
          obtain ⟨q1, q2, q3, q4, q5⟩ := gb4
          refine ⟨q1, q2, q3, ?_, fun i hi hne => ?_⟩
          · have := (grown_setCell w4 ⟨w.heap.size, a, none⟩ (.int .i64 (b : Int))).size
            omega
          · rw [(grown_setCell w4 ⟨w.heap.size, a, none⟩ (.int .i64 (b : Int))).block i (by omega) (fun e => absurd hi (by rw [Option.some.inj e]; exact Nat.lt_irrefl _))]
            exact q5 i hi hne)
        obtain ⟨x0, hx0⟩ : ∃ x, out.getD a 0 = x := ⟨_, rfl⟩
        rw [hx0] at c4
        have HO2 : Hid (∀ i, (out.set a b).getD i 0 ≤ 15) := Lib.hid (fun i => by
          rw [getD_set _ _ _ _ (by omega)]
          split
          · omega
          · exact GO.out i)
        clear hst hT4 HN2 GB3 HX3 GG3 g4 gb4 hx0 GO
        go_wp2
        go_roundw
        case rel => exact ⟨j + 1, a + 1, pb, out.set a b, by omega, by go_num, by go_num, by omega, by rw [List.length_set]; exact hol, HO2.out, hpb, by rw [show n - (j + 1) = d by omega, show ((a + 1 : Nat) : Int) - 1 = (a : Int) by omega]; exact GRT.out, GX4.out, GR4.out, GG4.out, GB4.out⟩
        case measure => (simp [intOf]; try omega)
    · obtain rfl : j = n := by omega
      rw [Nat.sub_self, readT] at gRT
      subst gRT
      have h := HH.out
      simp only at h
      rw [if_neg (fun h => h rfl)] at h
      clear HH
      by_cases hRN : RightN out
      · have hC := p_Codes_yes out (some ⟨w.heap.size, 0, none⟩) 289 wr hRN (gG.slN _)
        rw [hol] at hC
        have HC := Lib.hid hC
        have c0 := fun w' (hb : Below wr.heap.size wr w') => (gG.below hb gG.lt).nat (j := 288) (by omega)
        have hrw : rightW out := (rightW_N hol ho15).2 hRN
        have C0 := Lib.hid c0
        have GR := Lib.hid gR
        have GG := Lib.hid gG
        have GB := Lib.hid gb
        have HRN := Lib.hid hRN
        clear hC c0 gX gR gG gb hRN
        by_cases h0 : out.getD 288 0 = 0
        · rw [if_pos (fun hc => hc.2 h0)] at h
          cases h
          rw [h0] at C0
          clear h0 hrw
          go_wp2_with fail
          (with_reducible refine HC.out.mono ?_)
          rintro e w3 ⟨g, rfl, hg1, hg2, hb3⟩
          have c := C0.out w3 hb3
          have GB3 := Lib.hid (GB.out.trans ((grown_below hb3).but (some R)))
          clear hg1 hg2 hb3 C0 HC
          go_wp2
          exact ⟨rfl, fun _ => rfl, GB3.out, fun h => by cases h⟩
        · rw [if_neg (fun hc => hc ⟨hrw, h0⟩)] at h
          obtain ⟨x, hx⟩ : ∃ x, out.getD 288 0 = x := ⟨_, rfl⟩
          cases h
          rw [hx] at C0 h0
          have e0 : ((x : Int) == 0) = false := by rw [beq_eq_false_iff_ne]; omega
          clear h0 hrw hx
          go_wp2_with fail
          (with_reducible refine HC.out.mono ?_)
          rintro e w3 ⟨g, rfl, hg1, hg2, hb3⟩
          have c := C0.out w3 hb3
          have GB3 := Lib.hid (GB.out.trans ((grown_below hb3).but (some R)))
          have GG3 := Lib.hid (GG.out.below hb3 GG.out.lt)
          have GR3 := Lib.hid (GR.out.below hb3 GR.out.lt)
          clear hg1 hg2 hb3 C0 HC
          go_wp2
          go_ret
          exact ⟨fun h => absurd rfl h, GB3.out, fun _ => ⟨_, rfl, Nat.le_refl _, GG3.out, GR3.out, HRN.out, hol, hq⟩⟩
      · rw [if_pos (fun hc => hRN ((rightW_N hol ho15).1 hc.1))] at h
        cases h
        have hC := p_Codes_no (nn out) (some ⟨w.heap.size, 0, none⟩) 289 wr (by rw [nn_length]; omega) (by rw [nn_length, rowsI_nn]; exact gG.slN _) (fun h => hRN (rightI_N h))
        rw [nn_length, hol] at hC
        have HC := Lib.hid hC
        have GB := Lib.hid gb
        clear hC gX gR gG gb hRN
        go_wp2_with fail
        (with_reducible refine HC.out.mono ?_)
        rintro e w3 ⟨rfl, hb3⟩
        have GB3 := Lib.hid (GB.out.trans ((grown_below hb3).but (some R)))
        clear hb3 HC
        go_wp2
        exact ⟨rfl, fun _ => rfl, GB3.out, fun h => by cases h⟩
end Go.Proofs.Ytpjihjbgihionaa
namespace Go.Proofs.Ytpjihjbgihionaa
open Go.RowKit
set_option linter.unusedVariables false

section
variable {P : Program}
/-- THE LAW: operation k turns what the others have come to; all others make no more than new memory. -/
theorem region_turn {id : Nat} {Q' : Exit → Act → World → Prop} {a : Act} {w : World} {l : List Oper} (k : Nat) (hm : P.follows .mixedOrders = true) (hl : lexical l.toArray = true) (hk : k < l.length)
    (F : (Nat → Value) → Array Value) (D : List Deferred) (u0 : Nat → Value) (ha : a = ⟨F u0, D⟩) (C : World → Prop) (hC : C w.drew) (Φ : Bool → Nat → Value → World → Prop)
    (hΦ : ∀ b i v W W', Φ b i v W → C W → C W' → Below W.heap.size W W' → Φ b i v W')
    (hstep : ∀ (b : Bool) (u : Nat → Value) (W : World) (i : Nat) (o : Oper), i ≠ k → l[i]? = some o → C W → (∀ e ∈ o.after, Region.binds .any e = true → Φ b e.on (u e.on) W) →
      wpList P l.toArray (Exit.then (Came F D C (Φ b i) u i W) (fun _ _ _ => False)) [o] ⟨F u, D⟩ W)
    (hone : ∀ (u : Nat → Value) (W : World) (o : Oper), l[k]? = some o → C W → (∀ e ∈ o.after, Region.binds .any e = true → Φ false e.on (u e.on) W) →
      wpList P l.toArray (Exit.then (fun a' W' => ∃ v, a' = ⟨F (upd u k v), D⟩ ∧ Φ true k v W' ∧ C W' ∧ ∀ i x, i ≠ k → Φ false i x W → Φ true i x W') (fun _ _ _ => False)) [o] ⟨F u, D⟩ W)
    (hend : ∀ (u : Nat → Value) (W : World), C W → (∀ i, i < l.length → Φ true i (u i) W) → Q' .normal ⟨F u, D⟩ W) : (Code.region id l.toArray true).wp P Q' a w := by
  refine region_inv hm hl (fun L a W => ∃ u, a = ⟨F u, D⟩ ∧ C W ∧ ∀ i, i < l.length → L i = true → Φ (L k) i (u i) W) ⟨u0, ha, hC, fun i _ h => by cases h⟩ ?_ ?_ ?_
  · rintro L L' a W hE ⟨u, h1, h2, h3⟩
    exact ⟨u, h1, h2, fun i hi h => by rw [← hE k hk]; exact h3 i hi (by rw [hE i hi]; exact h)⟩
  · rintro L a W i o ⟨u, rfl, h2, h3⟩ ho hL hdep
    have hlex := (lexical_spec hl (show l.toArray[i]? = some o by simpa using ho)).2
    have hil : i < l.length := (List.getElem?_eq_some_iff.1 ho).1
    have hd : ∀ e ∈ o.after, Region.binds .any e = true → Φ (L k) e.on (u e.on) W := fun e he hb => h3 e.on (by have := hlex e he hb; omega) (hdep e he hb)
    have key : ∀ (K K' : Act → World → Prop), wpList P l.toArray (Exit.then K (fun _ _ _ => False)) [o] ⟨F u, D⟩ W → (∀ a' W', K a' W' → K' a' W') → wpList P l.toArray (Exit.then K' (fun _ _ _ => False)) [o] ⟨F u, D⟩ W := by
      intro K K' hs fin
      unfold wpList at hs ⊢
      split at hs
      · rename_i hw
        rw [if_pos hw]
        rcases hs with hs | ⟨hs1, a', w', hs⟩
        · exact .inl (oper_monoQ (fun _ _ _ h => h) (fun _ _ h => h) (Oper.wp_mono (fun a' w' h => by unfold wpList at h ⊢; exact fin _ _ h) hs))
        · exact hs.elim
      · rename_i hw
        rw [if_neg hw]
        unfold wpList at hs ⊢
        exact fin _ _ hs
    by_cases hik : i = k
    · subst hik
      rw [hL] at hd
      refine key _ _ (hone u W o ho h2 hd) fun a' W' ⟨v, q1, q2, q3, q4⟩ => ⟨upd u i v, q1, q3, fun j hj h => ?_⟩
      show Φ (i == i || L i) j (upd u i v j) W'
      rw [show (i == i || L i) = true by simp]
      by_cases e : j = i
      · subst e; rw [upd_same]; exact q2
      · rw [upd_other _ _ _ _ e]
        have := h3 j hj (by simpa [e] using h)
        rw [hL] at this
        exact q4 j _ e this
    · refine key _ _ (hstep (L k) u W i o hik ho h2 hd) fun a' W' ⟨v, q1, q2, q3, q4⟩ => ⟨upd u i v, q1, q3, fun j hj h => ?_⟩
      show Φ (k == i || L k) j (upd u i v j) W'
      rw [show (k == i || L k) = L k by rw [show (k == i) = false from beq_eq_false_iff_ne.2 (fun e => hik e.symm), Bool.false_or]]
      by_cases e : j = i
      · subst e; rw [upd_same]; exact q2
      · rw [upd_other _ _ _ _ e]
        exact hΦ _ j _ _ _ (h3 j hj (by simpa [e] using h)) h2 q3 q4
  · rintro a W ⟨u, rfl, h2, h3⟩
    exact hend u W h2 (fun i hi => h3 i hi rfl)
end
end Go.Proofs.Ytpjihjbgihionaa
namespace Go.Proofs.Ytpjihjbgihionaa
open Go.RowKit
set_option linter.unusedVariables false

/-- what the operations of the second region come to -/
def qjS (w1 : World) (X : Nat) (tv : Value) (qi : Int) (sv : Value) (t : Nat × Int × Int) (T : List (Nat × Int × Int)) (most m2 : Int) (out : List Nat) (er : Nat) (b : Bool) (i : Nat) (v : Value) (W : World) : Prop :=
  match i with
  | 0 | 1 | 10 | 11 => v = .pointer (some ⟨X, 0, none⟩)
  | 2 => v = .pointer (some ⟨X, 1, none⟩)
  | 3 => v = tv
  | 4 | 14 => v = .int .i64 qi
  | 5 => v = sv
  | 6 => b = false → OwnR W w1.heap.size 34 3 v (rowsTk T)
  | 7 => v = .agg (rowT t).toArray
  | 8 => b = false → ∃ y, w1.heap.size ≤ y ∧ v = .slice (some ⟨y, 0, none⟩) 1 1 ∧ Blk W y 34 (rowT t)
  | 9 => b = true ∧ OwnR W w1.heap.size 34 3 v (rowsTk (T ++ [t]))
  | 12 => v = .pointer (some ⟨X, 2, none⟩)
  | 13 => v = .int .i64 most
  | 15 => v = .int .i64 m2
  | 16 | 17 => v = .tuple #[.string (tx out), .int .i64 (er : Int)]
  | 18 | 20 => v = .string (tx out)
  | 19 | 21 => v = .int .i64 (er : Int)
  | _ => True
theorem qjS_mono {w1 : World} {X : Nat} {tv : Value} {qi : Int} {sv : Value} {t : Nat × Int × Int} {T : List (Nat × Int × Int)} {most m2 : Int} {out : List Nat} {er : Nat} (b : Bool) (i : Nat) (v : Value) (W W' : World) (h : qjS w1 X tv qi sv t T most m2 out er b i v W) (hb : Below W.heap.size W W') : qjS w1 X tv qi sv t T most m2 out er b i v W' := by
  match i with
  | 0 | 1 | 2 | 3 | 4 | 5 | 7 | 10 | 11 | 12 | 13 | 14 | 15 | 16 | 17 | 18 | 19 | 20 | 21 => exact h
  | 6 => exact fun e => (h e).keep hb
  | 8 => exact fun e => let ⟨y, h1, h2, h3⟩ := h e; ⟨y, h1, h2, h3.below hb h3.lt⟩
  | 9 => exact ⟨h.1, h.2.keep hb⟩
  | _ + 22 => trivial
/-- what the append does to all of it -/
theorem qjS_turn {w1 : World} {X : Nat} {tv : Value} {qi : Int} {sv : Value} {t : Nat × Int × Int} {T : List (Nat × Int × Int)} {most m2 : Int} {out : List Nat} {er : Nat} (i : Nat) (v : Value) (W W' : World) (h : qjS w1 X tv qi sv t T most m2 out er false i v W) (hi : i ≠ 9) : qjS w1 X tv qi sv t T most m2 out er true i v W' := by
  match i with
  | 0 | 1 | 2 | 3 | 4 | 5 | 7 | 10 | 11 | 12 | 13 | 14 | 15 | 16 | 17 | 18 | 19 | 20 | 21 => exact h
  | 6 => exact fun e => by cases e
  | 8 => exact fun e => by cases e
  | 9 => exact absurd rfl hi
  | _ + 22 => trivial
/-- bytes cut -/
theorem OwnR.cut {w : World} {B : Nat} {e : TypeId} {g n cap : Nat} {b : List Nat} (h : OwnR w B e 1 (.slice (some ⟨g, 0, none⟩) n cap) (rowsBy b)) {q : Nat} (hq : q ≤ b.length) : OwnR w B e 1 (.slice (some ⟨g, 0, none⟩) q cap) (rowsBy (b.take q)) := by
  obtain ⟨h0, h1, h2⟩ := h
  refine ⟨fun r hr => by simp only [rowsBy, List.mem_map] at hr; obtain ⟨x, _, rfl⟩ := hr; rfl, ?_⟩
  have hl : (rowsBy (b.take q)).length = q := by rw [rowsBy_len, List.length_take]; omega
  have hfl : (rowsBy (b.take q)).flatten.length = q := by rw [rowsBy_flat, ints_length, nn_length, List.length_take]; omega
  rw [hl]
  refine ⟨by rw [hfl, Nat.mul_one], .inr ?_⟩
  rcases h2 with ⟨hv, _⟩ | ⟨g', cap', cur, hv, hgg, hh, hn, hm, hcs, htk⟩
  · cases hv
  · cases hv
    rw [rowsBy_len] at hn htk
    refine ⟨g, cap, cur, rfl, hgg, hh, by omega, hm, hcs, ?_⟩
    rw [Nat.mul_one] at htk ⊢
    rw [rowsBy_flat] at htk ⊢
    have e1 : cur.toList.take q = (cur.toList.take b.length).take q := by rw [List.take_take, show min q b.length = q by omega]
    rw [e1, htk]
    unfold ints nn
    rw [List.map_take, List.map_take]
theorem OwnR.mid {w : World} {B : Nat} {e : TypeId} {g n cap : Nat} {b : List Nat} (h : OwnR w B e 1 (.slice (some ⟨g, 0, none⟩) n cap) (rowsBy b)) {q : Nat} (hq : q ≤ b.length) (c' : Nat) : Sl w 1 (.slice (some ⟨g, q, none⟩) (b.length - q) c') (rowsBy (b.drop q)) := by
  obtain ⟨_, p', cap', e0, h3⟩ := h.sl
  cases e0
  refine ⟨fun r hr => by simp only [rowsBy, List.mem_map] at hr; obtain ⟨x, _, rfl⟩ := hr; rfl, _, c', by rw [rowsBy_len, List.length_drop], fun i r hr => ?_⟩
  have hr' : (rowsBy b)[q + i]? = some r := by
    unfold rowsBy at hr ⊢
    rw [List.getElem?_map, List.getElem?_drop] at hr
    rw [List.getElem?_map]
    exact hr
  obtain ⟨a, e1, q2, q3⟩ := h3 (q + i) r hr'
  cases e1
  refine ⟨_, rfl, q2, fun j x hx => ?_⟩
  have := q3 j x hx
  rw [Addr.add_mid] at this ⊢
  rw [show q + (i * 1 + j) = 0 + ((q + i) * 1 + j) by omega]
  exact this
theorem strCells_tx {b : List Nat} (h : Bys b) : Lib.strCells (tx b) = ints .u8 (nn b) := by
  have e : Lib.strCells (tx b) = ints .u8 (is (tx b)) := by simp [Lib.strCells, ints, is]
  rw [e]
  unfold tx
  rw [is_bs _ (oct_nn h)]
/-- behind the first region -/
def jAt (X T q c : Nat) (n k : Int) (w1 : World) (e : Exit) (a' : Act) (w' : World) : Prop := e = .normal ∧ ∃ (m : Nat) (u : Nat → Value), a' = ⟨((.pointer (some ⟨X, 0, none⟩)) :: (.agg #[.int .u8 (c : Int), .int .i64 n, .int .i64 k]) :: undef :: (.pointer (some ⟨T, 0, none⟩)) :: (.int .i64 (q : Int)) :: undef :: undef :: (u 0) :: (u 1) :: (u 2) :: (u 3) :: (u 4) :: (u 5) :: (u 6) :: (u 7) :: (u 8) :: undef :: undef :: undef :: undef :: undef :: undef :: undef :: undef :: undef :: undef :: undef :: undef :: undef :: undef :: undef :: undef :: undef :: undef :: undef :: undef :: undef :: undef :: undef :: undef :: undef :: undef :: undef :: undef :: undef :: undef :: undef :: undef :: undef :: []).toArray, []⟩ ∧ w' = w1.drewN m
theorem max_zero (w : World) : (Builtin.max_ #[3, 3] 3 #[.int .i64 0, .int .i64 0]).run Try.prog w = .ok (.int .i64 0) w := by kernel_rfl
section
variable {ops : Array Oper} {rest : List Oper} {o : Oper} {a : Act} {w : World} {Q : Exit → Act → World → Prop}
theorem wpList_max00 (hgd : o.guard = none) (x : Operand) (ho : o.op = .call { callee := .builtin .max, args := #[x, .const (.int .i64 0)], argTypes := #[3, 3] }) (hty : o.type = 3) (hx : a.eval x = .int .i64 0)
    (h : wpList Try.prog ops Q rest (a.put o.dst (.int .i64 0)) w) : wpList Try.prog ops Q (o :: rest) a w := by
  refine wpList_plain hgd fun K hK => ?_
  have h2 : a.eval (.const (.int .i64 0)) = .int .i64 0 := rfl
  unfold Oper.wp execOp
  simp only [ho, hty, resolve, invoke, builtin, Sem.run_bind, Sem.run_pure, Result.andThen_ok, List.map_toArray, List.map_cons, List.map_nil, hx, h2, max_zero]
  exact hK _ _ h
end
/-- what join hands back -/
def JoinRet (w : World) (B X R : Nat) (tv : Value) (most : Int) (b' : List Nat) (er : Nat) (e : Ending) (w' : World) : Prop :=
  (er ≠ 0 → e = Died er ∧ Below w.heap.size w w') ∧ Below B w w' ∧ (er = 0 → e = .returned (.tuple #[]) ∧ (∀ k, k < w.heap.size → k ≠ X → tv.ownBlock ≠ some k → w'.heap[k]? = w.heap[k]?) ∧
    ∃ v', Blk w' X 61 [.pointer (some ⟨R, 0, none⟩), v', .int .i64 most] ∧ OwnR w' B 5 1 v' (rowsBy b'))
set_option maxRecDepth 100000 in
set_option maxHeartbeats 4000000 in
theorem q_join_some (B X R : Nat) (g cap : Nat) (most : Int) (b : List Nat) (c : Nat) (n k : Int) (w : World) (hX : Blk w X 61 [.pointer (some ⟨R, 0, none⟩), .slice (some ⟨g, 0, none⟩) b.length cap, .int .i64 most]) (hO : OwnR w B 5 1 (.slice (some ⟨g, 0, none⟩) b.length cap) (rowsBy b)) (hBX : B ≤ X) (hbl : b.length ≤ 10000) (hk0 : 0 ≤ k) (hk : k ≤ 512) (hm1 : -1000000 ≤ most) (hm2 : most ≤ 1000000)
    (q : Nat) (hq : q = b.length - k.toNat) (out : List Nat) (hby : Bys out) (hol : out.length ≤ 10000) (er : Nat) (hJ : joinW (most - (q : Int)) ((b.drop q).map byT ++ [(c, n, k)]) [] = (out, er)) :
    Calls Try.prog 48 #[.pointer (some ⟨X, 0, none⟩), .agg #[.int .u8 (c : Int), .int .i64 n, .int .i64 k]] w (JoinRet w B X R (.slice (some ⟨g, 0, none⟩) b.length cap) most (b.take q ++ out) er) := by
  obtain ⟨i0, hi0, hz0, hz1, hz2⟩ := info_parts2 info_tk
  obtain ⟨i8, hi8, hy0, hy1, hy2⟩ := info_parts2 info_u8
  have hXl := hX.lt
  have hql : q ≤ b.length := by omega
  obtain ⟨TT, hTT⟩ : ∃ TT, (b.drop q).map byT = TT := ⟨_, rfl⟩
  obtain ⟨b2, hb2⟩ : ∃ b2, b.take q ++ out = b2 := ⟨_, rfl⟩
  rw [hTT] at hJ
  rw [hb2]
  have HTL := Lib.hid hTT
  have HB2' := Lib.hid hb2
  clear hTT hb2
  obtain ⟨N, hN⟩ : ∃ N, b.length = N := ⟨_, rfl⟩
  have hcap : N ≤ cap ∧ cap ≤ maxLen := by
    rcases hO.2.2 with ⟨hv, _⟩ | ⟨g', cap', cur, hv, hgg, hh, hn, hm, hcs, htk⟩
    · cases hv
    · simp only [Value.slice.injEq] at hv
      obtain ⟨_, _, rfl⟩ := hv
      rw [rowsBy_len] at hn
      exact ⟨by omega, hm⟩
  obtain ⟨T, hT⟩ : ∃ T, w.heap.size = T := ⟨_, rfl⟩
  obtain ⟨w1, hw1⟩ : ∃ w1, w.alloc (.cells #[.int .u8 (c : Int), .int .i64 n, .int .i64 k] 34) = w1 := ⟨_, rfl⟩
  have hb1 : Below w.heap.size w w1 := by rw [← hw1]; exact (Below.refl _ _).alloc (Nat.le_refl _) _
  have hz1' : w1.heap.size = T + 1 := by rw [← hw1, ← hT]; simp
  have T1 : Blk w1 T 34 (rowT (c, n, k)) := by rw [← hw1, ← hT]; exact Blk.new' w _ _ rfl
  have X1 := hX.below hb1 hX.lt
  have O1 := hO.keep hb1
  have hbO := hO.lt
  have hBw : B ≤ w.heap.size := by omega
  rw [hN] at hX X1 O1 hO hbl hql hq ⊢
  have HX1 := Lib.hid X1
  have HO1 := Lib.hid O1
  have HT1 := Lib.hid T1
  have HB1 := Lib.hid hb1
  have HW1 := Lib.hid hw1
  have HTT := Lib.hid hT
  have HN := Lib.hid hN
  have HJ := Lib.hid hJ
  have HBY := Lib.hid hby
  have HBO := Lib.hid hbO
  clear hX hO X1 O1 T1 hb1 hw1 hT hN hJ hby hbO
  go_enter Try.func48, Try.ntmps48
  go_wp2_with fail
  rw [HW1.out, HTT.out]
  refine wp_mono (Q := jAt X T q c n k w1) ?reg ?rest
  case reg =>
    have c1 := HX1.out.cell 1
    have c2 := HT1.out.cell 2
    simp only [rowT, List.getElem?_cons_zero, List.getElem?_cons_succ] at c1 c2
    obtain ⟨kk, rfl⟩ : ∃ kk : Nat, k = (kk : Int) := ⟨k.toNat, by omega⟩
    rw [Int.toNat_natCast] at hq
    refine region_drew_tail 8 mixed (by kernel_rfl) ?_
    simp only [List.take_succ_cons, List.take_zero, List.drop_succ_cons, List.drop_zero]
    repeat (first | go_big_quiet_step (fail) | quiet_step (fail))
    refine wpQuiet_nil ?_
    rintro _ ⟨nq, rfl⟩
    rcases Nat.lt_trichotomy kk N with h | h | h
    · have e1 : (0 : Int) < (N : Int) - (kk : Int) := by omega
      have e2 : (N : Int) - (kk : Int) = (q : Int) := by omega
      clear hq h
      go_wp2
      exact ⟨rfl, nq, fun i => match i with | 0 => _ | 1 => _ | 2 => _ | 3 => _ | 4 => _ | 5 => _ | 6 => _ | 7 => _ | 8 => _ | _ => undef, rfl, rfl⟩
    · subst h
      obtain rfl : q = 0 := by omega
      clear hq
      rw [Int.sub_self]
      go_wp2_with (refine wpList_max00 rfl _ rfl rfl rfl ?_)
      exact ⟨rfl, nq, fun i => match i with | 0 => _ | 1 => _ | 2 => _ | 3 => _ | 4 => _ | 5 => _ | 6 => _ | 7 => _ | 8 => _ | _ => undef, rfl, rfl⟩
    · have e1 : (N : Int) - (kk : Int) < (0 : Int) := by omega
      obtain rfl : q = 0 := by omega
      clear hq h
      go_wp2
      exact ⟨rfl, nq, fun i => match i with | 0 => _ | 1 => _ | 2 => _ | 3 => _ | 4 => _ | 5 => _ | 6 => _ | 7 => _ | 8 => _ | _ => undef, rfl, rfl⟩
  case rest =>
    rintro e a' w' ⟨rfl, m, u, rfl, rfl⟩
    clear hq
    have HX2 := Lib.hid (HX1.out.drewN m)
    have HO2 := Lib.hid (HO1.out.below (below_drewN (Below.refl w1.heap.size w1) m) (fun i e => (HO1.out.lt i e).2))
    have HT2 := Lib.hid (HT1.out.drewN m)
    have HB2 := Lib.hid (below_drewN HB1.out m)
    have hz2' : (w1.drewN m).heap.size = T + 1 := hz1'
    obtain ⟨w2, hw2⟩ : ∃ w2, w1.drewN m = w2 := ⟨_, rfl⟩
    rw [hw2] at HX2 HO2 HT2 HB2 hz2' ⊢
    clear HX1 HO1 HT1 HB1 HW1 hw2 hz1'
    obtain ⟨off, hoff⟩ : ∃ off, off = (if q = cap then 0 else q) := ⟨_, rfl⟩
    have hMid : Sl w2 1 (.slice (some ⟨g, off, none⟩) (N - q) (cap - q)) (rowsBy (b.drop q)) := by
      have h0 := HO2.out.mid (q := q) (by rw [HN.out]; exact hql) (cap - q)
      rw [HN.out] at h0
      by_cases hqc : q = cap
      · have hd0 : b.drop q = [] := List.drop_eq_nil_of_le (by rw [HN.out]; omega)
        rw [hd0] at h0 ⊢
        exact ⟨h0.1, _, _, by rw [show N - q = 0 by omega]; rfl, fun i r h => by simp [rowsBy] at h⟩
      · rw [if_neg hqc] at hoff
        rw [hoff]
        exact h0
    have hbt := q_bytesOf (b.drop q) (some ⟨g, off, none⟩) (cap - q)
    have hdl : (b.drop q).length = N - q := by rw [List.length_drop, HN.out]
    have hmapl : TT.length = N - q := by rw [← HTL.out, List.length_map, hdl]
    rw [hdl, HTL.out] at hbt
    have hJn := j_Join (TT ++ [(c, n, k)])
    have hml : (TT ++ [(c, n, k)]).length ≤ 20000 := by rw [List.length_append, hmapl, List.length_singleton]; omega
    obtain ⟨M, hM⟩ : ∃ M, (TT ++ [(c, n, k)]).length = M := ⟨_, rfl⟩
    rw [hM] at hJn hml
    have HMM := Lib.hid hM
    have HMID := Lib.hid hMid
    have HBT := Lib.hid hbt
    have HJN := Lib.hid hJn
    have HML := Lib.hid hml
    have HMAP := Lib.hid hmapl
    have HOFF := Lib.hid hoff
    clear hM hoff
    have i1 : (q : Int) ≤ (N : Int) := by omega
    have i2 : (N : Int) ≤ (cap : Int) := by omega
    have i3 : (cap : Int) ≤ 9223372036854775807 := by have := hcap.2; unfold maxLen at this; omega
    have i4 : (q : Int) ≤ 10000 := by omega
    clear hMid hbt hdl hJn hml hmapl
    go_wp2_with fail
    refine region_turn 9 mixed (by kernel_rfl) (by decide) (fun z => ((.pointer (some ⟨X, 0, none⟩)) :: (.agg #[.int .u8 (c : Int), .int .i64 n, .int .i64 k]) :: undef :: (.pointer (some ⟨T, 0, none⟩)) :: (.int .i64 (q : Int)) :: (z 20) :: (z 21) :: (u 0) :: (u 1) :: (u 2) :: (u 3) :: (u 4) :: (u 5) :: (u 6) :: (u 7) :: (u 8) :: (z 17) :: (z 0) :: (z 1) :: (z 2) :: (z 3) :: (z 4) :: (z 5) :: (z 6) :: (z 7) :: (z 8) :: (z 9) :: (z 10) :: (z 11) :: (z 12) :: (z 13) :: (z 14) :: (z 15) :: (z 16) :: (z 18) :: (z 19) :: undef :: undef :: undef :: undef :: undef :: undef :: undef :: undef :: undef :: undef :: undef :: undef :: undef :: []).toArray) [] (fun i => undef) rfl (NewBut w2) (show Below _ _ _ from (Below.refl _ _).drew) (qjS w2 X (.slice (some ⟨g, 0, none⟩) N cap) (q : Int) (.slice (some ⟨g, off, none⟩) (N - q) (cap - q)) (c, n, k) TT most (most - (q : Int)) out er) ?mono ?step ?one ?end_
    case mono => exact fun b i v W W' h _ _ hb => qjS_mono b i v W W' h hb
    case step =>
      intro bb z W i o hik ho hC hd
      have hr := Below.refl W.heap.size W
      have hX := HX2.out.below hC HX2.out.lt
      have hT := HT2.out.below hC HT2.out.lt
      have HXX := Lib.hid hX
      have HTT' := Lib.hid hT
      have HCC : Hid (Below w2.heap.size w2 W) := Lib.hid hC
      rcases i with _ | _ | _ | _ | _ | _ | _ | _ | _ | _ | _ | _ | _ | _ | _ | _ | _ | _ | _ | _ | _ | _ | i
      all_goals try (simp only [List.getElem?_cons_zero, List.getElem?_cons_succ, Option.some.injEq] at ho; subst ho)
      · clear hX hT
        go_wp2_with fail
        exact ⟨_, rfl, rfl, hC, hr⟩
      · clear hX hT
        have h0 : z 0 = .pointer (some ⟨X, 0, none⟩) := hd ⟨0, .data⟩ (by simp) rfl
        rw [h0]
        go_wp2_with fail
        exact ⟨_, by simp [upd, h0], rfl, hC, hr⟩
      · clear hX hT
        have h0 : z 1 = .pointer (some ⟨X, 0, none⟩) := hd ⟨1, .data⟩ (by simp) rfl
        rw [h0]
        go_wp2_with fail
        exact ⟨_, by simp [upd, h0], rfl, hC, hr⟩
      · have h0 : z 2 = .pointer (some ⟨X, 1, none⟩) := hd ⟨2, .data⟩ (by simp) rfl
        have c1 := hX.cell 1
        simp only [List.getElem?_cons_zero, List.getElem?_cons_succ] at c1
        clear hX hT
        rw [h0]
        go_wp2_with fail
        exact ⟨_, by simp [upd, h0], rfl, hC, hr⟩
      · clear hX hT
        go_wp2_with fail
        exact ⟨_, rfl, rfl, hC, hr⟩
      · have h0 : z 3 = .slice (some ⟨g, 0, none⟩) N cap := hd ⟨3, .data⟩ (by simp) rfl
        have h1 : z 4 = .int .i64 (q : Int) := hd ⟨4, .data⟩ (by simp) rfl
        clear hX hT
        rw [h0, h1]
        by_cases hqc : q = cap
        · have ho : off = 0 := by rw [HOFF.out, if_pos hqc]
          subst hqc ho
          go_wp2_with fail
          exact ⟨_, by simp [upd, h0, h1], rfl, hC, hr⟩
        · have ho : off = q := by rw [HOFF.out, if_neg hqc]
          have hqc2 : ¬ (q : Int) = (cap : Int) := by omega
          subst ho
          go_wp2_with fail
          exact ⟨_, by simp [upd, h0, h1], rfl, hC, hr⟩
      · have h0 : z 5 = .slice (some ⟨g, off, none⟩) (N - q) (cap - q) := hd ⟨5, .data⟩ (by simp) rfl
        clear hX hT
        rw [h0]
        go_wp2_with ((with_reducible refine (HBT.out W (by omega) (HMID.out.below HCC.out)).mono ?_); rintro e w5 ⟨v5, rfl, ho5, hb5⟩)
        exact ⟨v5, by simp [upd, h0], fun _ => ho5.mono hC.size, hC.trans (hb5.mono hC.size), hb5⟩
      · clear hX
        go_wp2_with (refine wpList_load_blk rfl 34 _ rfl T rfl hT Try.underlying34 rfl size_tk ?_)
        exact ⟨_, rfl, rfl, hC, hr⟩
      · have h0 : z 7 = .agg (rowT (c, n, k)).toArray := hd ⟨7, .data⟩ (by simp) rfl
        clear hX hT
        rw [h0, rowT_arr]
        go_wp2_with fail
        exact ⟨_, by first | (simp [upd, h0, rowT_arr]; done) | (simp [upd, h0, rowT_arr]; rfl), fun _ => ⟨W.heap.size, hC.size, rfl, Blk.new' W _ _ rfl⟩, hC.alloc hC.size _, hr.alloc (Nat.le_refl _) _⟩
      · exact absurd rfl hik
      · clear hX hT
        go_wp2_with fail
        exact ⟨_, rfl, rfl, hC, hr⟩
      · have h0 : z 10 = .pointer (some ⟨X, 0, none⟩) := hd ⟨10, .data⟩ (by simp) rfl
        clear hX hT
        rw [h0]
        go_wp2_with fail
        exact ⟨_, by simp [upd, h0], rfl, hC, hr⟩
      · have h0 : z 11 = .pointer (some ⟨X, 0, none⟩) := hd ⟨11, .data⟩ (by simp) rfl
        clear hX hT
        rw [h0]
        go_wp2_with fail
        exact ⟨_, by simp [upd, h0], rfl, hC, hr⟩
      · have h0 : z 12 = .pointer (some ⟨X, 2, none⟩) := hd ⟨12, .data⟩ (by simp) rfl
        have c1 := hX.cell 2
        simp only [List.getElem?_cons_zero, List.getElem?_cons_succ] at c1
        clear hX hT
        rw [h0]
        go_wp2_with fail
        exact ⟨_, by simp [upd, h0], rfl, hC, hr⟩
      · clear hX hT
        go_wp2_with fail
        exact ⟨_, rfl, rfl, hC, hr⟩
      · have h0 : z 13 = .int .i64 most := hd ⟨13, .data⟩ (by simp) rfl
        have h1 : z 14 = .int .i64 (q : Int) := hd ⟨14, .data⟩ (by simp) rfl
        clear hX hT
        rw [h0, h1]
        go_wp2_with fail
        exact ⟨_, by simp [upd, h0, h1], rfl, hC, hr⟩
      · obtain ⟨hbb, h0⟩ : bb = true ∧ OwnR W w2.heap.size 34 3 (z 9) (rowsTk (TT ++ [(c, n, k)])) := hd ⟨9, .data⟩ (by simp) rfl
        have h1 : z 15 = .int .i64 (most - (q : Int)) := hd ⟨15, .data⟩ (by simp) rfl
        obtain ⟨pa, ca, he⟩ := h0.isSlice
        rw [rowsTk_len, HMM.out] at he
        have hsl := h0.sl
        rw [he] at hsl
        have HSL := Lib.hid hsl
        clear hX hT h0 hsl
        rw [he, h1]
        go_wp2_with ((with_reducible refine (HJN.out pa ca (most - (q : Int)) W HSL.out HML.out out er HJ.out).mono ?_); rintro e w5 ⟨rfl, hb5⟩)
        exact ⟨_, by simp [upd, he, h1], rfl, hC.trans (hb5.mono hC.size), hb5⟩
      · have h0 : z 16 = .tuple #[.string (tx out), .int .i64 (er : Int)] := hd ⟨16, .data⟩ (by simp) rfl
        clear hX hT
        rw [h0]
        go_wp2_with fail
        exact ⟨_, by simp [upd, h0], rfl, hC, hr⟩
      · have h0 : z 17 = .tuple #[.string (tx out), .int .i64 (er : Int)] := hd ⟨17, .data⟩ (by simp) rfl
        clear hX hT
        rw [h0]
        go_wp2_with fail
        exact ⟨_, by simp [upd, h0], rfl, hC, hr⟩
      · have h0 : z 17 = .tuple #[.string (tx out), .int .i64 (er : Int)] := hd ⟨17, .data⟩ (by simp) rfl
        clear hX hT
        rw [h0]
        go_wp2_with fail
        exact ⟨_, by simp [upd, h0], rfl, hC, hr⟩
      · have h0 : z 18 = .string (tx out) := hd ⟨18, .data⟩ (by simp) rfl
        clear hX hT
        rw [h0]
        go_wp2_with fail
        exact ⟨_, by simp [upd, h0], rfl, hC, hr⟩
      · have h0 : z 19 = .int .i64 (er : Int) := hd ⟨19, .data⟩ (by simp) rfl
        clear hX hT
        rw [h0]
        go_wp2_with fail
        exact ⟨_, by simp [upd, h0], rfl, hC, hr⟩
      · simp at ho
    case one =>
      intro z W o ho hC hd
      simp only [List.getElem?_cons_zero, List.getElem?_cons_succ, Option.some.injEq] at ho
      subst ho
      have h6 : OwnR W w2.heap.size 34 3 (z 6) (rowsTk (TT)) := hd ⟨6, .data⟩ (by simp) rfl rfl
      obtain ⟨y, hy, h8, hY⟩ : ∃ y, w2.heap.size ≤ y ∧ z 8 = .slice (some ⟨y, 0, none⟩) 1 1 ∧ Blk W y 34 (rowT (c, n, k)) := hd ⟨8, .data⟩ (by simp) rfl rfl
      obtain ⟨v6, hv6⟩ : ∃ v, z 6 = v := ⟨_, rfl⟩
      rw [hv6] at h6
      have hnw := sl_one hY
      have hlo := h6.lt
      have hone : ∀ r ∈ [rowT (c, n, k)], ∀ u ∈ r, u.oneCell' = true := by simp [rowT, Value.oneCell']
      have hlen : (rowsTk TT).length + [rowT (c, n, k)].length ≤ maxLen := by rw [rowsTk_len, HMAP.out, List.length_singleton]; unfold maxLen; omega
      have hby : ((rowsTk TT).length + [rowT (c, n, k)].length) * 24 ≤ 140737488355328 := by rw [rowsTk_len, HMAP.out, List.length_singleton]; omega
      have HO6 := Lib.hid h6
      have HNW := Lib.hid hnw
      have HONE := Lib.hid hone
      have HLEN := Lib.hid hlen
      have HBYY := Lib.hid hby
      have HLO := Lib.hid hlo
      have HBA := Lib.hid hC.size
      clear h6 hnw hone hlen hby hY hd hlo
      rw [hv6, h8]
      obtain ⟨pa6, ca6, he6⟩ := HO6.out.isSlice
      obtain ⟨n6, hn6⟩ : ∃ n6, (rowsTk TT).length = n6 := ⟨_, rfl⟩
      rw [hn6] at he6
      subst he6
      go_wp2_with (first | (refine wpList_append_rows rfl _ _ 30 rfl w2.heap.size 34 i0 (.agg #[.int .u8 0, .int .i64 0, .int .i64 0]) 3 24 Try.underlying30 hi0 hz0 hz1 hz2 rfl (by decide) _ (rowsTk TT) rfl HO6.out (.slice (some ⟨y, 0, none⟩) 1 1) [rowT (c, n, k)] rfl HNW.out HONE.out HLEN.out HBYY.out HBA.out (.inr ⟨_, _, _, rfl⟩) ?_; intro v7 w7 ho7 hg7 hv7))
      exact ⟨v7, by simp [upd, hv6, h8]; rfl, ⟨rfl, by rw [rowsTk_snoc]; exact ho7⟩, Below.grown hC hg7 HBA.out (fun k e => (HLO.out k e).1), fun i x hi h => qjS_turn i x W w7 h hi⟩
    case end_ =>
      intro z W hC hS
      have h20 : z 20 = .string (tx out) := hS 20 (by decide)
      have h21 : z 21 = .int .i64 (er : Int) := hS 21 (by decide)
      rw [h20, h21]
      clear hS h20 h21
      have HW0 := Lib.hid ((HB2.out.trans (Below.mono hC HB2.out.size)).mono hBw)
      have HBK : Hid (Below w.heap.size w W) := Lib.hid (HB2.out.trans (Below.mono hC HB2.out.size))
      by_cases he : er = 0
      case neg =>
        have hm := q_must_no er he
        have HM := Lib.hid hm
        have HE := Lib.hid he
        clear hm he
        go_wp2_with fail
        refine (HM.out _).mono ?_
        rintro e w3 ⟨rfl, rfl⟩
        exact ⟨rfl, fun _ => ⟨rfl, HBK.out⟩, HW0.out, fun h => absurd h HE.out⟩
      subst he
      have X3 := HX2.out.below hC HX2.out.lt
      have O3 := HO2.out.below hC (fun i e => (HO2.out.lt i e).2)
      have c1 := X3.cell 1
      simp only [List.getElem?_cons_zero, List.getElem?_cons_succ] at c1
      have hcut := O3.cut (q := q) (by rw [HN.out]; exact hql)
      have hne := hcut.ne X3 (by decide)
      have hrl : (rowsBy (b.take q)).length = q := by rw [rowsBy_len, List.length_take, HN.out]; omega
      have hown := hcut.2
      rw [hrl] at hown
      have hsz : (tx out).size = out.length := tx_size out
      have h63 : q + (tx out).size ≤ maxLen := by rw [hsz]; unfold maxLen; omega
      have hbytes : q + (tx out).size ≤ 140737488355328 := by rw [hsz]; omega
      have hbase : B ≤ W.heap.size := Nat.le_trans hBw HBK.out.size
      have hfin : ∀ v7 w7, w7.ownsRow B 5 1 v7 (q + (tx out).size) ((rowsBy (b.take q)).flatten ++ Lib.strCells (tx out)) → OwnR w7 B 5 1 v7 (rowsBy b2) := fun v7 w7 h => by
        refine ⟨fun r hr => by simp only [rowsBy, List.mem_map] at hr; obtain ⟨x, _, rfl⟩ := hr; rfl, ?_⟩
        rw [← HB2'.out, rowsBy_app, List.length_append, hrl, rowsBy_len, List.flatten_append, rowsBy_flat out, ← strCells_tx HBY.out, ← hsz]
        exact h
      have hm := q_must_ok
      have HM := Lib.hid hm
      have HFIN := Lib.hid hfin
      have HOWN := Lib.hid hown
      have H63 := Lib.hid h63
      have HBYT := Lib.hid hbytes
      have HBASE := Lib.hid hbase
      have HX3 := Lib.hid X3
      have HNE := Lib.hid hne
      clear X3 O3 hcut hne hrl hown hsz h63 hbytes hbase hfin hm hC
      go_wp2_with fail
      refine (HM.out _).mono ?_
      rintro e w3 ⟨rfl, rfl⟩
      go_wp2_with (refine Lib.wpList_append_own_string _ rfl _ _ 40 9 rfl B 5 i8 Try.underlying40 Try.underlying9 hi8 hy0 hy1 hy2 (.slice (some ⟨g, 0, none⟩) q cap) q (rowsBy (b.take q)).flatten rfl HOWN.out (tx out) rfl H63.out HBYT.out HBASE.out ?_; intro v7 w7 ho7 hg7 hn7; have hO7 := HFIN.out v7 w7 ho7; have hX7 := HX3.out.grownO hg7 HNE.out; have c7 := hX7.cell 1; have f7 := hX7.free 1; simp only [List.getElem?_cons_zero, List.getElem?_cons_succ] at c7; obtain ⟨pa7, ca7, he7⟩ := hO7.isSlice; obtain ⟨n7, hn7'⟩ : ∃ n7, (rowsBy b2).length = n7 := ⟨_, rfl⟩; rw [hn7'] at he7; have HO7 := Lib.hid hO7; have HX7 := Lib.hid hX7; have HG7 := Lib.hid hg7; clear hO7 hX7 hg7 ho7 hn7 hn7'; subst he7)
      go_end0
      have hz7 := HG7.out.size
      have hzk := HBK.out.size
      refine ⟨fun h => absurd rfl h, (HW0.out.grown HG7.out HBASE.out (fun i e => (HBO.out i e).1)).setCell (p := ⟨X, 1, none⟩) hBX _, fun _ => ⟨rfl, fun i hi hiX hig => ?_, _, HX7.out.set 1 _, HO7.out.cellOther HX7.out (by decide) 1 _⟩⟩
      rw [(grown_setCell w7 ⟨X, 1, none⟩ _).block i (by omega) (fun e => hiX (Option.some.inj e)), HG7.out.block i (by omega) (fun e => hig e.symm), HBK.out.block i hi]
set_option maxRecDepth 100000 in
set_option maxHeartbeats 4000000 in
theorem q_join_none (B X R : Nat) (most : Int) (c : Nat) (n k : Int) (w : World) (hX : Blk w X 61 [.pointer (some ⟨R, 0, none⟩), .slice none 0 0, .int .i64 most]) (hBX : B ≤ X) (hk0 : 0 ≤ k) (hk : k ≤ 512) (hm1 : -1000000 ≤ most) (hm2 : most ≤ 1000000)
    (out : List Nat) (hby : Bys out) (hol : out.length ≤ 10000) (er : Nat) (hJ : joinW most [(c, n, k)] [] = (out, er)) :
    Calls Try.prog 48 #[.pointer (some ⟨X, 0, none⟩), .agg #[.int .u8 (c : Int), .int .i64 n, .int .i64 k]] w (JoinRet w B X R (.slice none 0 0) most out er) := by
  obtain ⟨i0, hi0, hz0, hz1, hz2⟩ := info_parts2 info_tk
  obtain ⟨i8, hi8, hy0, hy1, hy2⟩ := info_parts2 info_u8
  have hXl := hX.lt
  obtain ⟨T, hT⟩ : ∃ T, w.heap.size = T := ⟨_, rfl⟩
  obtain ⟨w1, hw1⟩ : ∃ w1, w.alloc (.cells #[.int .u8 (c : Int), .int .i64 n, .int .i64 k] 34) = w1 := ⟨_, rfl⟩
  have hb1 : Below w.heap.size w w1 := by rw [← hw1]; exact (Below.refl _ _).alloc (Nat.le_refl _) _
  have hz1' : w1.heap.size = T + 1 := by rw [← hw1, ← hT]; simp
  have T1 : Blk w1 T 34 (rowT (c, n, k)) := by rw [← hw1, ← hT]; exact Blk.new' w _ _ rfl
  have X1 := hX.below hb1 hX.lt
  have hBw : B ≤ w.heap.size := by omega
  have HX1 := Lib.hid X1
  have HT1 := Lib.hid T1
  have HB1 := Lib.hid hb1
  have HW1 := Lib.hid hw1
  have HTT := Lib.hid hT
  have HJ := Lib.hid hJ
  have HBY := Lib.hid hby
  clear hX X1 T1 hb1 hw1 hT hJ hby
  go_enter Try.func48, Try.ntmps48
  go_wp2_with fail
  rw [HW1.out, HTT.out]
  refine wp_mono (Q := jAt X T 0 c n k w1) ?reg ?rest
  case reg =>
    have c1 := HX1.out.cell 1
    have c2 := HT1.out.cell 2
    simp only [rowT, List.getElem?_cons_zero, List.getElem?_cons_succ] at c1 c2
    obtain ⟨kk, rfl⟩ : ∃ kk : Nat, k = (kk : Int) := ⟨k.toNat, by omega⟩
    rcases Nat.eq_zero_or_pos kk with h | h
    · subst h
      refine region_drew_tail 8 mixed (by kernel_rfl) ?_
      simp only [List.take_succ_cons, List.take_zero, List.drop_succ_cons, List.drop_zero]
      repeat (first | go_big_quiet_step (fail) | quiet_step (fail))
      refine wpQuiet_nil ?_
      rintro _ ⟨nq, rfl⟩
      go_wp2_with (refine wpList_max00 rfl _ rfl rfl rfl ?_)
      exact ⟨rfl, nq, fun i => match i with | 0 => _ | 1 => _ | 2 => _ | 3 => _ | 4 => _ | 5 => _ | 6 => _ | 7 => _ | 8 => _ | _ => undef, rfl, rfl⟩
    · have e1 : (0 : Int) - (kk : Int) < (0 : Int) := by omega
      have e2 : -(kk : Int) < (0 : Int) := by omega
      refine region_drew_tail 8 mixed (by kernel_rfl) ?_
      simp only [List.take_succ_cons, List.take_zero, List.drop_succ_cons, List.drop_zero]
      repeat (first | go_big_quiet_step (fail) | quiet_step (fail))
      refine wpQuiet_nil ?_
      rintro _ ⟨nq, rfl⟩
      go_wp2
      exact ⟨rfl, nq, fun i => match i with | 0 => _ | 1 => _ | 2 => _ | 3 => _ | 4 => _ | 5 => _ | 6 => _ | 7 => _ | 8 => _ | _ => undef, rfl, rfl⟩
  case rest =>
    rintro e a' w' ⟨rfl, m, u, rfl, rfl⟩
    have HX2 := Lib.hid (HX1.out.drewN m)
    have HT2 := Lib.hid (HT1.out.drewN m)
    have HB2 := Lib.hid (below_drewN HB1.out m)
    have hz2' : (w1.drewN m).heap.size = T + 1 := hz1'
    obtain ⟨w2, hw2⟩ : ∃ w2, w1.drewN m = w2 := ⟨_, rfl⟩
    rw [hw2] at HX2 HT2 HB2 hz2' ⊢
    clear HX1 HT1 HB1 HW1 hw2 hz1'
    have hbt : ∀ w, Calls Try.prog 76 #[.slice none 0 0] w (OwnRetR 34 3 (rowsTk []) w) := fun w => q_bytesOf [] none 0 w (by simp) (Sl.none 1)
    have hJn : ∀ p cap w, Sl w 3 (.slice p 1 cap) (rowsTk [(c, n, k)]) → Calls Try.prog 75 #[.slice p 1 cap, .int .i64 most] w fun e w' => e = .returned (.tuple #[.string (tx out), .int .i64 (er : Int)]) ∧ Below w.heap.size w w' := fun p cap w h => j_Join [(c, n, k)] p cap most w h (by simp) out er HJ.out
    have HBT := Lib.hid hbt
    have HJN := Lib.hid hJn
    clear hbt hJn
    go_wp2_with fail
    refine region_turn 9 mixed (by kernel_rfl) (by decide) (fun z => ((.pointer (some ⟨X, 0, none⟩)) :: (.agg #[.int .u8 (c : Int), .int .i64 n, .int .i64 k]) :: undef :: (.pointer (some ⟨T, 0, none⟩)) :: (.int .i64 0) :: (z 20) :: (z 21) :: (u 0) :: (u 1) :: (u 2) :: (u 3) :: (u 4) :: (u 5) :: (u 6) :: (u 7) :: (u 8) :: (z 17) :: (z 0) :: (z 1) :: (z 2) :: (z 3) :: (z 4) :: (z 5) :: (z 6) :: (z 7) :: (z 8) :: (z 9) :: (z 10) :: (z 11) :: (z 12) :: (z 13) :: (z 14) :: (z 15) :: (z 16) :: (z 18) :: (z 19) :: undef :: undef :: undef :: undef :: undef :: undef :: undef :: undef :: undef :: undef :: undef :: undef :: undef :: []).toArray) [] (fun i => undef) rfl (NewBut w2) (show Below _ _ _ from (Below.refl _ _).drew) (qjS w2 X (.slice none 0 0) 0 (.slice none 0 0) (c, n, k) [] most most out er) ?mono ?step ?one ?end_
    case mono => exact fun b i v W W' h _ _ hb => qjS_mono b i v W W' h hb
    case step =>
      intro bb z W i o hik ho hC hd
      have hr := Below.refl W.heap.size W
      have hX := HX2.out.below hC HX2.out.lt
      have hT := HT2.out.below hC HT2.out.lt
      have HXX := Lib.hid hX
      have HTT' := Lib.hid hT
      have HCC : Hid (Below w2.heap.size w2 W) := Lib.hid hC
      rcases i with _ | _ | _ | _ | _ | _ | _ | _ | _ | _ | _ | _ | _ | _ | _ | _ | _ | _ | _ | _ | _ | _ | i
      all_goals try (simp only [List.getElem?_cons_zero, List.getElem?_cons_succ, Option.some.injEq] at ho; subst ho)
      · clear hX hT
        go_wp2_with fail
        exact ⟨_, rfl, rfl, hC, hr⟩
      · clear hX hT
        have h0 : z 0 = .pointer (some ⟨X, 0, none⟩) := hd ⟨0, .data⟩ (by simp) rfl
        rw [h0]
        go_wp2_with fail
        exact ⟨_, by simp [upd, h0], rfl, hC, hr⟩
      · clear hX hT
        have h0 : z 1 = .pointer (some ⟨X, 0, none⟩) := hd ⟨1, .data⟩ (by simp) rfl
        rw [h0]
        go_wp2_with fail
        exact ⟨_, by simp [upd, h0], rfl, hC, hr⟩
      · have h0 : z 2 = .pointer (some ⟨X, 1, none⟩) := hd ⟨2, .data⟩ (by simp) rfl
        have c1 := hX.cell 1
        simp only [List.getElem?_cons_zero, List.getElem?_cons_succ] at c1
        clear hX hT
        rw [h0]
        go_wp2_with fail
        exact ⟨_, by simp [upd, h0], rfl, hC, hr⟩
      · clear hX hT
        go_wp2_with fail
        exact ⟨_, rfl, rfl, hC, hr⟩
      · have h0 : z 3 = .slice none 0 0 := hd ⟨3, .data⟩ (by simp) rfl
        have h1 : z 4 = .int .i64 0 := hd ⟨4, .data⟩ (by simp) rfl
        clear hX hT
        rw [h0, h1]
        go_wp2_with fail
        exact ⟨_, by simp [upd, h0, h1], rfl, hC, hr⟩
      · have h0 : z 5 = .slice none 0 0 := hd ⟨5, .data⟩ (by simp) rfl
        clear hX hT
        rw [h0]
        go_wp2_with ((with_reducible refine (HBT.out W).mono ?_); rintro e w5 ⟨v5, rfl, ho5, hb5⟩)
        exact ⟨v5, by simp [upd, h0], fun _ => ho5.mono hC.size, hC.trans (hb5.mono hC.size), hb5⟩
      · clear hX
        go_wp2_with (refine wpList_load_blk rfl 34 _ rfl T rfl hT Try.underlying34 rfl size_tk ?_)
        exact ⟨_, rfl, rfl, hC, hr⟩
      · have h0 : z 7 = .agg (rowT (c, n, k)).toArray := hd ⟨7, .data⟩ (by simp) rfl
        clear hX hT
        rw [h0, rowT_arr]
        go_wp2_with fail
        exact ⟨_, by first | (simp [upd, h0, rowT_arr]; done) | (simp [upd, h0, rowT_arr]; rfl), fun _ => ⟨W.heap.size, hC.size, rfl, Blk.new' W _ _ rfl⟩, hC.alloc hC.size _, hr.alloc (Nat.le_refl _) _⟩
      · exact absurd rfl hik
      · clear hX hT
        go_wp2_with fail
        exact ⟨_, rfl, rfl, hC, hr⟩
      · have h0 : z 10 = .pointer (some ⟨X, 0, none⟩) := hd ⟨10, .data⟩ (by simp) rfl
        clear hX hT
        rw [h0]
        go_wp2_with fail
        exact ⟨_, by simp [upd, h0], rfl, hC, hr⟩
      · have h0 : z 11 = .pointer (some ⟨X, 0, none⟩) := hd ⟨11, .data⟩ (by simp) rfl
        clear hX hT
        rw [h0]
        go_wp2_with fail
        exact ⟨_, by simp [upd, h0], rfl, hC, hr⟩
      · have h0 : z 12 = .pointer (some ⟨X, 2, none⟩) := hd ⟨12, .data⟩ (by simp) rfl
        have c1 := hX.cell 2
        simp only [List.getElem?_cons_zero, List.getElem?_cons_succ] at c1
        clear hX hT
        rw [h0]
        go_wp2_with fail
        exact ⟨_, by simp [upd, h0], rfl, hC, hr⟩
      · clear hX hT
        go_wp2_with fail
        exact ⟨_, rfl, rfl, hC, hr⟩
      · have h0 : z 13 = .int .i64 most := hd ⟨13, .data⟩ (by simp) rfl
        have h1 : z 14 = .int .i64 0 := hd ⟨14, .data⟩ (by simp) rfl
        clear hX hT
        rw [h0, h1]
        go_wp2_with fail
        exact ⟨_, by simp [upd, h0, h1], rfl, hC, hr⟩
      · obtain ⟨hbb, h0⟩ : bb = true ∧ OwnR W w2.heap.size 34 3 (z 9) (rowsTk ([(c, n, k)])) := hd ⟨9, .data⟩ (by simp) rfl
        have h1 : z 15 = .int .i64 most := hd ⟨15, .data⟩ (by simp) rfl
        obtain ⟨pa, ca, he⟩ := h0.isSlice
        rw [rowsTk_len] at he
        have he : z 9 = .slice pa 1 ca := he
        have hsl := h0.sl
        rw [he] at hsl
        have HSL := Lib.hid hsl
        clear hX hT h0 hsl
        rw [he, h1]
        go_wp2_with ((with_reducible refine (HJN.out pa ca W HSL.out).mono ?_); rintro e w5 ⟨rfl, hb5⟩)
        exact ⟨_, by simp [upd, he, h1], rfl, hC.trans (hb5.mono hC.size), hb5⟩
      · have h0 : z 16 = .tuple #[.string (tx out), .int .i64 (er : Int)] := hd ⟨16, .data⟩ (by simp) rfl
        clear hX hT
        rw [h0]
        go_wp2_with fail
        exact ⟨_, by simp [upd, h0], rfl, hC, hr⟩
      · have h0 : z 17 = .tuple #[.string (tx out), .int .i64 (er : Int)] := hd ⟨17, .data⟩ (by simp) rfl
        clear hX hT
        rw [h0]
        go_wp2_with fail
        exact ⟨_, by simp [upd, h0], rfl, hC, hr⟩
      · have h0 : z 17 = .tuple #[.string (tx out), .int .i64 (er : Int)] := hd ⟨17, .data⟩ (by simp) rfl
        clear hX hT
        rw [h0]
        go_wp2_with fail
        exact ⟨_, by simp [upd, h0], rfl, hC, hr⟩
      · have h0 : z 18 = .string (tx out) := hd ⟨18, .data⟩ (by simp) rfl
        clear hX hT
        rw [h0]
        go_wp2_with fail
        exact ⟨_, by simp [upd, h0], rfl, hC, hr⟩
      · have h0 : z 19 = .int .i64 (er : Int) := hd ⟨19, .data⟩ (by simp) rfl
        clear hX hT
        rw [h0]
        go_wp2_with fail
        exact ⟨_, by simp [upd, h0], rfl, hC, hr⟩
      · simp at ho
    case one =>
      intro z W o ho hC hd
      simp only [List.getElem?_cons_zero, List.getElem?_cons_succ, Option.some.injEq] at ho
      subst ho
      have h6 : OwnR W w2.heap.size 34 3 (z 6) (rowsTk []) := hd ⟨6, .data⟩ (by simp) rfl rfl
      obtain ⟨y, hy, h8, hY⟩ : ∃ y, w2.heap.size ≤ y ∧ z 8 = .slice (some ⟨y, 0, none⟩) 1 1 ∧ Blk W y 34 (rowT (c, n, k)) := hd ⟨8, .data⟩ (by simp) rfl rfl
      obtain ⟨v6, hv6⟩ : ∃ v, z 6 = v := ⟨_, rfl⟩
      rw [hv6] at h6
      have hnw := sl_one hY
      have hlo := h6.lt
      have hone : ∀ r ∈ [rowT (c, n, k)], ∀ u ∈ r, u.oneCell' = true := by simp [rowT, Value.oneCell']
      have hlen : (rowsTk []).length + [rowT (c, n, k)].length ≤ maxLen := by rw [rowsTk_len, List.length_singleton]; unfold maxLen; simp
      have hby : ((rowsTk []).length + [rowT (c, n, k)].length) * 24 ≤ 140737488355328 := by rw [rowsTk_len, List.length_singleton]; simp
      have HO6 := Lib.hid h6
      have HNW := Lib.hid hnw
      have HONE := Lib.hid hone
      have HLEN := Lib.hid hlen
      have HBYY := Lib.hid hby
      have HLO := Lib.hid hlo
      have HBA := Lib.hid hC.size
      clear h6 hnw hone hlen hby hY hd hlo
      rw [hv6, h8]
      obtain ⟨pa6, ca6, he6⟩ := HO6.out.isSlice
      obtain ⟨n6, hn6⟩ : ∃ n6, (rowsTk []).length = n6 := ⟨_, rfl⟩
      rw [hn6] at he6
      subst he6
      go_wp2_with (first | (refine wpList_append_rows rfl _ _ 30 rfl w2.heap.size 34 i0 (.agg #[.int .u8 0, .int .i64 0, .int .i64 0]) 3 24 Try.underlying30 hi0 hz0 hz1 hz2 rfl (by decide) _ (rowsTk []) rfl HO6.out (.slice (some ⟨y, 0, none⟩) 1 1) [rowT (c, n, k)] rfl HNW.out HONE.out HLEN.out HBYY.out HBA.out (.inr ⟨_, _, _, rfl⟩) ?_; intro v7 w7 ho7 hg7 hv7))
      exact ⟨v7, by simp [upd, hv6, h8]; rfl, ⟨rfl, ho7⟩, Below.grown hC hg7 HBA.out (fun k e => (HLO.out k e).1), fun i x hi h => qjS_turn i x W w7 h hi⟩
    case end_ =>
      intro z W hC hS
      have h20 : z 20 = .string (tx out) := hS 20 (by decide)
      have h21 : z 21 = .int .i64 (er : Int) := hS 21 (by decide)
      rw [h20, h21]
      clear hS h20 h21
      have HW0 := Lib.hid ((HB2.out.trans (Below.mono hC HB2.out.size)).mono hBw)
      have HBK : Hid (Below w.heap.size w W) := Lib.hid (HB2.out.trans (Below.mono hC HB2.out.size))
      by_cases he : er = 0
      case neg =>
        have hm := q_must_no er he
        have HM := Lib.hid hm
        have HE := Lib.hid he
        clear hm he
        go_wp2_with fail
        refine (HM.out _).mono ?_
        rintro e w3 ⟨rfl, rfl⟩
        exact ⟨rfl, fun _ => ⟨rfl, HBK.out⟩, HW0.out, fun h => absurd h HE.out⟩
      subst he
      have X3 := HX2.out.below hC HX2.out.lt
      have c1 := X3.cell 1
      simp only [List.getElem?_cons_zero, List.getElem?_cons_succ] at c1
      have hsz : (tx out).size = out.length := tx_size out
      have h63 : 0 + (tx out).size ≤ maxLen := by rw [hsz]; unfold maxLen; omega
      have hbytes : 0 + (tx out).size ≤ 140737488355328 := by rw [hsz]; omega
      have hbase : B ≤ W.heap.size := Nat.le_trans hBw HBK.out.size
      have hfin : ∀ v7 w7, w7.ownsRow B 5 1 v7 (0 + (tx out).size) ([] ++ Lib.strCells (tx out)) → OwnR w7 B 5 1 v7 (rowsBy out) := fun v7 w7 h => by
        refine ⟨fun r hr => by simp only [rowsBy, List.mem_map] at hr; obtain ⟨x, _, rfl⟩ := hr; rfl, ?_⟩
        rw [rowsBy_len, rowsBy_flat out, ← strCells_tx HBY.out, ← hsz]
        rw [Nat.zero_add, List.nil_append] at h
        exact h
      have hm := q_must_ok
      have HM := Lib.hid hm
      have HFIN := Lib.hid hfin
      have H63 := Lib.hid h63
      have HBYT := Lib.hid hbytes
      have HBASE := Lib.hid hbase
      have HX3 := Lib.hid X3
      clear X3 hsz h63 hbytes hbase hfin hm hC
      go_wp2_with fail
      refine (HM.out _).mono ?_
      rintro e w3 ⟨rfl, rfl⟩
      go_wp2_with (refine Lib.wpList_append_own_string _ rfl _ _ 40 9 rfl B 5 i8 Try.underlying40 Try.underlying9 hi8 hy0 hy1 hy2 (.slice none 0 0) 0 [] rfl (World.ownsRow_nil _ B 5 1) (tx out) rfl H63.out HBYT.out HBASE.out ?_; intro v7 w7 ho7 hg7 hn7; have hO7 := HFIN.out v7 w7 ho7; have hX7 := HX3.out.grownO hg7 (fun i e => by cases e); have c7 := hX7.cell 1; have f7 := hX7.free 1; simp only [List.getElem?_cons_zero, List.getElem?_cons_succ] at c7; obtain ⟨pa7, ca7, he7⟩ := hO7.isSlice; obtain ⟨n7, hn7'⟩ : ∃ n7, (rowsBy out).length = n7 := ⟨_, rfl⟩; rw [hn7'] at he7; have HO7 := Lib.hid hO7; have HX7 := Lib.hid hX7; have HG7 := Lib.hid hg7; clear hO7 hX7 hg7 ho7 hn7 hn7'; subst he7)
      go_end0
      have hz7 := HG7.out.size
      have hzk := HBK.out.size
      refine ⟨fun h => absurd rfl h, (HW0.out.grown HG7.out HBASE.out (fun i e => by cases e)).setCell (p := ⟨X, 1, none⟩) hBX _, fun _ => ⟨rfl, fun i hi hiX hig => ?_, _, HX7.out.set 1 _, HO7.out.cellOther HX7.out (by decide) 1 _⟩⟩
      rw [(grown_setCell w7 ⟨X, 1, none⟩ _).block i (by omega) (fun e => hiX (Option.some.inj e)), HG7.out.block i (by omega) (fun e => by cases e), HBK.out.block i hi]
end Go.Proofs.Ytpjihjbgihionaa
namespace Go.Proofs.Ytpjihjbgihionaa
open Go.RowKit
set_option linter.unusedVariables false

theorem copyW_bys {k : Nat} : ∀ (n : Nat) (b : List Nat), Bys b → Bys (copyW k n b)
  | 0, b, h => h
  | n + 1, b, h => copyW_bys n _ (h.app (Bys.of fun x hx => by rw [List.mem_singleton.1 hx]; exact h _))
theorem step_bys {most : Int} {sym back : Nat} {b : List Nat} (h : Bys b) (hs : sym < 288) : Bys (stepW most (tokS sym back) b).2 := by
  have hc : (tokS sym back).1 < 256 := by unfold tokS; split <;> simp; assumption
  obtain ⟨⟨c, n, k⟩, ht⟩ : ∃ t, tokS sym back = t := ⟨_, rfl⟩
  rw [ht] at hc ⊢
  have hs1 : Bys (b ++ [c]) := h.app (Bys.of fun x hx => by rw [List.mem_singleton.1 hx]; exact hc)
  unfold stepW
  simp only
  split
  · split
    · exact h
    · split <;> exact hs1
  · split
    · exact h
    · split
      · exact h
      · split <;> exact copyW_bys _ _ h
/-- what is read of a token: how far it reaches back, the error, how far the bits are -/
def tkP (s : List Nat) (p sym : Nat) : Nat × Nat × Nat := if sym < 256 then (0, 0, p) else takeP s p 9
theorem expG_tk {L s : List Nat} {most : Int} {f sym p : Nat} {b : List Nat} (h : sym ≠ 288) : expG L s most f sym p b =
    if (tkP s p sym).2.1 ≠ 0 then ([], (tkP s p sym).2.1)
    else if (stepW most (tokS sym (tkP s p sym).1) b).1 = 0 then expF L s most f (tkP s p sym).2.2 (stepW most (tokS sym (tkP s p sym).1) b).2 else ([], (stepW most (tokS sym (tkP s p sym).1) b).1) := by
  unfold expG tkP
  rw [if_neg h]
  by_cases h2 : sym < 256
  · rw [if_pos h2, if_pos h2]
    simp
  · rw [if_neg h2, if_neg h2]
/-- what is known while a text is read -/
structure EX (w0 w : World) (B E X R g : Nat) (s : ByteArray) (p : Nat) (most : Int) (v : Value) (b L : List Nat) : Prop where
  blkX : Blk w X 61 [.pointer (some ⟨R, 0, none⟩), v, .int .i64 most]
  blkR : Blk w R 91 (rdr s p)
  own : OwnR w B 5 1 v (rowsBy b)
  blkG : Blk w g 3 (ints .i64 (nn L))
  blkE : Blk w E 23 [.int .i64 0]
  below : Below B w0 w
  hX : B ≤ X
  hR : B ≤ R
  hg : B ≤ g
  hB : B ≤ w0.heap.size
theorem EX.keep {w0 w w' : World} {B E X R g : Nat} {s : ByteArray} {p : Nat} {most : Int} {v : Value} {b L : List Nat} (h : EX w0 w B E X R g s p most v b L) (hb : Below w.heap.size w w') : EX w0 w' B E X R g s p most v b L :=
  ⟨h.blkX.below hb h.blkX.lt, h.blkR.below hb h.blkR.lt, h.own.keep hb, h.blkG.below hb h.blkG.lt, h.blkE.below hb h.blkE.lt, h.below.trans (hb.mono (Nat.le_trans h.hB h.below.size)), h.hX, h.hR, h.hg, h.hB⟩
theorem EX.turn {w0 w w' : World} {B E X R g : Nat} {s : ByteArray} {p p' : Nat} {most : Int} {v : Value} {b L : List Nat} (h : EX w0 w B E X R g s p most v b L) (ht : Turned w w' R 91 (rdr s p')) : EX w0 w' B E X R g s p' most v b L :=
  ⟨ht.other h.blkX (h.blkX.neT h.blkR (by decide)), ht.2, h.own.grownO ht.1 (fun i hi e => h.own.ne h.blkR (by decide) i hi (Option.some.inj e)), ht.other h.blkG (h.blkG.neT h.blkR (by decide)), ht.other h.blkE (h.blkE.neT h.blkR (by decide)), ht.below h.below (Nat.le_trans h.hB h.below.size) h.hR, h.hX, h.hR, h.hg, h.hB⟩
/-- a step that leaves all of it known -/
def EXRet (w0 : World) (B E X R g : Nat) (s : ByteArray) (p' : Nat) (most : Int) (v : Value) (b L : List Nat) (er : Nat) (r : Value) (e : Ending) (w' : World) : Prop := Step er r e ∧ EX w0 w' B E X R g s p' most v b L
theorem q_tokenE {w0 w : World} {B E X R g : Nat} {s : ByteArray} {p : Nat} {most : Int} {v : Value} {b L : List Nat} (h : EX w0 w B E X R g s p most v b L) (hp : p ≤ 8 * s.size) (hs : s.size ≤ 1000000) (sym : Nat) (h2 : sym < 288) (k er p' : Nat) (ht : tkP (sl s) p sym = (k, er, p')) :
    Calls Try.prog 49 #[.pointer (some ⟨X, 0, none⟩), .int .i64 (sym : Int)] w (EXRet w0 B E X R g s p' most v b L er (.agg (rowT (tokS sym k)).toArray)) := by
  unfold tkP at ht
  by_cases h1 : sym < 256
  · rw [if_pos h1] at ht
    cases ht
    refine (q_token_byte X sym w h1).mono ?_
    rintro e w' ⟨rfl, hb⟩
    have e1 : tokS sym 0 = (sym, 0, 0) := if_pos h1
    exact ⟨⟨fun _ => by rw [e1], fun h => absurd rfl h⟩, h.keep hb⟩
  · rw [if_neg h1] at ht
    refine (q_token_match X R v (.int .i64 most) s p sym w h.blkX h.blkR hp hs (by omega) h2 k er p' ht).mono ?_
    rintro e w' ⟨hst, hT⟩
    have e1 : tokS sym k = (0, ((sym - 253 : Nat) : Int), ((k + 1 : Nat) : Int)) := if_neg h1
    exact ⟨⟨fun h => by rw [hst.1 h, e1]; rfl, hst.2⟩, h.turn hT⟩
theorem q_symbolE {w0 w : World} {B E X R g : Nat} {s : ByteArray} {p : Nat} {most : Int} {v : Value} {b L : List Nat} (h : EX w0 w B E X R g s p most v b L) (hp : p ≤ 8 * s.size) (hs : s.size ≤ 1000000) (hRL : RightN L) (hLl : L.length = 289) (n er p' : Nat) (ht : toldW L (sl s) p 15 1 = (n, er, p')) :
    Calls Try.prog 47 #[.pointer (some ⟨X, 0, none⟩), .slice (some ⟨g, 0, none⟩) 289 289] w (EXRet w0 B E X R g s p' most v b L er (.int .i64 (n : Int))) := by
  have hS := q_symbol X R g v (.int .i64 most) s p L w h.blkX h.blkR h.blkG hRL (h.blkG.neT h.blkR (by decide)) hp hs n er p' ht
  rw [hLl] at hS
  refine hS.mono ?_
  rintro e w' ⟨hst, hT⟩
  exact ⟨hst, h.turn hT⟩
/-- what join leaves -/
def EXJoin (w0 : World) (B E X R g : Nat) (s : ByteArray) (p : Nat) (most : Int) (b' L : List Nat) (er : Nat) (e : Ending) (w' : World) : Prop :=
  (er ≠ 0 → e = Died er) ∧ Below B w0 w' ∧ Blk w' E 23 [.int .i64 0] ∧ (er = 0 → e = .returned (.tuple #[]) ∧ ∃ v', EX w0 w' B E X R g s p most v' b' L)
theorem q_joinE {w0 w : World} {B E X R g : Nat} {s : ByteArray} {p : Nat} {most : Int} {v : Value} {b L : List Nat} (h : EX w0 w B E X R g s p most v b L) (hby : Bys b) (sym back : Nat) (hs : sym < 288) (hk : back < 512) (hb : b = [] ∨ (b.length : Int) ≤ most) (hm1 : -1000000 ≤ most) (hm2 : most ≤ 8192)
    (er : Nat) (b' : List Nat) (hst : stepW most (tokS sym back) b = (er, b')) :
    Calls Try.prog 48 #[.pointer (some ⟨X, 0, none⟩), .agg (rowT (tokS sym back)).toArray] w (EXJoin w0 B E X R g s p most b' L er) := by
  have hbl : b.length ≤ 8192 := by
    rcases hb with rfl | hb
    · simp
    · omega
  obtain ⟨q, hq⟩ : ∃ q, q = (if sym < 256 then b.length else b.length - (back + 1)) := ⟨_, rfl⟩
  obtain ⟨j1, j2, j3⟩ := join_from (most := most) hs hk hb hq
  have hbys := step_bys (most := most) (back := back) hby hs
  have hl := step_len most (tokS sym back) b
  rw [hst] at j1 j2 hbys hl
  simp only at j1 j2 hbys hl
  obtain ⟨out, ho⟩ : ∃ out, out = (if er = 0 then b'.drop q else []) := ⟨_, rfl⟩
  have j1' : joinW (most - (q : Int)) ((b.drop q).map byT ++ [tokS sym back]) [] = (out, er) := by
    refine Eq.trans j1 ?_
    by_cases he : er = 0
    · rw [if_pos he, ho, if_pos he, he]
    · rw [if_neg he, ho, if_neg he]
  have hob : Bys out := by
    rw [ho]
    split
    · exact hbys.drop q
    · exact Bys.of fun x hx => by cases hx
  have hol : out.length ≤ 10000 := by
    rw [ho]
    split
    · rw [List.length_drop]; omega
    · simp
  have key : ∀ e w', JoinRet w B X R v most (b.take q ++ out) er e w' → EXJoin w0 B E X R g s p most b' L er e w' := by
    rintro e w' ⟨k1, k2, k3⟩
    have eE : Blk w' E 23 [.int .i64 0] := by
      by_cases he : er = 0
      · obtain ⟨q1, q2, _⟩ := k3 he
        exact (q2 E h.blkE.lt (h.blkE.neT h.blkX (by decide)) (fun e => h.own.ne h.blkE (by decide) E e rfl)).trans h.blkE
      · exact h.blkE.below (k1 he).2 h.blkE.lt
    refine ⟨fun he => (k1 he).1, h.below.trans k2, eE, fun he => ?_⟩
    obtain ⟨q1, q2, v', q3, q4⟩ := k3 he
    have eb : b.take q ++ out = b' := by
      rw [ho, if_pos he]
      exact j2.symm
    rw [eb] at q4
    have eR : Blk w' R 91 (rdr s p) := (q2 R h.blkR.lt (h.blkX.neT h.blkR (by decide)).symm (fun e => h.own.ne h.blkR (by decide) R e rfl)).trans h.blkR
    have eG : Blk w' g 3 (ints .i64 (nn L)) := (q2 g h.blkG.lt (h.blkG.neT h.blkX (by decide)) (fun e => h.own.ne h.blkG (by decide) g e rfl)).trans h.blkG
    exact ⟨q1, v', q3, eR, q4, eG, eE, h.below.trans k2, h.hX, h.hR, h.hg, h.hB⟩
  obtain ⟨c, n, k, ht, hk0, hk1, hqk⟩ : ∃ c n k, tokS sym back = (c, n, k) ∧ 0 ≤ k ∧ k ≤ 512 ∧ q = b.length - k.toNat := by
    unfold tokS
    by_cases h2 : sym < 256
    · rw [if_pos h2] at hq ⊢
      exact ⟨_, _, _, rfl, by omega, by omega, by rw [hq]; simp⟩
    · rw [if_neg h2] at hq ⊢
      exact ⟨_, _, _, rfl, by omega, by omega, by rw [hq, Int.toNat_natCast]⟩
  rw [ht] at j1' ⊢
  rcases h.own.2.2 with ⟨hv, hn⟩ | ⟨g', cap, cur, hv, r⟩
  · rw [rowsBy_len] at hn
    have hb0 : b = [] := List.eq_nil_of_length_eq_zero hn
    subst hb0 hv
    obtain rfl : q = 0 := by simpa using hqk
    have hJ : joinW most [(c, n, k)] [] = (out, er) := by simpa using j1'
    exact (q_join_none B X R most c n k w h.blkX h.hX hk0 hk1 hm1 (by omega) out hob hol er hJ).mono key
  · rw [rowsBy_len] at hv
    subst hv
    exact (q_join_some B X R g' cap most b c n k w h.blkX h.own h.hX (by omega) hk0 hk1 hm1 (by omega) q hqk out hob hol er j1').mono key
/-- how far a reader is -/
def posR (R : Nat) (w : World) : Nat := (intOf ((w.cell? ⟨R, 1, none⟩).getD undef)).toNat
theorem posR_of {w : World} {R : Nat} {s : ByteArray} {p : Nat} (h : Blk w R 91 (rdr s p)) : posR R w = p := by
  unfold posR
  rw [h.cell 1]
  simp [rdr, intOf]
theorem rowT_agg (t : Nat × Int × Int) : Value.agg (rowT t).toArray = .agg #[.int .u8 (t.1 : Int), .int .i64 t.2.1, .int .i64 t.2.2] := rfl
/-- what run hands back -/
def RunRet (w0 : World) (B E : Nat) (out : List Nat) (er : Nat) (e : Ending) (w' : World) : Prop := Step er (.string (tx out)) e ∧ Below B w0 w' ∧ Blk w' E 23 [.int .i64 0]
set_option maxRecDepth 100000 in
set_option maxHeartbeats 8000000 in
theorem q_run (E X R B : Nat) (most : Int) (s : ByteArray) (w : World) (hX : Blk w X 61 [.pointer (some ⟨R, 0, none⟩), .slice none 0 0, .int .i64 most]) (hR : Blk w R 91 (rdr s 0)) (hE : Blk w E 23 [.int .i64 0]) (hBX : B ≤ X) (hBR : B ≤ R) (hs : s.size ≤ 1000000) (hm1 : -1000000 ≤ most) (hm2 : most ≤ 8192) (out : List Nat) (er : Nat) (h : expandP (sl s) most = (out, er)) :
    Calls Try.prog 24 #[.pointer (some ⟨X, 0, none⟩)] w (RunRet w B E out er) := by
  obtain ⟨⟨L, e1, p1⟩, hL⟩ : ∃ r, lensP (sl s) = r := ⟨_, rfl⟩
  have hLn := q_lengths X R (.slice none 0 0) (.int .i64 most) s w hX hR hs L e1 p1 hL
  have hBw : B ≤ w.heap.size := by have := hX.lt; omega
  rw [expandP_lens, hL] at h
  simp only at h
  have hXR := hX.neT hR (by decide)
  have hER := hE.neT hR (by decide)
  have HEE := Lib.hid hE
  have HLN := Lib.hid hLn
  have HX := Lib.hid hX
  clear hX hR hLn hL hE
  by_cases he1 : e1 = 0
  case neg =>
    rw [if_pos he1] at h
    cases h
    have HE := Lib.hid he1
    clear he1
    go_enter Try.func24, Try.ntmps24
    go_wp2_with fail
    refine HLN.out.mono ?_
    rintro e w2 ⟨k1, k2, k3⟩
    obtain rfl := k1 HE.out
    exact ⟨rfl, ⟨fun h => absurd h HE.out, fun _ => rfl⟩, (Below.refl B w).grown k2 hBw (fun i e => by cases e; exact hBR), HEE.out.grown k2 hER⟩
  subst he1
  rw [if_neg (fun h => h rfl)] at h
  obtain ⟨RT, hRT⟩ : ∃ r, r = (out, er) := ⟨_, rfl⟩
  rw [← hRT] at h
  have HRT := Lib.hid hRT
  have HH := Lib.hid h
  clear h hRT
  go_enter Try.func24, Try.ntmps24
  go_wp2_with fail
  refine HLN.out.mono ?_
  rintro e w2 ⟨k1, k2, k3⟩
  obtain ⟨g, rfl, hg, hG, hR2, hRL, hLl, hp1⟩ := k3 rfl
  have hX2 := HX.out.grown k2 hXR
  have hEX : EX w w2 B E X R g s p1 most (.slice none 0 0) [] L := ⟨hX2, hR2, OwnR.nil _ _ _ _, hG, HEE.out.grown k2 hER, (Below.refl B w).grown k2 hBw (fun i e => by cases e; exact hBR), hBX, hBR, by omega, hBw⟩
  clear k1 k2 k3 hX2 hG hR2 HLN HX hg hXR
  obtain ⟨⟨sym, e2, p2⟩, ht2⟩ : ∃ r, toldW L (sl s) p1 15 1 = r := ⟨_, rfl⟩
  have hSy := q_symbolE hEX hp1 hs hRL hLl sym e2 p2 ht2
  have HSY := Lib.hid hSy
  have HEX := Lib.hid hEX
  clear hSy hEX
  by_cases he2 : e2 = 0
  case neg =>
    have hd := expF_dead (L := L) (s := sl s) (most := most) (f := 8 * (sl s).length) (p := p1) (b := []) (by rw [ht2]; exact he2)
    rw [HH.out, HRT.out, ht2] at hd
    cases hd
    have HE := Lib.hid he2
    clear he2 HH HRT ht2
    go_wp2_with fail
    refine HSY.out.mono ?_
    rintro e w3 ⟨hst, hE3⟩
    obtain rfl := hst.2 HE.out
    exact ⟨rfl, ⟨fun h => absurd h HE.out, fun _ => rfl⟩, hE3.below, hE3.blkE⟩
  subst he2
  have hin := told_in 15 1 ht2
  rw [hLl, sl_len] at hin
  have hG := expF_G (most := most) (f := 8 * (sl s).length) (b := []) (by rw [sl_len]; exact hp1) ht2 hin.1
  rw [HH.out, sl_len] at hG
  have HG := Lib.hid hG
  obtain ⟨hi1, hi2, hi3⟩ := hin
  clear hG ht2 HH HEX
  go_wp2_with fail
  refine HSY.out.mono ?_
  rintro e w3 ⟨hst, hE3⟩
  obtain rfl := hst.1 rfl
  have HE3 := Lib.hid hE3
  clear hst hE3 HSY hp1
  go_wp2_with fail
  have hB0 : Bys [] := Bys.of fun x hx => by cases hx
  go_loopw [4] (fun sy wr => ∃ (sym p f : Nat) (b : List Nat) (v : Value), sy = .int .i64 (sym : Int) ∧ sym < 289 ∧ p ≤ 8 * s.size ∧ 8 * s.size < p + f ∧ expG L (sl s) most f sym p b = RT ∧ EX w wr B E X R g s p most v b L ∧ Bys b ∧ (b = [] ∨ (b.length : Int) ≤ most)) (fun _ wr => 8 * s.size + 1 - posR R wr)
  case atStart => exact ⟨sym, p2, 8 * s.size, [], _, rfl, hi1, hi3, by omega, HG.out.symm, HE3.out, hB0, .inl rfl⟩
  case round =>
    obtain ⟨sym, p, f, b, v, rfl, hs1, hp, hf, gR, gE, gB, gb⟩ := hrel
    clear HG HE3 hi1 hi2 hi3
    have hpos := posR_of gE.blkR
    by_cases h288 : sym = 288
    · subst h288
      unfold expG at gR
      rw [if_pos rfl] at gR
      have hEn := i_End R s p wr gE.blkR hp (by omega)
      obtain ⟨en, hen⟩ : ∃ en, endP (sl s) p = en := ⟨_, rfl⟩
      rw [hen] at gR hEn
      have c0 := gE.blkX.cell 0
      simp only [List.getElem?_cons_zero] at c0
      have e0 : (((288 : Nat) : Int) != 288) = false := rfl
      have HEN := Lib.hid hEn
      have GE := Lib.hid gE
      clear hEn hen gE gB gb hpos hf
      by_cases hen0 : en = 0
      case neg =>
        rw [if_pos hen0, HRT.out] at gR
        cases gR
        have hm := q_must_no er hen0
        have HM := Lib.hid hm
        have HE := Lib.hid hen0
        clear hm hen0 HRT
        go_wp2_with fail
        (with_reducible refine HEN.out.mono ?_)
        rintro e w4 ⟨rfl, hb4⟩
        have hE4 := Lib.hid (GE.out.keep hb4)
        clear hb4 HEN GE
        go_wp2_with fail
        refine (HM.out _).mono ?_
        rintro e w5 ⟨rfl, rfl⟩
        exact ⟨rfl, ⟨fun h => absurd h HE.out, fun _ => rfl⟩, hE4.out.below, hE4.out.blkE⟩
      subst hen0
      rw [if_neg (fun h => h rfl), HRT.out] at gR
      cases gR
      have hm := q_must_ok
      have HM := Lib.hid hm
      clear hm HRT
      go_wp2_with fail
      (with_reducible refine HEN.out.mono ?_)
      rintro e w4 ⟨rfl, hb4⟩
      have hE4 := GE.out.keep hb4
      have c1 := hE4.blkX.cell 1
      simp only [List.getElem?_cons_zero, List.getElem?_cons_succ] at c1
      have HOW := Lib.hid (own_bytes hE4.own)
      have HB4 := Lib.hid hE4.below
      have HE4E := Lib.hid hE4.blkE
      obtain ⟨pa, ca, hv⟩ := hE4.own.isSlice
      obtain ⟨N, hN⟩ : ∃ N, (rowsBy out).length = N := ⟨_, rfl⟩
      rw [hN] at hv
      subst hv
      clear hb4 HEN GE hE4 hN
      go_wp2_with fail
      refine (HM.out _).mono ?_
      rintro e w5 ⟨rfl, rfl⟩
      go_wp2_with (refine wpList_string_own rfl 40 9 5 _ rfl B _ (nn out) rfl Try.underlying40 Try.underlying5 Try.underlying9 HOW.out ?_)
      go_ret
      exact ⟨⟨fun _ => rfl, fun h => absurd rfl h⟩, HB4.out, HE4E.out⟩
    · have e0 : ((sym : Int) != 288) = true := by rw [bne_iff_ne]; omega
      have hs2 : sym < 288 := by omega
      rw [expG_tk h288] at gR
      obtain ⟨⟨k, e3, p3⟩, ht3⟩ : ∃ r, tkP (sl s) p sym = r := ⟨_, rfl⟩
      have hTk := q_tokenE gE hp hs sym hs2 k e3 p3 ht3
      rw [ht3] at gR
      simp only at gR
      have HTK := Lib.hid hTk
      have GE := Lib.hid gE
      clear hTk gE
      by_cases he3 : e3 = 0
      case neg =>
        rw [if_pos he3, HRT.out] at gR
        cases gR
        have HE := Lib.hid he3
        clear he3 HRT ht3 gB gb hpos h288
        go_wp2_with fail
        refine HTK.out.mono ?_
        rintro e w4 ⟨hst, hE4⟩
        obtain rfl := hst.2 HE.out
        exact ⟨rfl, ⟨fun h => absurd h HE.out, fun _ => rfl⟩, hE4.below, hE4.blkE⟩
      subst he3
      rw [if_neg (fun h => h rfl)] at gR
      have hk : k < 512 ∧ p ≤ p3 ∧ p3 ≤ 8 * s.size := by
        unfold tkP at ht3
        split at ht3
        · cases ht3
          exact ⟨by omega, by omega, hp⟩
        · have := takeP_ok (s := sl s) (p := p) (x := 9) (by omega) (by rw [sl_len]; exact hp) ht3
          rw [sl_len] at this
          exact ⟨this.1, by omega, this.2.2⟩
      obtain ⟨hk1, hk2, hk3⟩ := hk
      obtain ⟨⟨e4, b'⟩, hst4⟩ : ∃ r, stepW most (tokS sym k) b = r := ⟨_, rfl⟩
      have hJo := fun w4 (h : EX w w4 B E X R g s p3 most v b L) => q_joinE h gB sym k hs2 hk1 gb hm1 hm2 e4 b' hst4
      have hb' := step_bys (most := most) (back := k) gB hs2
      have hmo : e4 = 0 → ((b'.length : Int) ≤ most) := fun h => by have := step_most (most := most) (t := tokS sym k) (b := b) (by rw [hst4]; exact h); rw [hst4] at this; exact this
      rw [hst4] at gR hb'
      simp only at gR hb'
      have HJO := Lib.hid hJo
      have HB' := Lib.hid hb'
      have HMO := Lib.hid hmo
      rw [rowT_agg] at HTK HJO
      obtain ⟨c, n, q, htk⟩ : ∃ c n q, tokS sym k = (c, n, q) := ⟨_, _, _, rfl⟩
      rw [htk] at HTK HJO
      simp only at HTK HJO
      clear hJo hb' hmo hst4 htk ht3 gB gb
      by_cases he4 : e4 = 0
      case neg =>
        rw [if_neg he4, HRT.out] at gR
        cases gR
        have HE := Lib.hid he4
        clear he4 HRT hpos h288
        go_wp2_with fail
        refine HTK.out.mono ?_
        rintro e w4 ⟨hst, hE4⟩
        obtain rfl := hst.1 rfl
        have hJ := HJO.out w4 hE4
        have HJ := Lib.hid hJ
        clear hJ hst hE4 HTK HJO
        go_wp2_with fail
        refine HJ.out.mono ?_
        rintro e w5 ⟨j1, j2, j4, j3⟩
        obtain rfl := j1 HE.out
        exact ⟨rfl, ⟨fun h => absurd h HE.out, fun _ => rfl⟩, j2, j4⟩
      subst he4
      rw [if_pos rfl] at gR
      obtain ⟨f', rfl⟩ : ∃ f', f = f' + 1 := ⟨f - 1, by omega⟩
      obtain ⟨⟨sym', e5, p5⟩, ht5⟩ : ∃ r, toldW L (sl s) p3 15 1 = r := ⟨_, rfl⟩
      have hSy := fun w5 v5 (h : EX w w5 B E X R g s p3 most v5 b' L) => q_symbolE h hk3 hs hRL hLl sym' e5 p5 ht5
      have HSY := Lib.hid hSy
      clear hSy
      by_cases he5 : e5 = 0
      case neg =>
        rw [expF_dead (by rw [ht5]; exact he5), ht5, HRT.out] at gR
        cases gR
        have HE := Lib.hid he5
        clear he5 HRT hpos h288 ht5
        go_wp2_with fail
        refine HTK.out.mono ?_
        rintro e w4 ⟨hst, hE4⟩
        obtain rfl := hst.1 rfl
        have hJ := HJO.out w4 hE4
        have HJ := Lib.hid hJ
        clear hJ hst hE4 HTK HJO
        go_wp2_with fail
        refine HJ.out.mono ?_
        rintro e w5 ⟨j1, j2, j4, j3⟩
        obtain ⟨rfl, v5, hE5⟩ := j3 rfl
        have hS := HSY.out w5 v5 hE5
        have HS := Lib.hid hS
        clear hS hE5 j1 j2 j3 j4 HSY HJ
        go_wp2_with fail
        refine HS.out.mono ?_
        rintro e w6 ⟨hst, hE6⟩
        obtain rfl := hst.2 HE.out
        exact ⟨rfl, ⟨fun h => absurd h HE.out, fun _ => rfl⟩, hE6.below, hE6.blkE⟩
      subst he5
      have hin := told_in 15 1 ht5
      rw [hLl, sl_len] at hin
      rw [expF_G (by rw [sl_len]; exact hk3) ht5 hin.1] at gR
      obtain ⟨hi1, hi2, hi3⟩ := hin
      have GR := Lib.hid gR
      have HPO := Lib.hid hpos
      have hmm := HMO.out rfl
      have HMM := Lib.hid hmm
      clear gR ht5 h288 hpos hmm HMO
      go_wp2_with fail
      refine HTK.out.mono ?_
      rintro e w4 ⟨hst, hE4⟩
      obtain rfl := hst.1 rfl
      have hJ := HJO.out w4 hE4
      have HJ := Lib.hid hJ
      clear hJ hst hE4 HTK HJO
      go_wp2_with fail
      refine HJ.out.mono ?_
      rintro e w5 ⟨j1, j2, j4, j3⟩
      obtain ⟨rfl, v5, hE5⟩ := j3 rfl
      have hS := HSY.out w5 v5 hE5
      have HS := Lib.hid hS
      clear hS hE5 j1 j2 j3 j4 HSY HJ
      go_wp2_with fail
      refine HS.out.mono ?_
      rintro e w6 ⟨hst, hE6⟩
      obtain rfl := hst.1 rfl
      have HE6 := Lib.hid hE6
      have HPO6 := Lib.hid (posR_of hE6.blkR)
      clear hst hE6 HS
      go_wp2_with fail
      go_roundw
      case rel => exact ⟨sym', p5, f', b', v5, rfl, hi1, hi3, by omega, GR.out, HE6.out, HB'.out, .inr HMM.out⟩
      case measure => (rw [HPO.out, HPO6.out]; omega)
end Go.Proofs.Ytpjihjbgihionaa
namespace Go.Proofs.Ytpjihjbgihionaa
open Go.RowKit
set_option linter.unusedVariables false

theorem q_caught_ok (E : Nat) (w : World) :
    CallsD Try.prog 45 #[.pointer (some ⟨E, 0, none⟩)] .returning w fun e u' w' => e = .returned (.tuple #[]) ∧ u' = .returning ∧ w' = w := by
  refine callsD_of_wpS Try.func45 rfl fun c₀ cs hu => ?_
  apply wpS_seq
  apply wpS_region
  simp [wpOpsS, go_sem, recoverD, hu, Try.ntmps45, Exit.thenS]
  apply wpS_seq
  apply wpS_region
  simp [wpOpsS, go_sem, Exit.thenS]
  refine wpS_cond (t := false) (by simp [Act.eval, Array.replicate]) ?_
  simp only [Bool.false_eq_true, if_false]
  refine wpS_of_wp (wp_skip ?_)
  cases c₀
  simp_all [bodyPostS, results, Try.results45]
theorem assert_err (er : Int) (w : World) : (Instr.typeAssert (.iface 23 (.int .i64 er)) 20 23 false).run Try.prog w = .ok (.int .i64 er) w := by kernel_rfl
theorem q_caught_err (E er x : Nat) (w : World) (hB : Blk w E 23 [.int .i64 (x : Int)]) :
    CallsD Try.prog 45 #[.pointer (some ⟨E, 0, none⟩)] (.panicking [{ v := .iface 23 (.int .i64 (er : Int)), recovered := false }]) w fun e u' w' => e = .returned (.tuple #[]) ∧ u' = .panicking [{ v := .iface 23 (.int .i64 (er : Int)), recovered := true }] ∧ w' = w.setCell ⟨E, 0, none⟩ (.int .i64 (er : Int)) := by
  have hc := hB.cell 0
  have hz := hB.free 0
  simp only [List.getElem?_cons_zero] at hc
  refine callsD_of_wpS Try.func45 rfl fun c₀ cs hu => ?_
  apply wpS_seq
  apply wpS_region
  simp [wpOpsS, go_sem, recoverD, hu, Try.ntmps45, Exit.thenS]
  apply wpS_seq
  apply wpS_region
  simp [wpOpsS, go_sem, Exit.thenS]
  refine wpS_cond (t := true) (by simp [Act.eval, Array.replicate]) ?_
  simp only [if_true]
  apply wpS_region
  simp [wpOpsS, go_sem, assert_err, hc, hz, bodyPostS, results, Try.results45]
/-- a text, and an error -/
def TxRet (w : World) (B : Nat) (out : List Nat) (er : Nat) (e : Ending) (w' : World) : Prop := e = .returned (.tuple #[.string (tx out), .int .i64 (er : Int)]) ∧ Below B w w'
set_option maxRecDepth 100000 in
set_option maxHeartbeats 400000 in
theorem q_recovered (X B : Nat) (out : List Nat) (er : Nat) (hout : er ≠ 0 → out = []) (w : World) (hB : B ≤ w.heap.size)
    (hrun : Calls Try.prog 24 #[.pointer (some ⟨X, 0, none⟩)] (w.alloc (.cells #[.int .i64 0] 23)) (RunRet (w.alloc (.cells #[.int .i64 0] 23)) B w.heap.size out er)) :
    Calls Try.prog 23 #[.func (.func 24) #[.pointer (some ⟨X, 0, none⟩)] #[]] w (TxRet w B out er) := by
  have hmf := mkf
  have hb1 : Below B w (w.alloc (.cells #[.int .i64 0] 23)) := ((Below.refl w.heap.size w).alloc (Nat.le_refl _) _).mono hB
  have HR := Lib.hid hrun
  have HB1 := Lib.hid hb1
  clear hrun hb1
  by_cases he : er = 0
  · subst he
    go_enter_defers Try.func23, Try.ntmps23
    go_wp2_with fail
    refine HR.out.mono ?_
    rintro e w2 ⟨hst, hb2, hE⟩
    obtain rfl := hst.1 rfl
    have c0 := hE.cell 0
    have f0 := hE.free 0
    simp only [List.getElem?_cons_zero] at c0
    have hE2 := hE.set 0 (.int .i64 0)
    have HB2 := Lib.hid ((HB1.out.trans hb2).setCell (p := ⟨w.heap.size, 0, none⟩) hB (.int .i64 0))
    have HE2 := Lib.hid hE2
    clear hst hb2 hE hE2 HR
    go_wp2
    refine leaves_cons (f := 45) (args := #[.pointer (some ⟨w.heap.size, 0, none⟩)]) (by simp) (by simp [go_sem]) ?_
    refine (q_caught_ok _ _).mono ?_
    rintro e u' w'' ⟨rfl, rfl, rfl⟩
    exact ⟨_, results_tmp_cell rfl _ _ _ rfl _ rfl (HE2.out.cell 0) Try.underlying23 rfl, rfl, HB2.out⟩
  · have ho := hout he
    subst ho
    have HE := Lib.hid he
    clear he hout
    go_enter_defers Try.func23, Try.ntmps23
    go_wp2_with fail
    refine HR.out.mono ?_
    rintro e w2 ⟨hst, hb2, hE⟩
    obtain rfl := hst.2 HE.out
    have hE2 := hE.set 0 (.int .i64 (er : Int))
    have HB2 := Lib.hid ((HB1.out.trans hb2).setCell (p := ⟨w.heap.size, 0, none⟩) hB (.int .i64 (er : Int)))
    refine leaves_cons (f := 45) (args := #[.pointer (some ⟨w.heap.size, 0, none⟩)]) (by simp) (by simp [go_sem]) ?_
    refine (q_caught_err _ er 0 _ hE).mono ?_
    rintro e u' w'' ⟨rfl, rfl, rfl⟩
    exact ⟨_, results_tmp_cell rfl _ _ _ rfl _ rfl (hE2.cell 0) Try.underlying23 rfl, rfl, HB2.out⟩
theorem build_xp (R : Nat) (most : Int) (w : World) : (Instr.build 61 #[(0, .pointer (some ⟨R, 0, none⟩)), (2, .int .i64 most)]).run Try.prog w = .ok (.agg #[.pointer (some ⟨R, 0, none⟩), .slice none 0 0, .int .i64 most]) w := by kernel_rfl
theorem joinW_dead {most : Int} : ∀ (T : List (Nat × Int × Int)) (b : List Nat), (joinW most T b).2 ≠ 0 → (joinW most T b).1 = []
  | [], b, h => absurd rfl h
  | t :: T, b, h => by
    rw [join_cons] at h ⊢
    split
    · rename_i h1
      rw [if_pos h1] at h
      exact joinW_dead T _ h
    · rfl
theorem expF_out {L s : List Nat} {most : Int} : ∀ (f p : Nat) (b : List Nat), (expF L s most f p b).2 ≠ 0 → (expF L s most f p b).1 = []
  | 0, _, _, _ => rfl
  | f + 1, p, b, h => by
    unfold expF at h ⊢
    split
    · rfl
    · rename_i h1
      rw [if_neg h1] at h
      split
      · rename_i h2
        rw [if_pos h2] at h
        split
        · rfl
        · rename_i h3
          rw [if_neg h3] at h
          exact absurd rfl h
      · rename_i h2
        rw [if_neg h2] at h
        split
        · rename_i h3
          rw [if_pos h3] at h
          split
          · rfl
          · rename_i h4
            rw [if_neg h4] at h
            exact expF_out f _ _ h
        · rename_i h3
          rw [if_neg h3] at h
          split
          · rfl
          · rename_i h4
            rw [if_neg h4] at h
            split
            · rfl
            · rename_i h5
              rw [if_neg h5] at h
              split
              · rfl
              · rename_i h6
                rw [if_neg h6] at h
                exact expF_out f _ _ h
theorem expandP_out {s : List Nat} {most : Int} (h : (expandP s most).2 ≠ 0) : (expandP s most).1 = [] := by
  rw [expandP_lens] at h ⊢
  split
  · rfl
  · rename_i h1
    rw [if_neg h1] at h
    exact expF_out _ _ _ h
set_option maxRecDepth 100000 in
set_option maxHeartbeats 1000000 in
theorem q_Expand (s : ByteArray) (most : Int) (w : World) (hs : s.size ≤ 1000000) (hm1 : -1000000 ≤ most) (hm2 : most ≤ 8192) (out : List Nat) (er : Nat) (h : expandP (sl s) most = (out, er)) :
    Calls Try.prog 12 #[.string s, .int .i64 most] w (TxRet w w.heap.size out er) := by
  have hN := i_New s w
  have hout : er ≠ 0 → out = [] := fun he => by
    have := expandP_out (s := sl s) (most := most) (by rw [h]; exact he)
    rw [h] at this
    exact this
  have hmf := mkf
  have hbx := build_xp
  obtain ⟨w1, hw1⟩ : ∃ w1, w.alloc (.cells (rdr s 0).toArray 91) = w1 := ⟨_, rfl⟩
  rw [hw1] at hN
  have hz1 : w1.heap.size = w.heap.size + 1 := by rw [← hw1]; simp
  have R1 : Blk w1 w.heap.size 91 (rdr s 0) := by rw [← hw1]; exact Blk.new' w _ _ rfl
  have hb1 : Below w.heap.size w w1 := by rw [← hw1]; exact (Below.refl _ _).alloc (Nat.le_refl _) _
  obtain ⟨w2, hw2⟩ : ∃ w2, w1.alloc (.cells #[.pointer (some ⟨w.heap.size, 0, none⟩), .slice none 0 0, .int .i64 most] 61) = w2 := ⟨_, rfl⟩
  have hz2 : w2.heap.size = w.heap.size + 2 := by rw [← hw2]; simp; omega
  have R2 : Blk w2 w.heap.size 91 (rdr s 0) := by rw [← hw2]; exact R1.alloc _
  have X2 : Blk w2 w1.heap.size 61 [.pointer (some ⟨w.heap.size, 0, none⟩), .slice none 0 0, .int .i64 most] := by rw [← hw2]; exact Blk.new' w1 _ _ rfl
  have hb2 : Below w.heap.size w w2 := by rw [← hw2]; exact hb1.alloc hb1.size _
  have hrun := q_run w2.heap.size w1.heap.size w.heap.size w.heap.size most s (w2.alloc (.cells #[.int .i64 0] 23)) (X2.alloc _) (R2.alloc _) (Blk.new' w2 _ _ rfl) (by omega) (Nat.le_refl _) hs hm1 hm2 out er h
  have hrec := q_recovered w1.heap.size w.heap.size out er hout w2 (by omega) hrun
  have HN := Lib.hid hN
  have HW2 := Lib.hid hw2
  have HREC := Lib.hid hrec
  have HB2 := Lib.hid hb2
  clear hN hout hw1 hz1 R1 hb1 hw2 hz2 R2 X2 hb2 hrun hrec h
  go_enter Try.func12, Try.ntmps12
  go_wp2_with fail
  (with_reducible refine HN.out.mono ?_)
  rintro e w3 ⟨rfl, rfl⟩
  go_wp2_with fail
  rw [HW2.out]
  refine HREC.out.mono ?_
  rintro e w4 ⟨rfl, hb4⟩
  have HB4 := Lib.hid (HB2.out.trans hb4)
  clear hb4
  go_wp2
  go_ret2
  exact ⟨rfl, HB4.out⟩
end Go.Proofs.Ytpjihjbgihionaa
