/- Walks of Whole (both), and digest's filling. -/
import Derived.Test.YtbobdbdknapdcaaD1
import Derived.Test.YtbobdbdknapdcaaG1
import Derived.Deep.OwnRows
namespace Go.Proofs.Ytbobdbdknapdcaa
open Go.RowKit
set_option linter.unusedVariables false

theorem ret_num {k : IntKind} {a b : Int} (h : a = b) : Ending.returned (.int k a) = .returned (.int k b) := by rw [h]
def wholeZ (n : Int) : Int := if n < 0 ∨ 1099511627776 < n then 0 else (n + 72) / 64 * 64
theorem whole_out (n : Int) (h : n < 0 ∨ 1099511627776 < n) : wholeZ n = 0 := if_pos h
theorem whole_in (n : Int) (h0 : 0 ≤ n) (h1 : n ≤ 1099511627776) : wholeZ n = (n + 72) / 64 * 64 := if_neg (by omega)

set_option maxHeartbeats 1000000 in
theorem d_Whole (n : Int) (w : World) (hlo : -9223372036854775808 ≤ n) (hhi : n ≤ 9223372036854775807) :
    Calls Try.prog 55 #[.int .i64 n] w fun e w' => e = .returned (.int .i64 (wholeZ n)) ∧ w' = w := by
  by_cases h0 : n < 0
  · rw [whole_out n (.inl h0)]
    go_enter Try.func55, Try.ntmps55
    go_wp2
    go_ret
    exact ⟨rfl, rfl⟩
  · by_cases h1 : 1099511627776 < n
    · rw [whole_out n (.inr h1)]
      go_enter Try.func55, Try.ntmps55
      go_wp2
      go_ret
      exact ⟨rfl, rfl⟩
    · rw [whole_in n (by omega) (by omega)]
      go_enter Try.func55, Try.ntmps55
      go_wp2
      go_ret
      refine ⟨?_, rfl⟩
      exact ret_num (by omega)
set_option maxHeartbeats 1000000 in
theorem r_Whole (n : Int) (w : World) (hlo : -9223372036854775808 ≤ n) (hhi : n ≤ 9223372036854775807) :
    Calls Try.prog 43 #[.int .i64 n] w fun e w' => e = .returned (.int .i64 (wholeZ n)) ∧ w' = w := by
  by_cases h0 : n < 0
  · rw [whole_out n (.inl h0)]
    go_enter Try.func43, Try.ntmps43
    go_wp2
    go_ret
    exact ⟨rfl, rfl⟩
  · by_cases h1 : 1099511627776 < n
    · rw [whole_out n (.inr h1)]
      go_enter Try.func43, Try.ntmps43
      go_wp2
      go_ret
      exact ⟨rfl, rfl⟩
    · rw [whole_in n (by omega) (by omega)]
      go_enter Try.func43, Try.ntmps43
      go_wp2
      go_ret
      refine ⟨?_, rfl⟩
      exact ret_num (by omega)

/-- the lowest t bytes of x, the highest first -/
def lowB (x : Nat) : Nat → List Int
  | 0 => []
  | t + 1 => ((x / 256 ^ t % 256 : Nat) : Int) :: lowB x t
theorem lowB_len (x : Nat) : ∀ t, (lowB x t).length = t
  | 0 => rfl
  | t + 1 => by simp [lowB, lowB_len x t]
theorem lowB_zero (x t : Nat) (h : x / 256 ^ t = 0) : ∀ u, lowB x (t + u) = zer u ++ lowB x t
  | 0 => by simp [zer]
  | u + 1 => by
    rw [show t + (u + 1) = (t + u) + 1 by omega, lowB, lowB_zero x t h u]
    have : x / 256 ^ (t + u) = 0 := by rw [Nat.pow_add, ← Nat.div_div_eq_div_mul, h]; simp
    simp [this, zer, List.replicate_succ]
theorem lowB_octets (x : Nat) : ∀ t, Octets (lowB x t)
  | 0 => by intro n h; cases h
  | t + 1 => by
    intro n h
    rcases List.mem_cons.1 h with rfl | h
    · omega
    · exact lowB_octets x t n h
def fillLen (n : Nat) : Nat := (n + 72) / 64 * 64 - n
/-- what stands behind the last n bytes of a text of so many bytes -/
def fillL (n len : Nat) : List Int := 128 :: zer (fillLen n - 9) ++ lowB (len * 8) 8
def fillT (n len t : Nat) : List Int := 128 :: zer (fillLen n - 1 - t) ++ lowB (len * 8) t
theorem fillLen_ge (n : Nat) : 9 ≤ fillLen n ∧ fillLen n ≤ 72 := by unfold fillLen; omega
theorem fillT_len (n len t : Nat) (h : t ≤ 8) : (fillT n len t).length = fillLen n := by
  have := fillLen_ge n
  simp [fillT, lowB_len, zer]; omega
theorem fillT_done (n len t : Nat) (h : t ≤ 8) (h0 : len * 8 / 256 ^ t = 0) : fillT n len t = fillL n len := by
  have := fillLen_ge n
  unfold fillT fillL
  have h1 := lowB_zero (len * 8) t h0 (8 - t)
  rw [show t + (8 - t) = 8 by omega] at h1
  rw [h1]
  unfold zer
  rw [List.cons_append, List.cons_append, ← List.append_assoc, List.replicate_append_replicate, show fillLen n - 9 + (8 - t) = fillLen n - 1 - t by omega]
theorem fillT_set (n len t : Nat) (h : t < 8) : (fillT n len t).set (fillLen n - 1 - t) ((len * 8 / 256 ^ t % 256 : Nat) : Int) = fillT n len (t + 1) := by
  have := fillLen_ge n
  unfold fillT zer
  obtain ⟨m, hm⟩ : ∃ m, fillLen n - 1 - t = m + 1 := ⟨fillLen n - 2 - t, by omega⟩
  rw [hm, show fillLen n - 1 - (t + 1) = m by omega, lowB, List.replicate_succ', List.cons_append, List.cons_append, List.set_cons_succ, List.append_assoc, List.set_append_right _ _ (by simp)]
  simp
theorem fillL_octets (n len : Nat) : Octets (fillL n len) := by
  intro x h
  simp only [fillL, zer, List.cons_append, List.mem_cons, List.mem_append, List.mem_replicate] at h
  rcases h with rfl | ⟨_, rfl⟩ | h
  · omega
  · omega
  · exact lowB_octets _ _ x h
theorem fillL_len (n len : Nat) : (fillL n len).length = fillLen n := by
  have := fillLen_ge n
  simp [fillL, lowB_len, zer]; omega
theorem pow256 (t : Nat) (h : t ≤ 8) (len : Nat) (hl : len ≤ 1099511627776) (ht : t = 8) : len * 8 / 256 ^ t = 0 := by
  subst ht
  exact Nat.div_eq_of_lt (by omega)


theorem made_zer (n : Nat) : madeCells #[Value.int .u8 0] n = (ints .u8 (zer n)).toArray := by
  apply Array.ext
  · simp [size_madeCells, ints, zer]
  · intro i h1 h2
    simp [madeCells, ints, zer, Nat.mod_one]

set_option maxHeartbeats 1000000 in
set_option maxRecDepth 100000 in
theorem d_filling (n len : Nat) (w : World) (hn : n < 64) (hl : len ≤ 1099511627776) :
    Calls Try.prog 37 #[.int .i64 n, .int .i64 len] w fun e w' => e = .returned (.string (bs (fillL n len))) ∧ Below w.heap.size w w' := by
  have hF := fillLen_ge n
  have hW : wholeZ n - n = (fillLen n : Int) := by
    rw [whole_in n (by omega) (by omega)]; unfold fillLen; omega
  have hW0 : 0 ≤ wholeZ n ∧ wholeZ n ≤ 128 := by
    rw [whole_in n (by omega) (by omega)]; omega
  have HW := Lib.hid hW
  clear hW
  go_enter Try.func37, Try.ntmps37
  go_wp2_with fail
  refine (d_Whole n _ (by omega) (by omega)).mono ?_
  rintro e w' ⟨rfl, rfl⟩
  generalize wholeZ n = W at *
  have hw1 : IntKind.i64.wrap (W - (n : Int)) = (fillLen n : Int) := by rw [IntWalk.i64_in _ (by omega), HW.out]
  obtain ⟨i0, hi0, hz0, hz1, hz2⟩ := info_parts info_u8
  have hmk := fun wx => run_make_row' (P := Try.prog) 33 5 (.int .u8 0) 1 Try.underlying33 info_u8 rfl .i64 .i64 (fillLen n) (by omega) (by omega) wx
  have hz : (madeCells #[Value.int .u8 0] (fillLen n))[0]? = some (.int .u8 0) := by
    obtain ⟨m, hm⟩ : ∃ m, fillLen n = m + 1 := ⟨fillLen n - 1, by omega⟩
    rw [made_zer, hm]; simp [ints, zer, List.replicate_succ]
  go_wp2_with fail
  have hk : Blk (w'.alloc (.cells ((madeCells #[Value.int .u8 0] (fillLen n)).setIfInBounds 0 (.int .u8 128)) 5)) w'.heap.size 5 (ints .u8 (fillT n len 0)) := by
    refine Blk.new' _ _ _ ?_
    obtain ⟨m, hm⟩ : ∃ m, fillLen n = m + 1 := ⟨fillLen n - 1, by omega⟩
    rw [made_zer]
    unfold fillT
    rw [hm]
    simp [ints, zer, List.replicate_succ, lowB]
  have hb : Below w'.heap.size w' (w'.alloc (.cells ((madeCells #[Value.int .u8 0] (fillLen n)).setIfInBounds 0 (.int .u8 128)) 5)) := (Below.refl _ _).alloc (Nat.le_refl _) _
  generalize w'.alloc (.cells ((madeCells #[Value.int .u8 0] (fillLen n)).setIfInBounds 0 (.int .u8 128)) 5) = w2 at *
  clear hmk hz hw1
  have hft := fillT_set n len
  have Hft := Lib.hid hft
  clear hft
  go_loopw [6, 7] (fun x i wr => ∃ t : Nat, t ≤ 8 ∧ x = .int .u64 ((len * 8 / 256 ^ t : Nat) : Int) ∧ i = .int .i64 ((fillLen n : Int) - 1 - (t : Int)) ∧ Blk wr w'.heap.size 5 (ints .u8 (fillT n len t)) ∧ Below w'.heap.size w' wr) (fun x _ _ => (intOf x).toNat)
  case atStart => exact ⟨0, by omega, by simp, by simp, hk, hb⟩
  case round =>
    obtain ⟨t, ht, rfl, rfl, hk', hb'⟩ := hrel
    clear hk hb
    have hdiv : len * 8 / 256 ^ (t + 1) = len * 8 / 256 ^ t / 256 := by rw [Nat.pow_succ, Nat.div_div_eq_div_mul]
    have hx64 : len * 8 / 256 ^ t < 18446744073709551616 := Nat.lt_of_le_of_lt (Nat.div_le_self _ _) (by omega)
    by_cases h0 : len * 8 / 256 ^ t = 0
    · have hdone := fillT_done n len t ht h0
      rw [hdone] at hk'
      have g0 : (((len * 8 / 256 ^ t : Nat) : Int)) ≤ 0 := by omega
      generalize len * 8 / 256 ^ t = x at *
      clear h0 hdiv hdone
      have hrg : wr.rangeAt w'.heap.size 0 (ints .u8 (fillL n len)) := by
        have := Blk.range (x := []) (y := ints .u8 (fillL n len)) (z := []) (w := wr) (b := w'.heap.size) (t := 5) (by simpa using hk')
        simpa using this
      go_wp2_with (first | (refine wpList_bytes_string rfl 33 9 5 _ rfl w'.heap.size (fillLen n) (fillLen n) (fillL n len) rfl Try.underlying33 Try.underlying5 Try.underlying9 hrg (fillL_len n len).symm ?_))
      go_ret
      exact ⟨rfl, hb'⟩
    · have ht8 : t < 8 := by
        rcases Nat.lt_or_ge t 8 with h | h
        · exact h
        · exact absurd (pow256 t ht len hl (by omega)) h0
      have hset := Hft.out t ht8
      have hlen := fillT_len n len t ht
      have g0 : (0 : Int) < ((len * 8 / 256 ^ t : Nat) : Int) := Int.natCast_pos.2 (Nat.pos_of_ne_zero h0)
      generalize len * 8 / 256 ^ t = x at *
      clear h0
      have Hs := Lib.hid hset
      have Hd := Lib.hid hdiv
      clear hset hdiv
      have hc := hk'.int (j := fillLen n - 1 - t) (by omega)
      have hfr := hk'.free (fillLen n - 1 - t)
      have i1 : (0 : Int) ≤ (fillLen n : Int) - 1 - (t : Int) := by omega
      have i2 : ((fillLen n : Int) - 1 - (t : Int)).toNat = fillLen n - 1 - t := by omega
      have i3 : (fillLen n : Int) - 1 - (t : Int) < (fillLen n : Int) := by omega
      clear hlen
      go_wp2
      go_roundw
      case rel =>
        refine ⟨t + 1, by omega, ?_, ?_, ?_, hb'.setCell (Nat.le_refl _) _⟩
        · rw [Hd.out]; exact congrArg (Value.int .u64) (by simp)
        · exact congrArg (Value.int .i64) (by omega)
        · rw [← Hs.out]
          exact hk'.setInt _ _
      case measure => simp [intOf]; omega
end Go.Proofs.Ytbobdbdknapdcaa
