/- Walks of varint's Big and Fixed. -/
import Derived.Test.YtkpabnpdpjcmdaaVText
import Derived.Test.YtkpabnpdpjcmdaaOwnS
namespace Go.Proofs.Ytkpabnpdpjcmdaa
open Go.RowKit Go.Shelf
set_option linter.unusedVariables false

/-- the bytes of n in w, the last j of them filled in -/
def bigP (n w : Nat) : Nat → List Nat
  | 0 => zerN w
  | j + 1 => (bigP n w j).set (w - 1 - j) (n / 2 ^ (8 * j) % 256)
theorem bigP_len (n w : Nat) : ∀ j, (bigP n w j).length = w
  | 0 => by simp [bigP, zerN]
  | j + 1 => by simp [bigP, bigP_len n w j]
theorem bigP_getD (n w : Nat) : ∀ j, j ≤ w → ∀ i, i < w → w - j ≤ i → (bigP n w j).getD i 0 = n / 2 ^ (8 * (w - 1 - i)) % 256
  | 0, _, i, h, h2 => by omega
  | j + 1, hj, i, h, h2 => by
    show ((bigP n w j).set (w - 1 - j) (n / 2 ^ (8 * j) % 256)).getD i 0 = _
    rw [getD_set _ _ _ _ (by rw [bigP_len]; omega)]
    by_cases e : w - 1 - j = i
    · rw [if_pos e, show w - 1 - i = j by omega]
    · rw [if_neg e]
      exact bigP_getD n w j (by omega) i h (by omega)
theorem bigP_full (n w : Nat) : bigP n w w = bigL n w := getD_ext w (bigP_len _ _ _) (big_len _ _) fun i hi => by
  rw [bigP_getD n w w (Nat.le_refl _) i hi (by omega), big_getD _ _ _ hi]
theorem make_w (k : Nat) (h1 : 1 ≤ k) (h2 : k ≤ 8) (w : World) : (Instr.makeSlice 37 (.int .i64 (k : Int)) (.int .i64 (k : Int))).run Try.prog w = .ok (.slice (some ⟨w.heap.size, 0, none⟩) k k) (w.alloc (.cells (ints .u8 (nn (zerN k))).toArray 5)) := by
  rcases (show k = 1 ∨ k = 2 ∨ k = 3 ∨ k = 4 ∨ k = 5 ∨ k = 6 ∨ k = 7 ∨ k = 8 by omega) with rfl | rfl | rfl | rfl | rfl | rfl | rfl | rfl <;> kernel_rfl
theorem shr_byte (n j : Nat) : (n : Int) / 2 ^ (8 * j) % 256 = ((n / 2 ^ (8 * j) % 256 : Nat) : Int) := by simp

set_option maxRecDepth 100000 in
set_option maxHeartbeats 1000000 in
theorem v_Big (n k : Nat) (w : World) (h1 : 1 ≤ k) (h2 : k ≤ 8) (hn : n < 18446744073709551616) :
    Calls Try.prog 19 #[.int .u64 (n : Int), .int .i64 (k : Int)] w fun e w' => e = .returned (.string (tx (bigL n k))) ∧ Below w.heap.size w w' := by
  have hW := fun w => v_width_yes k w h1 h2
  have HW := Lib.hid hW
  have hmk := make_w k h1 h2
  have hfull := bigP_full n k
  obtain ⟨L, hL⟩ : ∃ L, bigL n k = L := ⟨_, rfl⟩
  rw [hL] at hfull ⊢
  have HF := Lib.hid hfull
  have k8 : (k : Int) ≤ 8 := by omega
  have k1 : (1 : Int) ≤ (k : Int) := by omega
  clear hW hfull hL
  have q0 : Blk (w.alloc (.cells (ints .u8 (nn (zerN k))).toArray 5)) w.heap.size 5 (ints .u8 (nn (bigP n k 0))) := Blk.new' _ _ _ rfl
  have qb : Below w.heap.size w (w.alloc (.cells (ints .u8 (nn (zerN k))).toArray 5)) := (Below.refl _ _).alloc (Nat.le_refl _) _
  go_enter Try.func19, Try.ntmps19
  go_wp2_with (go_at_call 22; (with_reducible refine (HW.out _).mono ?_); rintro e w1 ⟨rfl, rfl⟩)
  clear hmk
  generalize World.alloc w _ = w3 at *
  go_loopw [14] (fun i wr => ∃ j : Nat, j ≤ k ∧ i = .int .i64 (j : Int) ∧ Blk wr w.heap.size 5 (ints .u8 (nn (bigP n k j))) ∧ Below w.heap.size w wr) (fun i _ => k - (intOf i).toNat)
  case atStart => exact ⟨0, by omega, rfl, q0, qb⟩
  case round =>
    obtain ⟨j, hj, rfl, g0, gb⟩ := hrel
    clear q0 qb
    have hl := bigP_len n k j
    by_cases hlt : j < k
    · have hs : bigP n k (j + 1) = (bigP n k j).set (k - 1 - j) (n / 2 ^ (8 * j) % 256) := rfl
      have hset := g0.setNat (k - 1 - j) (n / 2 ^ (8 * j) % 256)
      rw [← hs] at hset
      have hsb := gb.setCell (p := ⟨w.heap.size, k - 1 - j, none⟩) (Nat.le_refl _) (.int .u8 ((n / 2 ^ (8 * j) % 256 : Nat) : Int))
      have c0 := g0.nat (j := k - 1 - j) (by rw [hl]; omega)
      have f0 := g0.free (k - 1 - j)
      have i1 : (8 * (j : Int)).toNat = 8 * j := by omega
      have i2 : (0 : Int) ≤ 8 * (j : Int) := by omega
      have i3 : 8 * (j : Int) < 100 := by omega
      have i4 : (0 : Int) ≤ (k : Int) - 1 - (j : Int) := by omega
      have i5 : ((k : Int) - 1 - (j : Int)).toNat = k - 1 - j := by omega
      have i6 : (k : Int) - 1 - (j : Int) < (k : Int) := by omega
      have d1 : (j : Int) < (k : Int) := by omega
      have d2 : (j : Int) < 8 := by omega
      have hv := shr_byte n j
      have HS := Lib.hid hset
      have HB := Lib.hid hsb
      clear hs hset hsb hl
      generalize n / 2 ^ (8 * j) % 256 = y at *
      generalize (bigP n k j).getD (k - 1 - j) 0 = y0 at *
      go_wp2
      go_roundw
      case rel => exact ⟨j + 1, by omega, by go_num, HS.out, HB.out⟩
      case measure => simp [intOf]; omega
    · obtain rfl : j = k := by omega
      rw [HF.out] at g0
      rw [HF.out] at hl
      have HL := Lib.hid hl
      clear hl
      go_wp2_with (refine wpList_bytes_string rfl 37 9 5 _ rfl w.heap.size j j (nn L) rfl Try.underlying37 Try.underlying5 Try.underlying9 g0.whole (by rw [nn_length, HL.out]) ?_)
      go_ret
      exact ⟨rfl, gb⟩
theorem v_Big_no (n : Int) (k : Int) (w : World) (h : k < 1 ∨ 8 < k) :
    Calls Try.prog 19 #[.int .u64 n, .int .i64 k] w fun e w' => e = .returned (.string ⟨#[]⟩) ∧ Below w.heap.size w w' := by
  have hW := fun w => v_width_no k w h
  have HW := Lib.hid hW
  clear hW h
  go_enter Try.func19, Try.ntmps19
  go_wp2_with (go_at_call 22; (with_reducible refine (HW.out _).mono ?_); rintro e w1 ⟨rfl, rfl⟩)
  go_ret
  exact ⟨rfl, Below.refl _ _⟩
theorem v_Fixed_no (s : ByteArray) (k : Int) (w : World) (h : k < 1 ∨ 8 < k) :
    Calls Try.prog 13 #[.string s, .int .i64 k] w fun e w' => e = .returned (.tuple #[.int .u64 0, .string ⟨#[]⟩, .int .i64 1]) ∧ Below w.heap.size w w' := by
  have hW := fun w => v_width_no k w h
  have HW := Lib.hid hW
  clear hW h
  go_enter Try.func13, Try.ntmps13
  go_wp2_with (go_at_call 22; (with_reducible refine (HW.out _).mono ?_); rintro e w1 ⟨rfl, rfl⟩)
  go_ret3
  exact ⟨rfl, Below.refl _ _⟩
end Go.Proofs.Ytkpabnpdpjcmdaa
