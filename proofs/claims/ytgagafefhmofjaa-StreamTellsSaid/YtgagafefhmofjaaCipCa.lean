/- Walk of the reference's Times. -/
import Derived.Test.YtgagafefhmofjaaCipB
namespace Go.Proofs.Ytgagafefhmofjaa
open Go.RowKit
set_option linter.unusedVariables false

/-- doubled so many times -/
def dblN (a : Nat) : Nat → Nat
  | 0 => a
  | k + 1 => dbl (dblN a k)
theorem dblN_lt {a : Nat} (ha : a < 256) : ∀ k, dblN a k < 256
  | 0 => ha
  | k + 1 => dbl_lt (dblN_lt ha k)
theorem dblN_dbl (a : Nat) : ∀ k, dblN (dbl a) k = dblN a (k + 1)
  | 0 => rfl
  | k + 1 => by show dbl (dblN (dbl a) k) = dbl (dblN a (k + 1)); rw [dblN_dbl a k]
/-- the first i parts of the product -/
def part (a b : Nat) : Nat → Nat
  | 0 => 0
  | i + 1 => if b / 2 ^ i % 2 = 1 then part a b i ^^^ dblN a i else part a b i
theorem part_lt {a : Nat} (ha : a < 256) (b : Nat) : ∀ i, part a b i < 256
  | 0 => by simp [part]
  | i + 1 => by
    unfold part
    split
    · exact xor_lt (part_lt ha b i) (dblN_lt ha i)
    · exact part_lt ha b i
theorem part_succ (a b : Nat) : ∀ i, part a b (i + 1) = (if b % 2 = 1 then a else 0) ^^^ part (dbl a) (b / 2) i
  | 0 => by simp [part, dblN]
  | i + 1 => by
    have ih := part_succ a b i
    have e : b / 2 / 2 ^ i = b / 2 ^ (i + 1) := by rw [Nat.div_div_eq_div_mul, Nat.pow_succ, Nat.mul_comm]
    show (if b / 2 ^ (i + 1) % 2 = 1 then part a b (i + 1) ^^^ dblN a (i + 1) else part a b (i + 1)) = _ ^^^ (if b / 2 / 2 ^ i % 2 = 1 then part (dbl a) (b / 2) i ^^^ dblN (dbl a) i else part (dbl a) (b / 2) i)
    rw [e, ih, dblN_dbl]
    split
    · rw [Nat.xor_assoc]
    · rfl
theorem part_tim : ∀ i a b, part a b i = tim i a b
  | 0, _, _ => rfl
  | i + 1, a, b => by rw [part_succ, part_tim i]; rfl

theorem shr_and1 (b i : Nat) (hb : b < 256) : bits .and .u8 ((b : Int) / 2 ^ i) 1 = ((b / 2 ^ i % 2 : Nat) : Int) := by
  have h := and1_byte (b / 2 ^ i) (Nat.lt_of_le_of_lt (Nat.div_le_self _ _) hb)
  rw [show ((b / 2 ^ i : Nat) : Int) = (b : Int) / 2 ^ i by simp] at h
  exact h
set_option maxHeartbeats 1000000 in
set_option maxRecDepth 100000 in
theorem r_Times (a b : Nat) (w : World) (ha : a < 256) (hb : b < 256) :
    Calls Try.prog 15 #[.int .u8 (a : Int), .int .u8 (b : Int)] w fun e w' => e = .returned (.int .u8 (mul a b : Nat)) ∧ w = w' := by
  have hmul : mul a b = part a b 8 := (part_tim 8 a b).symm
  have HM := Lib.hid hmul
  clear hmul
  go_enter Try.func15, Try.ntmps15
  go_wp2
  go_loop [5, 6, 7, 8] (fun p i _ _ => ∃ k : Nat, k ≤ 8 ∧ i = .int .i64 k ∧ p = .int .u8 ((part a b k : Nat) : Int)) (fun _ i _ _ => 8 - (intOf i).toNat)
  case atStart => exact ⟨0, by omega, rfl, rfl⟩
  case round =>
    obtain ⟨k, hk, rfl, rfl⟩ := hrel
    by_cases hlt : k < 8
    · have h1 := shr_and1 b k hb
      have hk8 : (k : Int) < 8 := by omega
      have hstep : part a b (k + 1) = if b / 2 ^ k % 2 = 1 then part a b k ^^^ dblN a k else part a b k := rfl
      have hp := part_lt ha b k
      have hd := dblN_lt ha k
      have hx := xor_byte (part a b k) (dblN a k) hp hd
      by_cases hodd : b / 2 ^ k % 2 = 1
      · rw [if_pos hodd] at hstep
        rw [hodd] at h1
        have Hs := Lib.hid hstep
        clear hstep hodd
        generalize part a b k = q at *
        go_wp2
        obtain ⟨wo, rfl⟩ : ∃ wo : World, wo = w := ⟨_, rfl⟩
        go_loop [7, 8] (fun x j => ∃ m : Nat, m ≤ k ∧ j = .int .i64 m ∧ x = .int .u8 ((dblN a m : Nat) : Int)) (fun _ j => k - (intOf j).toNat)
        case atStart => exact ⟨0, by omega, rfl, rfl⟩
        case round =>
          obtain ⟨m, hm, rfl, rfl⟩ := hrel
          by_cases hmk : m < k
          · have hdm := dblN_lt ha m
            have hsucc : dblN a (m + 1) = dbl (dblN a m) := rfl
            by_cases h128 : dblN a m < 128
            · have hv : dbl (dblN a m) = dblN a m * 2 := by unfold dbl; rw [if_pos h128]
              rw [hv] at hsucc
              have Hv := Lib.hid hsucc
              clear hv hsucc
              generalize dblN a m = y at *
              have hy : (y : Int) < 128 := by omega
              have hy0 : (y : Int) * 2 < 256 := by omega
              go_wp2
              go_round
              case rel => exact ⟨m + 1, by omega, by go_num, by rw [Hv.out]; go_num⟩
              case measure => simp [intOf]; omega
            · have hv : ((dbl (dblN a m) : Nat) : Int) = bits .xor .u8 (((dblN a m : Nat) : Int) * 2 % 256) 27 := by
                unfold dbl; rw [if_neg h128, ← xor_byte _ _ (by omega) (by omega)]; rfl
              rw [← hsucc] at hv
              have Hv := Lib.hid hv
              clear hv hsucc
              generalize dblN a m = y at *
              have hy : 128 ≤ (y : Int) := by omega
              go_wp2
              go_round
              case rel => exact ⟨m + 1, by omega, by go_num, by rw [Hv.out]⟩
              case measure => simp [intOf]; omega
          · obtain rfl : m = k := by omega
            go_wp2
            go_round
            case rel => exact ⟨m + 1, by omega, by go_num, by rw [Hs.out]⟩
            case measure => simp [intOf]; omega
      · rw [if_neg hodd] at hstep
        have he : b / 2 ^ k % 2 = 0 := by omega
        rw [he] at h1
        have Hs := Lib.hid hstep
        clear hstep hodd he
        generalize part a b k = q at *
        go_wp2
        go_round
        case rel => exact ⟨k + 1, by omega, by go_num, by rw [Hs.out]⟩
        case measure => simp [intOf]; omega
    · obtain rfl : k = 8 := by omega
      rw [← HM.out]
      go_wp2
      go_ret
      exact ⟨rfl, rfl⟩

end Go.Proofs.Ytgagafefhmofjaa
