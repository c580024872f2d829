/- Walks of cipher's double, Times, and of the reference's Times. -/
import Derived.Test.YtgagafefhmofjaaRows
import Derived.Test.YtgagafefhmofjaaBlk
import Derived.Test.YtgagafefhmofjaaGf
import Derived.Lib.Hide
import Derived.StillTailTactics
import Derived.WalkSpells
namespace Go.Proofs.Ytgagafefhmofjaa
open Go.RowKit
set_option linter.unusedVariables false

theorem xor_byte (a b : Nat) (ha : a < 256) (hb : b < 256) : bits .xor .u8 (a : Int) (b : Int) = ((a ^^^ b : Nat) : Int) := by
  have h := xor_lt ha hb
  have ha' : a % 2 ^ IntKind.u8.bits = a := Nat.mod_eq_of_lt ha
  have hb' : b % 2 ^ IntKind.u8.bits = b := Nat.mod_eq_of_lt hb
  simp only [bits, BitVec.ofInt_natCast, BitVec.toNat_xor, BitVec.toNat_ofNat, ha', hb']
  exact wraps_u8 _ (by omega) (by omega)
theorem and1_byte (a : Nat) (ha : a < 256) : bits .and .u8 (a : Int) 1 = ((a % 2 : Nat) : Int) := by
  have h := (bits_nat .u8 8 (by decide) wraps_u8 a 1 (by omega) (by omega)).1
  rw [show ((1 : Nat) : Int) = 1 by rfl] at h
  rw [h, Nat.and_one_is_mod]

set_option maxHeartbeats 400000 in
set_option maxRecDepth 100000 in
theorem c_double (a : Nat) (w : World) (ha : a < 256) :
    Calls Try.prog 36 #[.int .u8 (a : Int)] w fun e w' => e = .returned (.int .u8 (dbl a : Nat)) ∧ w = w' := by
  by_cases h : a < 128
  · have hd : dbl a = a * 2 := by unfold dbl; rw [if_pos h]
    have H := Lib.hid hd
    clear hd
    go_enter Try.func36, Try.ntmps36
    go_wp2
    go_ret
    refine ⟨?_, rfl⟩
    rw [H.out]
    congr 2
  · have hd : ((dbl a : Nat) : Int) = bits .xor .u8 ((a : Int) * 2 % 256) 27 := by
      unfold dbl; rw [if_neg h, ← xor_byte _ _ (by omega) (by omega)]; rfl
    have H := Lib.hid hd
    clear hd
    go_enter Try.func36, Try.ntmps36
    go_wp2
    go_ret
    refine ⟨?_, rfl⟩
    rw [H.out]
    rfl

theorem tim_zero : ∀ f a, tim f a 0 = 0
  | 0, _ => rfl
  | f + 1, a => by simp [tim, tim_zero f]
set_option maxHeartbeats 1000000 in
set_option maxRecDepth 100000 in
theorem c_Times (a b : Nat) (w : World) (ha : a < 256) (hb : b < 256) :
    Calls Try.prog 14 #[.int .u8 (a : Int), .int .u8 (b : Int)] w fun e w' => e = .returned (.int .u8 (mul a b : Nat)) ∧ w = w' := by
  go_enter Try.func14, Try.ntmps14
  go_wp2
  go_loop [0, 1, 5] (fun x y p => ∃ (f c d q : Nat), c < 256 ∧ d < 2 ^ f ∧ f ≤ 8 ∧ q < 256 ∧ x = .int .u8 (c : Int) ∧ y = .int .u8 (d : Int) ∧ p = .int .u8 (q : Int) ∧ q ^^^ tim f c d = mul a b) (fun _ y _ => (intOf y).toNat)
  case atStart => exact ⟨8, a, b, 0, ha, by omega, by omega, by omega, rfl, rfl, rfl, by simp [mul]⟩
  case round =>
    obtain ⟨f, c, d, q, hc, hd, hf, hq, rfl, rfl, rfl, hs⟩ := hrel
    have hd8 : d < 256 := Nat.lt_of_lt_of_le hd (Nat.pow_le_pow_right (n := 2) (j := 8) (by omega) hf)
    by_cases h0 : d = 0
    · have hs' : q = mul a b := by rw [← hs, h0, tim_zero, Nat.xor_zero]
      have HS := Lib.hid hs'
      have hle : (d : Int) ≤ 0 := by omega
      clear hs hs' hd h0
      go_wp2
      go_ret
      exact ⟨by rw [← HS.out]; rfl, rfl⟩
    · obtain ⟨g, rfl⟩ : ∃ g, f = g + 1 := by
        cases f with
        | zero => simp at hd; omega
        | succ g => exact ⟨g, rfl⟩
      have hd2 : d / 2 < 2 ^ g := by rw [Nat.pow_succ] at hd; omega
      have h1 := and1_byte d hd8
      have hpos : (0 : Int) < (d : Int) := by omega
      have hlt := dbl_lt hc
      have HD := Lib.hid hd2
      clear hd hd2
      by_cases hodd : d % 2 = 1
      · have hs' : (q ^^^ c) ^^^ tim g (dbl c) (d / 2) = mul a b := by
          rw [← hs, Nat.xor_assoc]; simp [tim, hodd]
        have hx := xor_byte q c hq hc
        have hxl := xor_lt hq hc
        rw [hodd] at h1
        have HS := Lib.hid hs'
        clear hs hs' hodd
        go_wp2_with (go_at_call 36; refine (c_double _ _ hc).mono ?_; rintro e w' ⟨rfl, rfl⟩)
        go_round
        case rel => exact ⟨g, dbl c, d / 2, q ^^^ c, hlt, HD.out, by omega, hxl, rfl, by go_num, by first | rw [hx] | rfl, HS.out⟩
        case measure => simp [intOf]; omega
      · have hs' : q ^^^ tim g (dbl c) (d / 2) = mul a b := by
          rw [← hs]; simp [tim, hodd]
        have he : d % 2 = 0 := by omega
        rw [he] at h1
        have HS := Lib.hid hs'
        clear hs hs' hodd he
        go_wp2_with (go_at_call 36; refine (c_double _ _ hc).mono ?_; rintro e w' ⟨rfl, rfl⟩)
        go_round
        case rel => exact ⟨g, dbl c, d / 2, q, hlt, HD.out, by omega, hq, rfl, by go_num, rfl, HS.out⟩
        case measure => simp [intOf]; omega
end Go.Proofs.Ytgagafefhmofjaa
