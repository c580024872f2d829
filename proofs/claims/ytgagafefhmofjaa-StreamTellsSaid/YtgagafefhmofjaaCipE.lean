/- Walks of cipher's word, finder, each, and of RotateLeft32. -/
import Derived.Test.YtgagafefhmofjaaCipB
import Derived.Test.YtgagafefhmofjaaWord
namespace Go.Proofs.Ytgagafefhmofjaa
open Go.RowKit
set_option linter.unusedVariables false

theorem wraps_u32 (n : Int) (h0 : 0 ≤ n) (h1 : n < 2 ^ 32) : IntKind.u32.wrap n = n := by rw [IntKind.wrap_u32]; omega
theorem or_word (a b : Nat) (ha : a < 4294967296) (hb : b < 4294967296) : bits .or .u32 (a : Int) (b : Int) = ((a ||| b : Nat) : Int) :=
  (bits_nat .u32 32 (by decide) wraps_u32 a b ha hb).2
theorem xor_word (a b : Nat) (ha : a < 4294967296) (hb : b < 4294967296) : bits .xor .u32 (a : Int) (b : Int) = ((a ^^^ b : Nat) : Int) := by
  have h : a ^^^ b < 2 ^ 32 := Nat.xor_lt_two_pow ha hb
  have ha' : a % 2 ^ IntKind.u32.bits = a := Nat.mod_eq_of_lt ha
  have hb' : b % 2 ^ IntKind.u32.bits = b := Nat.mod_eq_of_lt hb
  simp only [bits, BitVec.ofInt_natCast, BitVec.toNat_xor, BitVec.toNat_ofNat, ha', hb']
  exact wraps_u32 _ (by omega) (by omega)
theorem or_shift (E y i : Nat) (hE : E < 2 ^ i) (hy : y < 256) (hi : i ≤ 24) : bits .or .u32 (E : Int) ((y : Int) * 2 ^ i % 4294967296) = ((E + y * 2 ^ i : Nat) : Int) := by
  have h1 : 2 ^ i ≤ 2 ^ 24 := Nat.pow_le_pow_right (by omega) hi
  have h2 : y * 2 ^ i ≤ 255 * 2 ^ 24 := Nat.mul_le_mul (by omega) h1
  have h3 : E + y * 2 ^ i < 4294967296 := by omega
  have e : ((y * 2 ^ i : Nat) : Int) = (y : Int) * 2 ^ i := by simp
  rw [← e, show ((y * 2 ^ i : Nat) : Int) % 4294967296 = ((y * 2 ^ i : Nat) : Int) by omega, or_word _ _ (by omega) (by omega), or_add _ _ _ hE]
theorem shift_or (W x : Nat) (hW : W < 16777216) (hx : x < 256) : bits .or .u32 ((W : Int) * 256 % 4294967296) (x : Int) = ((W * 256 + x : Nat) : Int) := by
  rw [show (W : Int) * 256 % 4294967296 = ((W * 256 : Nat) : Int) by omega, or_word _ _ (by omega) (by omega), Nat.or_comm, Nat.add_comm]
  exact congrArg _ (or_add x W 8 hx)
/-- a cut of an array -/
theorem run_sliceAt_cut {P : Program} (w : World) (t e : TypeId) (n b lo hi : Nat) (x y : Int) (hu : P.underlying t = some (.array n e)) (hs : (P.info? e).map (·.size) = some 1) (hx : x = (lo : Int)) (hy : y = (hi : Int)) (h1 : lo ≤ hi) (h2 : hi ≤ n) (h3 : lo < n) :
    (Instr.sliceAt t (.pointer (some ⟨b, 0, none⟩)) (some (.int .i64 x)) (some (.int .i64 y)) none).run P w = .ok (.slice (some ⟨b, lo, none⟩) (hi - lo) (n - lo)) w := by
  subst hx hy
  have e1 : P.arrayLen t = n := by simp [Program.arrayLen, hu]
  have e2 : P.elem t = e := by simp [Program.elem, hu]
  have hu' : P.underlying t = some (.array (P.arrayLen t) (P.elem t)) := by rw [e1, e2]; exact hu
  rw [run_sliceAt_array_lh w t _ hu' _ _ _ _ (by omega) (by omega) (by omega), e1, e2]
  cases hin : P.info? e with
  | none => simp [hin] at hs
  | some i0 =>
    have hsz : i0.size = 1 := by simpa [hin] using hs
    have hne : ¬ (n = lo) := by omega
    rcases Nat.eq_zero_or_pos lo with rfl | hp
    · simp [sizeOf, typeInfo, hin, hsz, slicedAt, Addr.add]
    · have h0 : lo ≠ 0 := by omega
      simp [sizeOf, typeInfo, hin, hsz, slicedAt, Addr.add, hne, h0]
theorem size_u32 : (Try.prog.info? 24).map (·.size) = some 1 := by kernel_rfl

set_option maxHeartbeats 1000000 in
set_option maxRecDepth 100000 in
theorem c_word (b off cap : Nat) (l : List Nat) (w : World) (hl : Bys l) (hc : ∀ j, j < 4 → w.cell? ⟨b, off + j, none⟩ = some (.int .u8 ((l.getD j 0 : Nat) : Int))) :
    Calls Try.prog 24 #[.slice (some ⟨b, off, none⟩) 4 cap] w fun e w' => e = .returned (.int .u32 ((wpre l 4 : Nat) : Int)) ∧ w = w' := by
  have HC := Lib.hid hc
  clear hc
  go_enter Try.func24, Try.ntmps24
  go_wp2
  go_loop [3, 5, 8] (fun v _ i => ∃ k : Nat, k ≤ 4 ∧ i = .int .i64 k ∧ v = .int .u32 ((wpre l k : Nat) : Int)) (fun _ _ i => 4 - (intOf i).toNat)
  case atStart => exact ⟨0, by omega, rfl, rfl⟩
  case round =>
    obtain ⟨k, hk, rfl, rfl⟩ := hrel
    by_cases hlt : k < 4
    · have hcell := HC.out k hlt
      have hb := hl k
      have hs : wpre l (k + 1) = wpre l k * 256 + l.getD k 0 := rfl
      have hW : wpre l k < 16777216 := Nat.lt_of_lt_of_le (wpre_lt hl k) (Nat.pow_le_pow_right (n := 256) (j := 3) (by omega) (by omega))
      have Hs := Lib.hid hs
      clear hs
      generalize wpre l k = W at *
      generalize l.getD k 0 = x at *
      have hx := shift_or W x hW hb
      have hk4 : (k : Int) < 4 := by omega
      clear hW
      go_wp2
      go_round
      case rel => exact ⟨k + 1, by omega, by go_num, by rw [Hs.out]; simp⟩
      case measure => simp [intOf]; omega
    · obtain rfl : k = 4 := by omega
      go_wp2
      go_ret
      exact ⟨rfl, rfl⟩

set_option maxHeartbeats 1000000 in
set_option maxRecDepth 100000 in
theorem c_finder (w : World) :
    Calls Try.prog 25 #[.agg (ints .u8 (nn boxT)).toArray] w fun e w' => e = .returned (.func (.func 38) #[] #[.pointer (some ⟨w.heap.size, 0, none⟩)]) ∧ w' = w.alloc (.cells (ints .u8 (nn boxT)).toArray 55) := by
  generalize (ints .u8 (nn boxT)).toArray = V
  go_enter Try.func25, Try.ntmps25
  go_wp2
  go_ret
  exact ⟨rfl, rfl⟩

set_option maxHeartbeats 1000000 in
set_option maxRecDepth 100000 in
theorem c_look (b x : Nat) (w : World) (hb : Blk w b 55 (ints .u8 (nn boxT))) (hx : x < 256) :
    Calls Try.prog 38 #[.int .u8 (x : Int), .pointer (some ⟨b, 0, none⟩)] w fun e w' => e = .returned (.int .u8 (boxG x : Nat)) ∧ w = w' := by
  have hc := hb.nat (j := x) (by rw [boxT_len]; exact hx)
  rw [show boxT.getD x 0 = boxG x from rfl] at hc
  generalize boxG x = y at *
  have hxi : (x : Int) < 256 := by omega
  go_enter Try.func38, Try.ntmps38
  go_wp2
  go_ret
  exact ⟨rfl, rfl⟩
theorem c_twice (x : Nat) (w : World) (hx : x < 256) :
    Calls Try.prog 43 #[.int .u8 (x : Int)] w fun e w' => e = .returned (.int .u8 (mul x 2 : Nat)) ∧ w = w' := by
  go_enter Try.func43, Try.ntmps43
  go_wp2_with (go_at_call 14; refine (c_Times x 2 _ hx (by omega)).mono ?_; rintro e w' ⟨rfl, rfl⟩)
  go_ret
  exact ⟨rfl, rfl⟩
theorem c_thrice (x : Nat) (w : World) (hx : x < 256) :
    Calls Try.prog 44 #[.int .u8 (x : Int)] w fun e w' => e = .returned (.int .u8 (mul x 3 : Nat)) ∧ w = w' := by
  go_enter Try.func44, Try.ntmps44
  go_wp2_with (go_at_call 14; refine (c_Times x 3 _ hx (by omega)).mono ?_; rintro e w' ⟨rfl, rfl⟩)
  go_ret
  exact ⟨rfl, rfl⟩
theorem pow_cast (i : Nat) : ((2 ^ i : Nat) : Int) = 2 ^ i := by simp

set_option maxHeartbeats 1000000 in
set_option maxRecDepth 100000 in
theorem c_each_look (b wd : Nat) (w : World) (hb : Blk w b 55 (ints .u8 (nn boxT))) (hwd : wd < 4294967296) :
    Calls Try.prog 27 #[.int .u32 (wd : Int), .func (.func 38) #[] #[.pointer (some ⟨b, 0, none⟩)]] w fun e w' => e = .returned (.int .u32 ((eachN boxG wd : Nat) : Int)) ∧ w = w' := by
  have hdo : ∀ x : Nat, x < 256 → Calls Try.prog 38 #[.int .u8 (x : Int), .pointer (some ⟨b, 0, none⟩)] w fun e w' => e = .returned (.int .u8 ((boxG x : Nat) : Int)) ∧ w = w' := fun x hx => c_look b x w hb hx
  have hf : Byf boxG := boxG_byte
  have hE : eachN boxG wd = eachP boxG wd 4 := rfl
  have HD := Lib.hid hdo
  have HE := Lib.hid hE
  clear hdo hE hb
  generalize boxG = f at *
  go_enter Try.func27, Try.ntmps27
  go_wp2
  go_loop [5, 6] (fun v i => ∃ k : Nat, k ≤ 4 ∧ i = .int .i64 (8 * (k : Int)) ∧ v = .int .u32 ((eachP f wd k : Nat) : Int)) (fun _ i => 32 - (intOf i).toNat)
  case atStart => exact ⟨0, by omega, rfl, rfl⟩
  case round =>
    obtain ⟨k, hk, rfl, rfl⟩ := hrel
    by_cases hlt : k < 4
    · have hs : eachP f wd (k + 1) = eachP f wd k + f (wd / 2 ^ (8 * k) % 256) * 2 ^ (8 * k) := rfl
      have hb : wd / 2 ^ (8 * k) % 256 < 256 := Nat.mod_lt _ (by omega)
      have hx := or_shift (eachP f wd k) (f (wd / 2 ^ (8 * k) % 256)) (8 * k) (eachP_lt hf wd k) (hf _ hb) (by omega)
      have hfb := hf _ hb
      have hD := HD.out _ hb
      have e1 : (wd : Int) / 2 ^ (8 * k) % 256 = ((wd / 2 ^ (8 * k) % 256 : Nat) : Int) := by rw [Int.natCast_emod, Int.natCast_ediv, pow_cast]; rfl
      have e2 : (8 * (k : Int)).toNat = 8 * k := by omega
      have e3 : (0 : Int) ≤ 8 * (k : Int) := by omega
      have e4 : 8 * (k : Int) < 32 := by omega
      have Hs := Lib.hid hs
      have H1 := Lib.hid hD
      clear hs hD
      generalize eachP f wd k = E at *
      generalize f (wd / 2 ^ (8 * k) % 256) = y at *
      generalize wd / 2 ^ (8 * k) % 256 = x at *
      go_wp2_with (go_at_call 38; (with_reducible refine H1.out.mono ?_); rintro e w' ⟨rfl, rfl⟩)
      go_round
      case rel => exact ⟨k + 1, by omega, by go_num, by rw [Hs.out]; simp⟩
      case measure => simp [intOf]; omega
    · obtain rfl : k = 4 := by omega
      go_wp2
      go_ret
      exact ⟨by rw [HE.out]; rfl, rfl⟩

set_option maxHeartbeats 1000000 in
set_option maxRecDepth 100000 in
theorem c_each_two ( wd : Nat) (w : World)  (hwd : wd < 4294967296) :
    Calls Try.prog 27 #[.int .u32 (wd : Int), .func (.func 43) #[] #[]] w fun e w' => e = .returned (.int .u32 ((eachN (fun x => mul x 2) wd : Nat) : Int)) ∧ w = w' := by
  have hdo : ∀ x : Nat, x < 256 → Calls Try.prog 43 #[.int .u8 (x : Int)] w fun e w' => e = .returned (.int .u8 (((fun x => mul x 2) x : Nat) : Int)) ∧ w = w' := fun x hx => c_twice x w hx
  have hf : Byf (fun x => mul x 2) := mul_byte 2
  have hE : eachN (fun x => mul x 2) wd = eachP (fun x => mul x 2) wd 4 := rfl
  have HD := Lib.hid hdo
  have HE := Lib.hid hE
  clear hdo hE 
  generalize (fun x => mul x 2) = f at *
  go_enter Try.func27, Try.ntmps27
  go_wp2
  go_loop [5, 6] (fun v i => ∃ k : Nat, k ≤ 4 ∧ i = .int .i64 (8 * (k : Int)) ∧ v = .int .u32 ((eachP f wd k : Nat) : Int)) (fun _ i => 32 - (intOf i).toNat)
  case atStart => exact ⟨0, by omega, rfl, rfl⟩
  case round =>
    obtain ⟨k, hk, rfl, rfl⟩ := hrel
    by_cases hlt : k < 4
    · have hs : eachP f wd (k + 1) = eachP f wd k + f (wd / 2 ^ (8 * k) % 256) * 2 ^ (8 * k) := rfl
      have hb : wd / 2 ^ (8 * k) % 256 < 256 := Nat.mod_lt _ (by omega)
      have hx := or_shift (eachP f wd k) (f (wd / 2 ^ (8 * k) % 256)) (8 * k) (eachP_lt hf wd k) (hf _ hb) (by omega)
      have hfb := hf _ hb
      have hD := HD.out _ hb
      have e1 : (wd : Int) / 2 ^ (8 * k) % 256 = ((wd / 2 ^ (8 * k) % 256 : Nat) : Int) := by rw [Int.natCast_emod, Int.natCast_ediv, pow_cast]; rfl
      have e2 : (8 * (k : Int)).toNat = 8 * k := by omega
      have e3 : (0 : Int) ≤ 8 * (k : Int) := by omega
      have e4 : 8 * (k : Int) < 32 := by omega
      have Hs := Lib.hid hs
      have H1 := Lib.hid hD
      clear hs hD
      generalize eachP f wd k = E at *
      generalize f (wd / 2 ^ (8 * k) % 256) = y at *
      generalize wd / 2 ^ (8 * k) % 256 = x at *
      go_wp2_with (go_at_call 43; (with_reducible refine H1.out.mono ?_); rintro e w' ⟨rfl, rfl⟩)
      go_round
      case rel => exact ⟨k + 1, by omega, by go_num, by rw [Hs.out]; simp⟩
      case measure => simp [intOf]; omega
    · obtain rfl : k = 4 := by omega
      go_wp2
      go_ret
      exact ⟨by rw [HE.out]; rfl, rfl⟩

set_option maxHeartbeats 1000000 in
set_option maxRecDepth 100000 in
theorem c_each_three ( wd : Nat) (w : World)  (hwd : wd < 4294967296) :
    Calls Try.prog 27 #[.int .u32 (wd : Int), .func (.func 44) #[] #[]] w fun e w' => e = .returned (.int .u32 ((eachN (fun x => mul x 3) wd : Nat) : Int)) ∧ w = w' := by
  have hdo : ∀ x : Nat, x < 256 → Calls Try.prog 44 #[.int .u8 (x : Int)] w fun e w' => e = .returned (.int .u8 (((fun x => mul x 3) x : Nat) : Int)) ∧ w = w' := fun x hx => c_thrice x w hx
  have hf : Byf (fun x => mul x 3) := mul_byte 3
  have hE : eachN (fun x => mul x 3) wd = eachP (fun x => mul x 3) wd 4 := rfl
  have HD := Lib.hid hdo
  have HE := Lib.hid hE
  clear hdo hE 
  generalize (fun x => mul x 3) = f at *
  go_enter Try.func27, Try.ntmps27
  go_wp2
  go_loop [5, 6] (fun v i => ∃ k : Nat, k ≤ 4 ∧ i = .int .i64 (8 * (k : Int)) ∧ v = .int .u32 ((eachP f wd k : Nat) : Int)) (fun _ i => 32 - (intOf i).toNat)
  case atStart => exact ⟨0, by omega, rfl, rfl⟩
  case round =>
    obtain ⟨k, hk, rfl, rfl⟩ := hrel
    by_cases hlt : k < 4
    · have hs : eachP f wd (k + 1) = eachP f wd k + f (wd / 2 ^ (8 * k) % 256) * 2 ^ (8 * k) := rfl
      have hb : wd / 2 ^ (8 * k) % 256 < 256 := Nat.mod_lt _ (by omega)
      have hx := or_shift (eachP f wd k) (f (wd / 2 ^ (8 * k) % 256)) (8 * k) (eachP_lt hf wd k) (hf _ hb) (by omega)
      have hfb := hf _ hb
      have hD := HD.out _ hb
      have e1 : (wd : Int) / 2 ^ (8 * k) % 256 = ((wd / 2 ^ (8 * k) % 256 : Nat) : Int) := by rw [Int.natCast_emod, Int.natCast_ediv, pow_cast]; rfl
      have e2 : (8 * (k : Int)).toNat = 8 * k := by omega
      have e3 : (0 : Int) ≤ 8 * (k : Int) := by omega
      have e4 : 8 * (k : Int) < 32 := by omega
      have Hs := Lib.hid hs
      have H1 := Lib.hid hD
      clear hs hD
      generalize eachP f wd k = E at *
      generalize f (wd / 2 ^ (8 * k) % 256) = y at *
      generalize wd / 2 ^ (8 * k) % 256 = x at *
      go_wp2_with (go_at_call 44; (with_reducible refine H1.out.mono ?_); rintro e w' ⟨rfl, rfl⟩)
      go_round
      case rel => exact ⟨k + 1, by omega, by go_num, by rw [Hs.out]; simp⟩
      case measure => simp [intOf]; omega
    · obtain rfl : k = 4 := by omega
      go_wp2
      go_ret
      exact ⟨by rw [HE.out]; rfl, rfl⟩

theorem and31 (k : Nat) (h : k ≤ 31) : bits .and .u64 (k : Int) 31 = (k : Int) := by
  have h' : ∀ m : Fin 32, bits .and .u64 (m.val : Int) 31 = (m.val : Int) := by decide
  exact h' ⟨k, by omega⟩
theorem rotl32_bits (a k : Nat) (ha : a < 4294967296) : ((rotl32 a k : Nat) : Int) = bits .or .u32 ((a : Int) * 2 ^ k % 4294967296) ((a : Int) / 2 ^ (32 - k)) := by
  unfold rotl32
  rw [← or_word _ _ (Nat.mod_lt _ (by omega)) (Nat.lt_of_le_of_lt (Nat.div_le_self _ _) ha)]
  simp
set_option maxHeartbeats 400000 in
set_option maxRecDepth 100000 in
theorem b_rotl32 (a k : Nat) (w : World) (ha : a < 4294967296) (h1 : 1 ≤ k) (h2 : k ≤ 31) :
    Calls Try.prog 28 #[.int .u32 (a : Int), .int .i64 (k : Int)] w fun e w' => e = .returned (.int .u32 (rotl32 a k : Nat)) ∧ w = w' := by
  have hk := and31 k h2
  have hr := rotl32_bits a k ha
  have H := Lib.hid hr
  clear hr
  go_enter Try.func28, Try.ntmps28
  go_wp2
  go_ret
  refine ⟨?_, rfl⟩
  rw [H.out]
  rfl
end Go.Proofs.Ytgagafefhmofjaa
