/- The product of two numbers of 64 bits, by the library's contract. -/
import Derived.Shelf.Bits.Mul64
import Derived.Test.YtbobdbdknapdcaaProg
import Derived.Test.YtbobdbdknapdcaaD1
namespace Go.Proofs
open Go.Shelf
def Try.lays264_ren : Go.Shelf.Ren := ⟨fun | 264 => 85 | n => n, fun | 53 => 52 | 46 => 99 | n => n, fun | n => n⟩
theorem Try.lays264 : Go.Proofs.Lays.n264 Try.prog Try.lays264_ren := {
  mixed := by kernel_rfl
  f264 := Try.func85.trans (congrArg some (by kernel_rfl))
  t46 := Try.underlying99
  a46 := Try.isAgg99
  z46 := Try.sizeOf99
  v46 := Try.zeroValue99
  t53 := Try.underlying52
  a53 := Try.isAgg52
  z53 := Try.sizeOf52
  v53 := Try.zeroValue52 }
open Go.RowKit Go.Lib in
theorem Try.bits_Mul64 (x y : Nat) (hx : x < 18446744073709551616) (hy : y < 18446744073709551616) (w : World) :
    Calls Try.prog 85 #[.int .u64 x, .int .u64 y] w fun e w' => e = .returned (.tuple #[.int .u64 ((x * y / 18446744073709551616 : Nat) : Int), .int .u64 ((x * y % 18446744073709551616 : Nat) : Int)]) ∧ w' = w := Any.bits_Mul64 Try.lays264 x y hx hy w
end Go.Proofs
namespace Go.Proofs.Ytbobdbdknapdcaa
open Go.RowKit
set_option linter.unusedVariables false

def c64 : Nat := 18446744073709551616
def topN (r : Nat) : Nat := r * r / 18446744073709551616 * r + r * r % 18446744073709551616 * r / 18446744073709551616
def restN (r : Nat) : Nat := r * r % 18446744073709551616 * r % 18446744073709551616
def fitsB (r p : Nat) : Bool := decide (topN r < p * 4294967296) || (decide (topN r = p * 4294967296) && decide (restN r = 0))

theorem topN_lt (r : Nat) (hr : r < 34359738368) : r * r / 18446744073709551616 * r < 4398046511104 ∧ topN r < 4432406249472 := by
  have h1 : r * r ≤ 34359738368 * 34359738368 := Nat.mul_le_mul (by omega) (by omega)
  have h2 : r * r / 18446744073709551616 ≤ 64 := by omega
  have h3 : r * r / 18446744073709551616 * r ≤ 64 * r := Nat.mul_le_mul h2 (Nat.le_refl _)
  have h4 : r * r % 18446744073709551616 * r ≤ 18446744073709551616 * r := Nat.mul_le_mul (by omega) (Nat.le_refl _)
  have h5 : r * r % 18446744073709551616 * r / 18446744073709551616 ≤ r := by omega
  unfold topN
  omega

set_option maxHeartbeats 1000000 in
set_option maxRecDepth 100000 in
theorem d_cubeFits (r p : Nat) (w : World) (hr : r < 34359738368) (hp : p < 512) :
    Calls Try.prog 69 #[.int .u64 r, .int .u64 p] w fun e w' => e = .returned (.bool (fitsB r p)) ∧ w' = w := by
  have hb := topN_lt r hr
  have hF : fitsB r p = (decide (topN r < p * 4294967296) || (decide (topN r = p * 4294967296) && decide (restN r = 0))) := rfl
  unfold topN at hb hF
  unfold restN at hF
  have HF := Lib.hid hF
  clear hF
  go_enter Try.func69, Try.ntmps69
  go_wp2_with fail
  refine (Try.bits_Mul64 r r (by omega) (by omega) _).mono ?_
  rintro e w' ⟨rfl, rfl⟩
  generalize r * r / 18446744073709551616 = H at *
  have hL : r * r % 18446744073709551616 < 18446744073709551616 := by omega
  generalize r * r % 18446744073709551616 = L at *
  go_wp2_with fail
  refine (Try.bits_Mul64 L r (by omega) (by omega) _).mono ?_
  rintro e w' ⟨rfl, rfl⟩
  generalize L * r / 18446744073709551616 = X at *
  generalize L * r % 18446744073709551616 = Y at *
  generalize hZ : H * r + X = Z at *
  have hZ' : (H : Int) * (r : Int) + (X : Int) = (Z : Int) := by rw [← hZ]; simp
  have hHr : (H : Int) * (r : Int) < 4398046511104 := by rw [← Int.natCast_mul]; omega
  have hHr0 : (0 : Int) ≤ (H : Int) * (r : Int) := by rw [← Int.natCast_mul]; omega
  have hp32 : (p : Int) * 4294967296 % 18446744073709551616 = (p : Int) * 4294967296 := by omega
  clear hZ
  by_cases h1 : Z < p * 4294967296
  · have g1 : decide ((Z : Int) < (p : Int) * 4294967296) = true := by simp; omega
    go_wp2
    go_ret
    exact ⟨by rw [HF.out]; simp [h1], rfl⟩
  · have g1 : decide ((Z : Int) < (p : Int) * 4294967296) = false := by simp; omega
    by_cases h2 : Z = p * 4294967296
    · have g2 : ((Z : Int) == (p : Int) * 4294967296) = true := by rw [beq_iff_eq]; omega
      by_cases h3 : Y = 0
      · have g3 : ((Y : Int) == 0) = true := by rw [beq_iff_eq]; omega
        go_wp2
        go_ret
        exact ⟨by rw [HF.out]; simp [h2, h3], rfl⟩
      · have g3 : ((Y : Int) == 0) = false := by rw [beq_eq_false_iff_ne]; omega
        go_wp2
        go_ret
        exact ⟨by rw [HF.out]; simp [h2, h3], rfl⟩
    · have g2 : ((Z : Int) == (p : Int) * 4294967296) = false := by rw [beq_eq_false_iff_ne]; omega
      go_wp2
      go_ret
      exact ⟨by rw [HF.out]; simp [h1, h2], rfl⟩

def moreN (r i : Nat) : Nat := r ||| 2 ^ i
def rootFrom (p r : Nat) : Nat → Nat
  | 0 => r
  | i + 1 => rootFrom p (if fitsB (moreN r i) p then moreN r i else r) i
theorem moreN_lt (r i : Nat) (hr : r < 34359738368) (hi : i < 35) : moreN r i < 34359738368 := by
  unfold moreN
  have := Nat.or_lt_two_pow (n := 35) (x := r) (y := 2 ^ i) (by simpa using hr) (Nat.pow_lt_pow_right (by omega) hi)
  simpa using this
theorem more_bits (r i : Nat) (hr : r < 34359738368) (hi : i < 35) : bits .or .u64 (r : Int) (2 ^ i) = (moreN r i : Int) := by
  have h2 : 2 ^ i < 34359738368 := by
    have := Nat.pow_lt_pow_right (a := 2) (by omega) hi
    simpa using this
  have := bits_nat .u64 35 (by decide) (fun n h0 h1 => by rw [IntKind.wrap_u64]; omega) r (2 ^ i) (by simpa using hr) (by simpa using h2)
  simpa [moreN] using this.2

set_option maxHeartbeats 1000000 in
theorem d_root (p : Nat) (w : World) (hp : p < 512) :
    Calls Try.prog 52 #[.int .u64 p] w fun e w' => e = .returned (.int .u64 (rootFrom p 0 35)) ∧ w' = w := by
  go_enter Try.func52, Try.ntmps52
  go_wp2
  go_loop [3, 4, 5] (fun r i q => ∃ (k n : Nat), k ≤ 35 ∧ n < 34359738368 ∧ i = .int .i64 ((k : Int) - 1) ∧ r = .int .u64 n ∧ rootFrom p n k = rootFrom p 0 35) (fun _ i _ => (intOf i + 1).toNat)
  case atStart => exact ⟨35, 0, by omega, by omega, rfl, rfl, rfl⟩
  case round =>
    obtain ⟨k, n, hk, hn, rfl, rfl, hq⟩ := hrel
    have Hq := Lib.hid hq
    clear hq
    by_cases hk0 : k = 0
    · subst hk0
      go_wp2
      go_ret
      exact ⟨by rw [← Hq.out]; rfl, rfl⟩
    · obtain ⟨j, rfl⟩ : ∃ j, k = j + 1 := ⟨k - 1, by omega⟩
      have hj0 : (0 : Int) ≤ ((j + 1 : Nat) : Int) - 1 := by omega
      go_wp2_with fail
      have hpow : (2 : Int) ^ j < 34359738368 := by
        have h1 := Nat.pow_lt_pow_right (a := 2) (by omega) (show j < 35 by omega)
        have h2 : ((2 ^ j : Nat) : Int) < ((2 ^ 35 : Nat) : Int) := by exact_mod_cast h1
        simpa using h2
      have hpow0 : (0 : Int) ≤ 2 ^ j := by
        have : (0 : Int) ≤ ((2 ^ j : Nat) : Int) := Int.natCast_nonneg _
        simpa using this
      rw [IntWalk.u64_in _ ⟨hpow0, by omega⟩, more_bits n j hn (by omega)]
      refine (d_cubeFits (moreN n j) p _ (moreN_lt n j hn (by omega)) hp).mono ?_
      have hm := moreN_lt n j hn (by omega)
      have hstep : rootFrom p n (j + 1) = rootFrom p (if fitsB (moreN n j) p then moreN n j else n) j := rfl
      clear hpow hpow0
      rintro e w' ⟨rfl, rfl⟩
      cases hf : fitsB (moreN n j) p
      · rw [hf] at hstep
        have Hstep := Lib.hid hstep
        clear hstep
        clear hf
        go_wp2
        go_round
        case rel => exact ⟨j, n, by omega, hn, by go_num, rfl, by rw [← Hq.out, Hstep.out]; rfl⟩
        case measure => simp [intOf]
      · rw [hf] at hstep
        have Hstep := Lib.hid hstep
        clear hstep
        clear hf
        generalize moreN n j = mm at *
        go_wp2
        go_round
        case rel => exact ⟨j, mm, by omega, hm, by go_num, rfl, by rw [← Hq.out, Hstep.out]; rfl⟩
        case measure => simp [intOf]

def primeFrom (n d : Nat) : Nat → Bool
  | 0 => true
  | f + 1 => if d * d ≤ n then (if n % d = 0 then false else primeFrom n (d + 1) f) else true
def primeB (n : Nat) : Bool := primeFrom n 2 30

set_option maxHeartbeats 1000000 in
theorem d_isPrime (n : Nat) (w : World) (hn : n < 512) :
    Calls Try.prog 68 #[.int .u64 n] w fun e w' => e = .returned (.bool (primeB n)) ∧ w' = w := by
  go_enter Try.func68, Try.ntmps68
  go_wp2
  go_loop [3] (fun i => ∃ (d f : Nat), 2 ≤ d ∧ d + f = 32 ∧ i = .int .u64 (d : Int) ∧ primeFrom n d f = primeB n) (fun i => (32 - intOf i).toNat)
  case atStart => exact ⟨2, 30, by omega, by omega, rfl, rfl⟩
  case round =>
    obtain ⟨d, f, hd, hf, rfl, hq⟩ := hrel
    have Hq := Lib.hid hq
    clear hq
    have hdd : (d : Int) * (d : Int) = ((d * d : Nat) : Int) := by simp
    have hdle : d * d ≤ 32 * 32 := Nat.mul_le_mul (by omega) (by omega)
    have hw : IntKind.u64.wrap ((d : Int) * (d : Int)) = (d : Int) * (d : Int) := IntWalk.u64_in _ (by rw [hdd]; omega)
    have hmod : ((d : Int) * (d : Int)) % 18446744073709551616 = (d : Int) * (d : Int) := by rw [hdd]; omega
    clear hw
    by_cases h1 : d * d ≤ n
    · have g1 : decide ((d : Int) * (d : Int) ≤ (n : Int)) = true := by rw [hdd]; simp; omega
      obtain ⟨f', rfl⟩ : ∃ f', f = f' + 1 := by
        refine ⟨f - 1, ?_⟩
        have : d < 23 := by
          rcases Nat.lt_or_ge d 23 with h | h
          · exact h
          · have := Nat.mul_le_mul h h
            omega
        omega
      have hstep : primeFrom n d (f' + 1) = if n % d = 0 then false else primeFrom n (d + 1) f' := by
        show (if d * d ≤ n then _ else _) = _
        rw [if_pos h1]
      have hd1 : (1 : Int) ≤ (d : Int) := by omega
      by_cases h2 : n % d = 0
      · have g2 : ((n : Int) % (d : Int) == 0) = true := by
          rw [beq_iff_eq, ← Int.natCast_emod, h2]; rfl
        rw [if_pos h2] at hstep
        have Hs := Lib.hid hstep
        clear hstep hdd h2
        go_wp2
        go_ret
        exact ⟨by rw [← Hq.out, Hs.out]; rfl, rfl⟩
      · have g2 : ((n : Int) % (d : Int) == 0) = false := by
          rw [beq_eq_false_iff_ne, ← Int.natCast_emod]; omega
        rw [if_neg h2] at hstep
        have Hs := Lib.hid hstep
        clear hstep hdd h2
        go_wp2
        go_round
        case rel => exact ⟨d + 1, f', by omega, by omega, by go_num, by rw [← Hq.out, Hs.out]⟩
        case measure => simp [intOf]; omega
    · have g1 : decide ((d : Int) * (d : Int) ≤ (n : Int)) = false := by rw [hdd]; simp; omega
      have hstep : primeFrom n d f = true := by
        cases f with
        | zero => rfl
        | succ f => show (if d * d ≤ n then _ else _) = _; rw [if_neg h1]
      have Hs := Lib.hid hstep
      clear hstep hdd
      go_wp2
      go_ret
      exact ⟨by rw [← Hq.out, Hs.out]; rfl, rfl⟩

set_option maxHeartbeats 1000000 in
theorem d_primeAbove (n q : Nat) (w : World) (hn : n < q) (hq : q < 512) (hp : primeB q = true) (hno : ∀ m, n < m → m < q → primeB m = false) :
    Calls Try.prog 51 #[.int .u64 n] w fun e w' => e = .returned (.int .u64 (q : Int)) ∧ w' = w := by
  have Hp := Lib.hid hp
  have Hno := Lib.hid hno
  clear hp hno
  go_enter Try.func51, Try.ntmps51
  go_wp2
  go_loop [0] (fun i => ∃ (m : Nat), n < m ∧ m ≤ q ∧ i = .int .u64 (m : Int)) (fun i => (512 - intOf i).toNat)
  case atStart => exact ⟨n + 1, by omega, by omega, by go_num⟩
  case round =>
    obtain ⟨m, hm1, hm2, rfl⟩ := hrel
    by_cases h1 : m < q
    · go_wp2_with (go_at_call 68; refine (d_isPrime _ _ (by omega)).mono ?_; rw [Hno.out m hm1 h1]; rintro e w' ⟨rfl, rfl⟩)
      go_round
      case rel => exact ⟨m + 1, by omega, by omega, by go_num⟩
      case measure => simp [intOf]; omega
    · obtain rfl : m = q := by omega
      go_wp2_with (go_at_call 68; refine (d_isPrime _ _ (by omega)).mono ?_; rw [Hp.out]; rintro e w' ⟨rfl, rfl⟩)
      go_ret
      exact ⟨rfl, rfl⟩

def primes : List Nat := [2, 3, 5, 7, 11, 13, 17, 19, 23, 29, 31, 37, 41, 43, 47, 53, 59, 61, 67, 71, 73, 79, 83, 89, 97, 101, 103, 107, 109, 113, 127, 131, 137, 139, 149, 151, 157, 163, 167, 173, 179, 181, 191, 193, 197, 199, 211, 223, 227, 229, 233, 239, 241, 251, 257, 263, 269, 271, 277, 281, 283, 293, 307, 311]
def kTable : List Int := [1116352408, 1899447441, 3049323471, 3921009573, 961987163, 1508970993, 2453635748, 2870763221, 3624381080, 310598401, 607225278, 1426881987, 1925078388, 2162078206, 2614888103, 3248222580, 3835390401, 4022224774, 264347078, 604807628, 770255983, 1249150122, 1555081692, 1996064986, 2554220882, 2821834349, 2952996808, 3210313671, 3336571891, 3584528711, 113926993, 338241895, 666307205, 773529912, 1294757372, 1396182291, 1695183700, 1986661051, 2177026350, 2456956037, 2730485921, 2820302411, 3259730800, 3345764771, 3516065817, 3600352804, 4094571909, 275423344, 430227734, 506948616, 659060556, 883997877, 958139571, 1322822218, 1537002063, 1747873779, 1955562222, 2024104815, 2227730452, 2361852424, 2428436474, 2756734187, 3204031479, 3329325298]
theorem primes_ok : (List.range 64).all (fun k => let q := primes.getD k 0; let n := (1 :: primes).getD k 0; decide (n < q) && decide (q < 512) && primeB q && (List.range q).all (fun m => decide (m ≤ n) || !primeB m) && decide (((rootFrom q 0 35 % 4294967296 : Nat) : Int) = kTable.getD k 0)) = true := by decide +kernel
theorem primes_at (k : Nat) (h : k < 64) : (1 :: primes).getD k 0 < primes.getD k 0 ∧ primes.getD k 0 < 512 ∧ primeB (primes.getD k 0) = true ∧
    (∀ m, (1 :: primes).getD k 0 < m → m < primes.getD k 0 → primeB m = false) ∧ ((rootFrom (primes.getD k 0) 0 35 : Nat) : Int) % 4294967296 = kTable.getD k 0 := by
  have := List.all_eq_true.1 primes_ok k (List.mem_range.2 h)
  simp only [Bool.and_eq_true, decide_eq_true_eq] at this
  obtain ⟨⟨⟨⟨h1, h2⟩, h3⟩, h4⟩, h5⟩ := this
  refine ⟨h1, h2, h3, fun m ha hb => ?_, by simpa using h5⟩
  have := List.all_eq_true.1 h4 m (List.mem_range.2 hb)
  simp only [Bool.or_eq_true, decide_eq_true_eq, Bool.not_eq_true'] at this
  rcases this with h | h
  · omega
  · exact h

def kN (k : Nat) : List Int := kTable.take k ++ zer (64 - k)
theorem kTable_len : kTable.length = 64 := by decide
theorem kN_len (k : Nat) (h : k ≤ 64) : (kN k).length = 64 := by simp [kN, zer, kTable_len]; omega
theorem kN_set (k : Nat) (h : k < 64) : (kN k).set k (kTable.getD k 0) = kN (k + 1) := by
  unfold kN zer
  have hl := kTable_len
  rw [show 64 - k = (64 - (k + 1)) + 1 by omega, List.replicate_succ, List.set_append_right _ _ (by simp [hl]; omega)]
  simp [hl, show min k 64 = k by omega, h]
  rw [List.take_succ_eq_append_getElem (by omega), List.append_assoc]
  rfl

set_option maxHeartbeats 1000000 in
set_option maxRecDepth 100000 in
theorem d_roots (w : World) :
    Calls Try.prog 33 #[] w fun e w' => e = .returned (.agg (ints .u32 kTable).toArray) ∧ Below w.heap.size w w' := by
  go_enter Try.func33, Try.ntmps33
  go_wp2
  generalize hw2 : World.alloc (World.alloc w _) _ = w2
  have hb2 : Below w.heap.size w w2 := by rw [← hw2]; exact ((Below.refl _ _).alloc (Nat.le_refl _) _).alloc (by simp) _
  have hk0 : Blk w2 w.heap.size 81 (ints .u32 (zer 64)) := by
    rw [← hw2]; exact Blk.alloc (Blk.new' _ _ _ rfl) _
  have hk1 : Blk w2 (w.heap.size + 1) 81 (ints .u32 (kN 0)) := by
    rw [← hw2]
    exact Blk.new2 _ _ _ _ rfl
  clear hw2
  go_loopw [2, 3, 4] (fun p _ i wr => ∃ k : Nat, k ≤ 64 ∧ i = .int .i64 k ∧ p = .int .u64 (((1 :: primes).getD k 0 : Nat) : Int) ∧ Blk wr w.heap.size 81 (ints .u32 (zer 64)) ∧ Blk wr (w.heap.size + 1) 81 (ints .u32 (kN k)) ∧ Below w.heap.size w wr) (fun _ _ i _ => 64 - (intOf i).toNat)
  case atStart => exact ⟨0, by omega, rfl, rfl, hk0, hk1, hb2⟩
  case round =>
    obtain ⟨k, hk, rfl, rfl, hz, hf, hb⟩ := hrel
    clear hk0 hk1 hb2
    by_cases hlt : k < 64
    · obtain ⟨q1, q2, q3, q4, q5⟩ := primes_at k hlt
      have hset := kN_set k hlt
      have hnext : (1 :: primes).getD (k + 1) 0 = primes.getD k 0 := by simp
      rw [← q5] at hset
      clear q5
      have Hn := Lib.hid hnext
      have Hs := Lib.hid hset
      have Q3 := Lib.hid q3
      have Q4 := Lib.hid q4
      clear hnext hset q3 q4
      generalize (1 :: primes).getD k 0 = n at *
      generalize primes.getD k 0 = q at *
      have hl := kN_len k (by omega)
      have hc := hf.cell k
      have hc' := hf.int (j := k) (by omega)
      have hfr := hf.free k
      have hk64 : (k : Int) < 64 := by omega
      clear hl hc
      go_wp2_with (first | (go_at_call 51; refine (d_primeAbove _ _ _ q1 q2 Q3.out Q4.out).mono ?_; rintro e w' ⟨rfl, rfl⟩) | (go_at_call 52; refine (d_root _ _ q2).mono ?_; rintro e w' ⟨rfl, rfl⟩))
      go_roundw
      case rel =>
        refine ⟨k + 1, by omega, by go_num, by rw [Hn.out], hz.other (by simp) _, ?_, hb.setCell (by simp) _⟩
        rw [← Hs.out]
        exact hf.setInt k _
      case measure => simp [intOf]; omega
    · obtain rfl : k = 64 := by omega
      have hS : Blk wr (w.heap.size + 1) 81 (ints .u32 kTable) := hf
      clear hf
      go_wp2_with (first | (refine wpList_load_blk rfl 81 _ rfl _ rfl hS Try.underlying81 rfl (by rw [size_k64]; rfl) ?_) | (refine wpList_store_blk rfl 81 _ _ rfl _ _ rfl rfl hz (by rw [size_k64]; rfl) rfl (ints_one _ _) ?_))
      refine bodyPost_ret (v := .agg (ints .u32 kTable).toArray) (results_cell_blk rfl _ _ _ rfl (hz.row (ints .u32 kTable) rfl) Try.underlying81 rfl (by rw [size_k64]; rfl)) rfl ⟨rfl, below_setRow hb (Nat.le_refl _) _⟩
end Go.Proofs.Ytbobdbdknapdcaa
