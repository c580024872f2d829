/- Walks of check's step, table and Sum. -/
import Derived.Test.YtccplgicfbfjiaaG2
import Derived.Test.YtccplgicfbfjiaaG1
import Derived.Test.YtccplgicfbfjiaaKA
import Derived.Test.YtccplgicfbfjiaaV1
import Derived.Test.YtccplgicfbfjiaaJ1
namespace Go.Proofs.Ytccplgicfbfjiaa
open Go.RowKit
set_option linter.unusedVariables false

theorem wrapsK (n : Int) (h0 : 0 ≤ n) (h1 : n < 2 ^ 32) : IntKind.u32.wrap n = n := by rw [IntKind.wrap_u32]; omega
theorem xorK (a b : Nat) (ha : a < 4294967296) (hb : b < 4294967296) : bits .xor .u32 (a : Int) (b : Int) = ((a ^^^ b : Nat) : Int) := by
  have h : a ^^^ b < 2 ^ 32 := Nat.xor_lt_two_pow ha hb
  have ha' : a % 2 ^ IntKind.u32.bits = a := Nat.mod_eq_of_lt ha
  have hb' : b % 2 ^ IntKind.u32.bits = b := Nat.mod_eq_of_lt hb
  simp only [bits, BitVec.ofInt_natCast, BitVec.toNat_xor, BitVec.toNat_ofNat, ha', hb']
  exact wrapsK _ (by omega) (by omega)
theorem xorB (a b : Nat) (ha : a < 256) (hb : b < 256) : bits .xor .u8 (a : Int) (b : Int) = ((a ^^^ b : Nat) : Int) := by
  have h : a ^^^ b < 2 ^ 8 := Nat.xor_lt_two_pow ha hb
  have ha' : a % 2 ^ IntKind.u8.bits = a := Nat.mod_eq_of_lt ha
  have hb' : b % 2 ^ IntKind.u8.bits = b := Nat.mod_eq_of_lt hb
  simp only [bits, BitVec.ofInt_natCast, BitVec.toNat_xor, BitVec.toNat_ofNat, ha', hb']
  rw [IntKind.wrap_u8]
  omega
theorem lowK (n : Nat) (hn : n < 4294967296) : bits .and .u32 (n : Int) 1 = ((n % 2 : Nat) : Int) := by
  have h := (bits_nat .u32 32 (by decide) wrapsK n 1 hn (by omega)).1
  rw [show ((1 : Nat) : Int) = 1 by rfl] at h
  rw [h, Nat.and_one_is_mod]

set_option maxHeartbeats 400000 in
set_option maxRecDepth 100000 in
theorem k_step (n : Nat) (w : World) (hn : n < 4294967296) :
    Calls Try.prog 83 #[.int .u32 (n : Int)] w fun e w' => e = .returned (.int .u32 ((tK n : Nat) : Int)) ∧ w = w' := by
  have hl := lowK n hn
  by_cases h : n % 2 = 1
  · have ht : ((tK n : Nat) : Int) = bits .xor .u32 ((n : Int) / 2) 3988292384 := by
      unfold tK; rw [if_pos h, ← xorK _ _ (by omega) (by omega)]; rfl
    have H := Lib.hid ht
    have h1 : ((n % 2 : Nat) : Int) = 1 := by omega
    rw [h1] at hl
    clear ht
    go_enter Try.func83, Try.ntmps83
    go_wp2
    go_ret
    exact ⟨by rw [H.out]; rfl, rfl⟩
  · have ht : ((tK n : Nat) : Int) = (n : Int) / 2 := by
      unfold tK; rw [if_neg h]; omega
    have H := Lib.hid ht
    have h1 : ((n % 2 : Nat) : Int) = 0 := by omega
    rw [h1] at hl
    clear ht
    go_enter Try.func83, Try.ntmps83
    go_wp2
    go_ret
    exact ⟨by rw [H.out]; rfl, rfl⟩

/-! ### the table -/
theorem pow_128 {i : Nat} (h : i ≤ 7) : 128 / 2 ^ i = 2 ^ (7 - i) := by
  rcases (show i = 0 ∨ i = 1 ∨ i = 2 ∨ i = 3 ∨ i = 4 ∨ i = 5 ∨ i = 6 ∨ i = 7 by omega) with rfl | rfl | rfl | rfl | rfl | rfl | rfl | rfl <;> rfl
/-- what eight steps make of a bit -/
theorem iterK_bit {i : Nat} (h : i ≤ 7) : iterK 8 (128 / 2 ^ i) = iterK (i + 1) 1 := by
  have h1 : iterK (7 - i) (2 ^ (7 - i)) = 1 := by
    have := iterK_pow (7 - i) 1
    rwa [Nat.one_mul] at this
  have h2 := iterK_add (7 - i) (i + 1) (2 ^ (7 - i))
  rw [h1, show 7 - i + (i + 1) = 8 by omega] at h2
  rw [pow_128 h, h2]
theorem xor_low {a B : Nat} {k : Nat} (hB : B = 2 ^ k) (ha : a % (2 * B) = 0) : a ^^^ B = a + B := by
  obtain ⟨q, rfl⟩ : ∃ q, a = q * 2 ^ (k + 1) := ⟨a / (2 * B), by
    rw [Nat.pow_succ, Nat.mul_comm _ 2, ← hB]
    have := Nat.div_add_mod a (2 * B)
    rw [ha, Nat.add_zero, Nat.mul_comm] at this
    exact this.symm⟩
  subst hB
  have h1 := or_add (2 ^ k) q (k + 1) (Nat.pow_lt_pow_right (by decide) (by omega))
  rw [Nat.add_comm (q * 2 ^ (k + 1)) (2 ^ k), ← h1]
  apply Nat.eq_of_testBit_eq
  intro j
  rw [Nat.testBit_xor, Nat.testBit_or, Nat.testBit_mul_two_pow, Nat.testBit_two_pow]
  by_cases e : k = j
  · subst e
    have : ¬ (k + 1 ≤ k) := by omega
    simp [this]
  · simp [e]
/-- the table so far: the entries of all multiples of M -/
def TabK (T : List Nat) (M : Nat) : Prop := T.length = 256 ∧ (∀ j, j < 256 → j % M = 0 → T.getD j 0 = iterK 8 j) ∧ ∀ j, T.getD j 0 < 4294967296
/-- while the odd multiples of B are written, those below b are -/
def TabI (T : List Nat) (B b : Nat) : Prop := T.length = 256 ∧ (∀ j, j < 256 → (j % (2 * B) = 0 ∨ j % B = 0 ∧ j < b) → T.getD j 0 = iterK 8 j) ∧ ∀ j, T.getD j 0 < 4294967296
theorem tabI_start {T : List Nat} {B : Nat} (h : TabK T (2 * B)) (hB : 0 < B) : TabI T B B := ⟨h.1, fun j hj hc => h.2.1 j hj (by
  rcases hc with hc | ⟨hc, hl⟩
  · exact hc
  · rw [Nat.mod_eq_of_lt hl] at hc; subst hc; simp), h.2.2⟩
theorem tabI_end {T : List Nat} {B b : Nat} (h : TabI T B b) (hb : 256 ≤ b) : TabK T B := ⟨h.1, fun j hj hc => h.2.1 j hj (.inr ⟨hc, by omega⟩), h.2.2⟩
theorem tabI_step {T : List Nat} {B b m i : Nat} (h : TabI T B b) (hi : i ≤ 7) (hB : B = 128 / 2 ^ i) (hb : b = B + 2 * B * m) (hlt : b < 256) :
    TabI (T.set b (T.getD (b - B) 0 ^^^ iterK (i + 1) 1)) B (b + 2 * B) ∧ T.getD (b - B) 0 ^^^ iterK (i + 1) 1 < 4294967296 := by
  have hp : B = 2 ^ (7 - i) := by rw [hB, pow_128 hi]
  have hB0 : 0 < B := by rw [hp]; exact Nat.two_pow_pos _
  have hv : T.getD (b - B) 0 = iterK 8 (b - B) := h.2.1 _ (by omega) (.inl (by rw [hb, Nat.add_sub_cancel_left, Nat.mul_mod_right]))
  have hm : (b - B) % (2 * B) = 0 := by rw [hb, Nat.add_sub_cancel_left, Nat.mul_mod_right]
  have e : T.getD (b - B) 0 ^^^ iterK (i + 1) 1 = iterK 8 b := by
    rw [hv, ← iterK_bit hi, ← hB, ← iterK_xor, xor_low hp hm, Nat.sub_add_cancel (by rw [hb]; exact Nat.le_add_right _ _)]
  have hlt2 : iterK 8 b < 4294967296 := iterK_lt (k := 8) (n := b) (by omega)
  rw [e]
  refine ⟨⟨by rw [List.length_set]; exact h.1, fun j hj hc => ?_, fun j => ?_⟩, hlt2⟩
  · rw [getD_set _ _ _ _ (by rw [h.1]; exact hlt)]
    split
    · rename_i hbj; rw [hbj]
    · rename_i hbj
      refine h.2.1 j hj ?_
      rcases hc with hc | ⟨hc, hl⟩
      · exact .inl hc
      · rcases Nat.lt_or_ge j b with h1 | h1
        · exact .inr ⟨hc, h1⟩
        · -- between b and b + 2 * B: only b + B
          left
          obtain ⟨q, rfl⟩ : ∃ q, j = B * q := ⟨j / B, by have := Nat.div_add_mod j B; rw [hc] at this; omega⟩
          have e1 : b = B * (1 + 2 * m) := by rw [hb, Nat.mul_add, Nat.mul_one, ← Nat.mul_assoc, Nat.mul_comm B 2]
          have e2 : b + 2 * B = B * (3 + 2 * m) := by rw [e1, Nat.mul_comm 2 B, ← Nat.mul_add]; congr 1; omega
          rw [e2] at hl
          rw [e1] at h1 hbj
          have l1 := Nat.lt_of_mul_lt_mul_left hl
          have l2 := Nat.le_of_mul_le_mul_left h1 hB0
          have l3 : 1 + 2 * m ≠ q := fun h => hbj (by rw [h])
          rw [show q = 2 * (1 + m) by omega, ← Nat.mul_assoc, Nat.mul_comm B 2, Nat.mul_mod_right]
  · rw [getD_set _ _ _ _ (by rw [h.1]; exact hlt)]
    split
    · exact hlt2
    · exact h.2.2 j

theorem tab_zero : TabK (zerN 256) 256 := by
  refine ⟨zerN_len _, fun j hj hm => ?_, fun j => ?_⟩
  · rw [Nat.mod_eq_of_lt hj] at hm
    subst hm
    rfl
  · unfold zerN
    rw [List.getD_eq_getElem?_getD, List.getElem?_replicate]
    split <;> decide
theorem tab_full {T : List Nat} (h : TabK T 1) : T = tabK := getD_ext 256 h.1 tab_len fun j hj => by rw [h.2.1 j hj (Nat.mod_one j), tab_getD hj]
theorem size_t256 : (Try.prog.info? 110).map (·.size) = some 256 := by kernel_rfl
theorem alloc_t256 (w : World) : (Instr.alloc 110 true (.tuple #[])).run Try.prog w = .ok (.pointer (some ⟨w.heap.size, 0, none⟩)) (w.alloc (.cells (ints .u32 (nn (zerN 256))).toArray 110)) := by kernel_rfl
theorem half_pow {i : Nat} : (128 / 2 ^ i) / 2 = 128 / 2 ^ (i + 1) := by rw [Nat.div_div_eq_div_mul, Nat.pow_succ]
theorem bit_facts {i B : Nat} (hi : i ≤ 8) (hB : B = 128 / 2 ^ i) : (i = 8 ∧ B = 0) ∨ (i ≤ 7 ∧ 0 < B ∧ B ≤ 128 ∧ 2 * B = if i = 0 then 256 else 128 / 2 ^ (i - 1)) := by
  subst hB
  rcases (show i = 0 ∨ i = 1 ∨ i = 2 ∨ i = 3 ∨ i = 4 ∨ i = 5 ∨ i = 6 ∨ i = 7 ∨ i = 8 by omega) with rfl | rfl | rfl | rfl | rfl | rfl | rfl | rfl | rfl <;> decide
set_option maxHeartbeats 1000000 in
set_option maxRecDepth 100000 in
theorem k_table (w : World) :
    Calls Try.prog 65 #[] w fun e w' => e = .returned (.agg (ints .u32 (nn tabK)).toArray) ∧ Below w.heap.size w w' := by
  have HI : Hid (∀ k, iterK k 1 < 4294967296) := Lib.hid fun k => iterK_lt (k := k) (n := 1) (by omega)
  obtain ⟨Z, hZ⟩ : ∃ Z, zerN 256 = Z := ⟨_, rfl⟩
  have hz0 := tab_zero
  have hal := fun w => alloc_t256 w
  rw [hZ] at hz0
  simp only [hZ] at hal
  have hn0 := Blk.new2 w (.cells (ints .u32 (nn Z)).toArray 110) 110 (ints .u32 (nn Z)) rfl
  have hm0 : Blk ((w.alloc (.cells (ints .u32 (nn Z)).toArray 110)).alloc (.cells (ints .u32 (nn Z)).toArray 110)) w.heap.size 110 (ints .u32 (nn Z)) := (Blk.new' w 110 (ints .u32 (nn Z)) rfl).alloc _
  have hb0 : Below w.heap.size w ((w.alloc (.cells (ints .u32 (nn Z)).toArray 110)).alloc (.cells (ints .u32 (nn Z)).toArray 110)) := ((Below.refl _ _).alloc (Nat.le_refl _) _).alloc (by simp) _
  have hZl : Z.length = 256 := hz0.1
  have HZ0 := Lib.hid hz0
  have HZl := Lib.hid hZl
  have HAL := Lib.hid hal
  clear hZ hz0 hal hZl
  go_enter Try.func65, Try.ntmps65
  go_wp2_with (first | (refine wpList_alloc_n rfl 110 rfl w.heap.size rfl _ (HAL.out _) ?_) | (refine wpList_alloc_n rfl 110 rfl (w.heap.size + 1) (by simp) _ (HAL.out _) ?_))
  generalize World.alloc (World.alloc w _) _ = w2 at *
  go_loopw [2, 3, 4] (fun n b _ wr => ∃ (i B : Nat) (T : List Nat), i ≤ 8 ∧ B = 128 / 2 ^ i ∧ TabK T (if i = 0 then 256 else 128 / 2 ^ (i - 1)) ∧ n = .int .u32 ((iterK i 1 : Nat) : Int) ∧ b = .int .i64 (B : Int) ∧ Blk wr w.heap.size 110 (ints .u32 (nn Z)) ∧ Blk wr (w.heap.size + 1) 110 (ints .u32 (nn T)) ∧ Below w.heap.size w wr) (fun _ b _ _ => (intOf b).toNat)
  case atStart => exact ⟨0, 128, Z, by omega, rfl, HZ0.out, rfl, rfl, hm0, hn0, hb0⟩
  case round =>
    obtain ⟨i, B, T, hi, hB, hT, rfl, rfl, gz, gt, gb⟩ := hrel
    clear hn0 hm0 hb0
    rcases bit_facts hi hB with ⟨h8, h0⟩ | ⟨hi7, hB0, hB1, h2B⟩
    · subst h0
      have hT1 : TabK T 1 := by subst h8; exact hT
      have hTT := tab_full hT1
      have hTl : T.length = 256 := hT1.1
      have HTT := Lib.hid hTT
      have HTl := Lib.hid hTl
      clear hT hT1 hTT hTl hB
      go_wp2_with (first | (refine wpList_load_blk rfl 110 _ rfl _ rfl gt Try.underlying110 rfl (by rw [size_t256, ints_length, nn_length, HTl.out]) ?_) | (refine wpList_store_blk rfl 110 _ _ rfl _ _ rfl rfl gz (by rw [size_t256, ints_length, nn_length, HTl.out]) (by rw [ints_length, ints_length, nn_length, nn_length, HTl.out, HZl.out]) (ints_one _ _) ?_))
      refine bodyPost_ret (v := .agg (ints .u32 (nn T)).toArray) (results_cell_blk rfl _ _ _ rfl (gz.row (ints .u32 (nn T)) (by rw [ints_length, ints_length, nn_length, nn_length, HTl.out, HZl.out])) Try.underlying110 rfl (by rw [size_t256, ints_length, nn_length, HTl.out])) rfl ⟨by rw [HTT.out], below_setRow gb (Nat.le_refl _) _⟩
    · rw [← h2B] at hT
      have HTI := Lib.hid (tabI_start hT hB0)
      have HB := Lib.hid hB
      have hin := HI.out i
      have hin1 := HI.out (i + 1)
      have hs1 : tK (iterK i 1) = iterK (i + 1) 1 := by rw [iterK_add i 1]; rfl
      have HS := Lib.hid hs1
      clear hB hT h2B hs1
      generalize hN : iterK i 1 = N at *
      generalize hM : iterK (i + 1) 1 = M at *
      have HM := Lib.hid hM
      clear hN hM
      go_wp2_with (go_at_call 83; refine (k_step N _ hin).mono ?_; rintro e w9 ⟨rfl, rfl⟩)
      rw [HS.out]
      go_loopw [4] (fun b wr => ∃ (m : Nat) (T : List Nat), TabI T B (B + 2 * B * m) ∧ B + 2 * B * m < 1000 ∧ b = .int .i64 ((B + 2 * B * m : Nat) : Int) ∧ Blk wr w.heap.size 110 (ints .u32 (nn Z)) ∧ Blk wr (w.heap.size + 1) 110 (ints .u32 (nn T)) ∧ Below w.heap.size w wr) (fun b _ => 256 - (intOf b).toNat)
      case atStart => exact ⟨0, T, HTI.out, by omega, rfl, gz, gt, gb⟩
      case round =>
        obtain ⟨m, T2, hT2, hlt, rfl, hz, ht, hb⟩ := hrel
        clear gz gt gb
        by_cases hc : B + 2 * B * m < 256
        · have hst := tabI_step hT2 hi7 HB.out rfl hc
          rw [HM.out] at hst
          have hTl := hT2.1
          have hcB : B ≤ B + 2 * B * m := Nat.le_add_right _ _
          have hnx : B + 2 * B * m + 2 * B = B + 2 * B * (m + 1) := by rw [Nat.mul_add, Nat.mul_one]; omega
          rw [hnx] at hst
          have HNX := Lib.hid hnx
          have hvv := hT2.2.2
          clear hnx hT2
          generalize hC : B + 2 * B * m = c at *
          have hcell := ht.nat (j := c - B) (by omega)
          have hx := hst.2
          have hT3 := Lib.hid hst.1
          have hb1 := hin1
          have hv2 : (T2.getD (c - B) 0) < 4294967296 := hvv _
          have hxor := xorK (T2.getD (c - B) 0) M hv2 hin1
          have hset := ht.setNat c (T2.getD (c - B) 0 ^^^ M)
          have hz' := hz.other (a := ⟨w.heap.size + 1, c, none⟩) (show w.heap.size + 1 ≠ w.heap.size by omega) (.int .u32 ((T2.getD (c - B) 0 ^^^ M : Nat) : Int))
          have hb' := hb.setCell (p := ⟨w.heap.size + 1, c, none⟩) (show w.heap.size ≤ w.heap.size + 1 by omega) (.int .u32 ((T2.getD (c - B) 0 ^^^ M : Nat) : Int))
          have hf := ht.free c
          have hex := ht.nat (j := c) (by omega)
          have i1 : ((c : Int) - (B : Int)).toNat = c - B := by omega
          have i2 : (0 : Int) ≤ (c : Int) - (B : Int) := by omega
          have i3 : (c : Int) - (B : Int) < 256 := by omega
          have i4 : (c : Int) < 256 := by omega
          have HSet := Lib.hid hset
          have HZ2 := Lib.hid hz'
          have HB2 := Lib.hid hb'
          clear hst hset hz' hb' ht hz hb hC hvv
          generalize T2.getD (c - B) 0 ^^^ M = X at *
          generalize T2.getD (c - B) 0 = Y at *
          generalize T2.getD c 0 = Y2 at *
          go_wp2
          go_roundw
          case rel => exact ⟨m + 1, _, hT3.out, by rw [← HNX.out]; omega, by rw [← HNX.out]; go_num, HZ2.out, HSet.out, HB2.out⟩
          case measure => simp [intOf]; omega
        · have hT3 := tabI_end hT2 (by omega)
          have hd : ¬ ((B + 2 * B * m : Nat) : Int) < 256 := by omega
          have HT3 := Lib.hid hT3
          clear hT2 hT3
          generalize B + 2 * B * m = c at *
          go_wp2
          go_roundw
          case rel => exact ⟨i + 1, B / 2, T2, by omega, by rw [HB.out, half_pow], by rw [if_neg (by omega), Nat.add_sub_cancel, ← HB.out]; exact HT3.out, by rw [HM.out], by go_num, hz, ht, hb⟩
          case measure => simp [intOf]; omega
end Go.Proofs.Ytccplgicfbfjiaa
namespace Go.Proofs.Ytccplgicfbfjiaa
open Go.RowKit
set_option linter.unusedVariables false

theorem step_by {n c : Nat} (hc : c < 256) : stepK n c = n / 256 ^^^ tabK.getD ((n % 256) ^^^ c) 0 := by
  have h : (n % 256) ^^^ c < 2 ^ 8 := Nat.xor_lt_two_pow (by omega) hc
  rw [step_table, tab_getD h, Nat.xor_comm]
theorem sum_not (n : Nat) (hn : n < 4294967296) : bits .xor .u32 IntKind.u32.max (n : Int) = ((n ^^^ 4294967295 : Nat) : Int) := by
  have := xorK 4294967295 n (by omega) hn
  rw [Nat.xor_comm] at this
  exact this
set_option maxHeartbeats 1000000 in
set_option maxRecDepth 100000 in
theorem k_Sum (s : ByteArray) (w : World) (hs : s.size ≤ 1000000) :
    Calls Try.prog 50 #[.string s] w fun e w' => e = .returned (.int .u32 ((sumK (sl s) : Nat) : Int)) ∧ Below w.heap.size w w' := by
  obtain ⟨Z, hZ⟩ : ∃ Z, zerN 256 = Z := ⟨_, rfl⟩
  obtain ⟨T, hT⟩ : ∃ T, tabK = T := ⟨_, rfl⟩
  have hal := fun w => alloc_t256 w
  simp only [hZ] at hal
  have hZl : Z.length = 256 := by rw [← hZ]; exact zerN_len 256
  have hTl : T.length = 256 := by rw [← hT]; exact tab_len
  have htab := fun w => k_table w
  simp only [hT] at htab
  have hstep : ∀ n c, c < 256 → stepK n c = n / 256 ^^^ T.getD ((n % 256) ^^^ c) 0 := fun n c hc => by rw [← hT]; exact step_by hc
  have htl : ∀ j, j < 256 → T.getD j 0 < 4294967296 := fun j hj => by rw [← hT]; exact tab_lt hj
  have hlen := sl_len s
  have HAL := Lib.hid hal
  have HZl := Lib.hid hZl
  have HTl := Lib.hid hTl
  have HTab := Lib.hid htab
  have HStep := Lib.hid hstep
  have HTlt := Lib.hid htl
  have HSB := Lib.hid (sl_bys s)
  have HLen := Lib.hid hlen
  clear hZ hT hal hZl hTl htab hstep htl hlen
  go_enter Try.func50, Try.ntmps50
  go_wp2_with (first | (go_at_call 65; refine (HTab.out _).mono ?_; rintro e w1 ⟨rfl, hb1⟩) | (refine wpList_alloc_n rfl 110 rfl w1.heap.size rfl _ (HAL.out _) ?_) | (refine wpList_store_blk rfl 110 _ _ rfl w1.heap.size (ints .u32 (nn T)) rfl rfl (Blk.new' w1 110 (ints .u32 (nn Z)) rfl) (by rw [size_t256, ints_length, nn_length, HTl.out]) (by rw [ints_length, ints_length, nn_length, nn_length, HTl.out, HZl.out]) (ints_one _ _) ?_))
  have hT2 : Blk ((w1.alloc (.cells (ints .u32 (nn Z)).toArray 110)).setRow w1.heap.size (ints .u32 (nn T)).toArray) w1.heap.size 110 (ints .u32 (nn T)) :=
    (Blk.new' w1 110 (ints .u32 (nn Z)) rfl).row _ (by rw [ints_length, ints_length, nn_length, nn_length, HTl.out, HZl.out])
  have hb2 : Below w.heap.size w ((w1.alloc (.cells (ints .u32 (nn Z)).toArray 110)).setRow w1.heap.size (ints .u32 (nn T)).toArray) := below_setRow (hb1.alloc hb1.size _) hb1.size _
  generalize World.setRow (World.alloc w1 _) _ _ = w2 at *
  generalize w1.heap.size = B at *
  clear hb1
  go_loopw [4, 5, 9] (fun n _ i wr => ∃ j : Nat, j ≤ s.size ∧ n = .int .u32 ((foldK 4294967295 ((sl s).take j) : Nat) : Int) ∧ i = .int .i64 (j : Int) ∧ wr = w2) (fun _ _ i _ => s.size - (intOf i).toNat)
  case atStart => exact ⟨0, by omega, rfl, rfl, rfl⟩
  case round =>
    obtain ⟨j, hj, rfl, rfl, rfl⟩ := hrel
    by_cases hlt : j < s.size
    · have d1 : (j : Int) < (s.size : Int) := by omega
      have hix := fun w => index_sl s .i64 j hlt w
      have hc := HSB.out j
      have hf := foldK_lt (HSB.out.take j) (n := 4294967295) (by omega)
      have hst := foldK_take 4294967295 (sl s) (j := j) (by rw [HLen.out]; exact hlt)
      rw [HStep.out _ _ hc] at hst
      have HST := Lib.hid hst
      clear hst
      generalize foldK 4294967295 ((sl s).take j) = n at *
      generalize (sl s).getD j 0 = c at *
      have hm : n % 256 < 256 := Nat.mod_lt _ (by omega)
      have hq : n % 256 ^^^ c < 256 := Nat.xor_lt_two_pow (n := 8) hm hc
      have hx1 := xorB (n % 256) c hm hc
      have hcell := hT2.nat (j := n % 256 ^^^ c) (by rw [HTl.out]; exact hq)
      have hx2 := xorK (n / 256) (T.getD (n % 256 ^^^ c) 0) (by omega) (HTlt.out _ hq)
      generalize n % 256 ^^^ c = q at *
      generalize T.getD q 0 = t at *
      generalize hF : foldK 4294967295 ((sl s).take (j + 1)) = F at *
      have HF := Lib.hid hF
      clear hF
      have e1 : ((n % 256 : Nat) : Int) = (n : Int) % 256 := by omega
      have e2 : ((n / 256 : Nat) : Int) = (n : Int) / 256 := by omega
      rw [e1] at hx1
      rw [e2] at hx2
      go_wp2
      go_roundw
      case rel => exact ⟨j + 1, by omega, by rw [HF.out, HST.out], by go_num, trivial⟩
      case measure => simp [intOf]; omega
    · obtain rfl : j = s.size := by omega
      have hfull : (sl s).take s.size = sl s := List.take_of_length_le (by rw [HLen.out]; exact Nat.le_refl _)
      rw [hfull]
      have hf := foldK_lt HSB.out (n := 4294967295) (by omega)
      have hn := sum_not (foldK 4294967295 (sl s)) hf
      rw [show foldK 4294967295 (sl s) ^^^ 4294967295 = sumK (sl s) from rfl] at hn
      have HN := Lib.hid hn
      clear hn
      generalize foldK 4294967295 (sl s) = F at *
      go_wp2
      go_ret
      exact ⟨congrArg (fun x => Ending.returned (Value.int .u32 x)) HN.out, hb2⟩
end Go.Proofs.Ytccplgicfbfjiaa
namespace Go.Proofs.Ytccplgicfbfjiaa
open Go.RowKit
set_option linter.unusedVariables false

set_option maxHeartbeats 1000000 in
set_option maxRecDepth 100000 in
theorem k_Frame_no (s : ByteArray) (w : World) (hs : 1024 < s.size) :
    Calls Try.prog 33 #[.string s] w fun e w' => e = .returned (.tuple #[.string ⟨#[]⟩, .int .i64 90]) ∧ w = w' := by
  have d1 : (1024 : Int) < (s.size : Int) := by omega
  go_enter Try.func33, Try.ntmps33
  go_wp2
  go_ret2
  exact ⟨rfl, rfl⟩
set_option maxHeartbeats 1000000 in
set_option maxRecDepth 100000 in
theorem k_Frame (s : ByteArray) (w : World) (hs : s.size ≤ 1024) (f : ByteArray) (hf : tx (frameK (sl s)) = f) :
    Calls Try.prog 33 #[.string s] w fun e w' => e = .returned (.tuple #[.string f, .int .i64 0]) ∧ Below w.heap.size w w' := by
  have d1 : ¬ (1024 : Int) < (s.size : Int) := by omega
  have d2 : IntKind.u64.wrap (s.size : Int) = (s.size : Int) := wraps_u64 _ (by omega) (by omega)
  obtain ⟨h, hh⟩ : ∃ h, tx (bigL s.size 2) = h := ⟨_, rfl⟩
  have hbig : ∀ w : World, Calls Try.prog 34 #[.int .u64 (s.size : Int), .int .i64 2] w fun e w' => e = .returned (.string h) ∧ Below w.heap.size w w' := fun w => by
    rw [← hh]
    exact v_Big s.size 2 w (by omega) (by omega) (by omega)
  have hhz : h.size = 2 := by rw [← hh, tx_size, big_len]
  have hadd := fun w' => run_string_add_sum (P := Try.prog) w' h s (by omega)
  have hsum := fun w => k_Sum (h ++ s) w (by rw [ByteArray.size_append]; omega)
  have hlt : sumK (sl (h ++ s)) < 4294967296 := sumK_lt (sl_bys _)
  obtain ⟨v, hv⟩ : ∃ v, sumK (sl (h ++ s)) = v := ⟨_, rfl⟩
  simp only [hv] at hsum hlt
  obtain ⟨g, hg⟩ : ∃ g, tx (bigL v 4) = g := ⟨_, rfl⟩
  have hbig2 : ∀ w : World, Calls Try.prog 34 #[.int .u64 (v : Int), .int .i64 4] w fun e w' => e = .returned (.string g) ∧ Below w.heap.size w w' := fun w => by
    rw [← hg]
    exact v_Big v 4 w (by omega) (by omega) (by omega)
  have hgz : g.size = 4 := by rw [← hg, tx_size, big_len]
  have hadd2 := fun w' => run_string_add_sum (P := Try.prog) w' h g (by omega)
  have hadd3 := fun w' => run_string_add_sum (P := Try.prog) w' (h ++ g) s (by rw [ByteArray.size_append]; omega)
  have d3 : IntKind.u64.wrap (v : Int) = (v : Int) := wraps_u64 _ (by omega) (by omega)
  have hfin : h ++ g ++ s = f := by
    rw [← hf]
    unfold frameK
    rw [sl_len, ← tx_sl s, tx_app, tx_app, ← hh, ← hg, ← hv, ← hh, sl_app, sl_tx (big_bys _ _), sl_tx (sl_bys _), ByteArray.append_assoc, tx_size, sl_len]
  have HF := Lib.hid hfin
  have HB := Lib.hid hbig
  have HS := Lib.hid hsum
  have HB2 := Lib.hid hbig2
  clear hbig hsum hbig2 hfin hh hg hv hf
  go_enter Try.func33, Try.ntmps33
  go_wp2_with (first | (go_at_call 34; first | ((with_reducible refine (HB.out _).mono ?_); rintro e w1 ⟨rfl, hb1⟩) | ((with_reducible refine (HB2.out _).mono ?_); rintro e w3 ⟨rfl, hb3⟩)) | (go_at_call 50; (with_reducible refine (HS.out _).mono ?_); rintro e w2 ⟨rfl, hb2⟩))
  go_ret2
  exact ⟨by rw [← HF.out]; rfl, (hb1.trans (hb2.mono hb1.size)).trans (hb3.mono (by have := hb1.size; have := hb2.size; omega))⟩

theorem first_none {t : List Nat} (h : t.length = 0) : firstK t = ([], [], 3) := by unfold firstK; rw [if_pos h]
theorem first_short {t : List Nat} (h : t.length ≠ 0) (h6 : t.length < 6) : firstK t = ([], [], 40) := by unfold firstK; rw [if_neg h, if_pos h6]
theorem first_cap {t : List Nat} (h6 : ¬ t.length < 6) (hc : 1024 < fixN t 2) : firstK t = ([], [], 90) := by unfold firstK; rw [if_neg (by omega), if_neg h6, if_pos hc]
theorem first_less {t : List Nat} (h6 : ¬ t.length < 6) (hc : ¬ 1024 < fixN t 2) (hl : t.length < 6 + fixN t 2) : firstK t = ([], [], 40) := by unfold firstK; rw [if_neg (by omega), if_neg h6, if_neg hc, if_pos hl]
theorem first_sum {t : List Nat} (h6 : ¬ t.length < 6) (hc : ¬ 1024 < fixN t 2) (hl : ¬ t.length < 6 + fixN t 2) (hs : sumK (t.take 2 ++ (t.drop 6).take (fixN t 2)) ≠ fixN (t.drop 2) 4) : firstK t = ([], [], 100) := by
  unfold firstK; rw [if_neg (by omega), if_neg h6, if_neg hc, if_neg hl, if_pos hs]
theorem first_ok {t : List Nat} (h6 : ¬ t.length < 6) (hc : ¬ 1024 < fixN t 2) (hl : ¬ t.length < 6 + fixN t 2) (hs : sumK (t.take 2 ++ (t.drop 6).take (fixN t 2)) = fixN (t.drop 2) 4) : firstK t = ((t.drop 6).take (fixN t 2), t.drop (6 + fixN t 2), 0) := by
  unfold firstK; rw [if_neg (by omega), if_neg h6, if_neg hc, if_neg hl, if_neg (fun h => h hs)]
theorem txt_empty {t : ByteArray} (h : t.size = 0) : t.toList.isEmpty = true := by
  obtain rfl : t = ⟨#[]⟩ := sl_inj (List.eq_nil_of_length_eq_zero (by rw [sl_len]; exact h))
  have h := txt_same ⟨#[]⟩
  have e : (⟨#[]⟩ : ByteArray).toList = [] := by simp
  rw [e]
  rfl
theorem txt_full {t : ByteArray} (h : t.size ≠ 0) : t.toList.isEmpty = false := by
  have h1 := txt_ne (x := t) (y := ⟨#[]⟩) (fun e => h (by rw [e]; rfl))
  have e : (⟨#[]⟩ : ByteArray).toList = [] := by simp
  rw [e] at h1
  cases hl : t.toList with
  | nil => rw [hl] at h1; exact absurd h1 (by decide)
  | cons a l => rfl
/-- what First tells -/
def FirstRet (t : ByteArray) (w : World) (e : Ending) (w' : World) : Prop :=
  e = .returned (.tuple #[.string (tx (firstK (sl t)).1), .string (tx (firstK (sl t)).2.1), .int .i64 (((firstK (sl t)).2.2 : Nat) : Int)]) ∧ Below w.heap.size w w'
set_option maxHeartbeats 1000000 in
set_option maxRecDepth 100000 in
theorem k_First (t : ByteArray) (w : World) (ht : t.size ≤ 60000) :
    Calls Try.prog 47 #[.string t] w (FirstRet t w) := by
  have hlen := sl_len t
  have hB2 := fix_lt (sl_bys t) 2
  by_cases h0 : t.size = 0
  · have hf := first_none (t := sl t) (by omega)
    have htx := txt_empty h0
    have HF := Lib.hid hf
    clear hf hlen hB2
    go_enter Try.func47, Try.ntmps47
    go_wp2
    go_ret3
    exact ⟨by rw [HF.out]; rfl, Below.refl _ _⟩
  have htx := txt_full h0
  by_cases h6 : t.size < 6
  · have hf := first_short (t := sl t) (by omega) (by omega)
    have HF := Lib.hid hf
    have d1 : (t.size : Int) < 6 := by omega
    clear hf hlen hB2
    go_enter Try.func47, Try.ntmps47
    go_wp2
    go_ret3
    exact ⟨by rw [HF.out]; rfl, Below.refl _ _⟩
  have d6 : ¬ (t.size : Int) < 6 := by omega
  obtain ⟨n, hn⟩ : ∃ n, fixN (sl t) 2 = n := ⟨_, rfl⟩
  obtain ⟨t2, ht2⟩ : ∃ t2, t.extract 2 t.size = t2 := ⟨_, rfl⟩
  have ht2z : t2.size = t.size - 2 := by rw [← ht2, ByteArray.size_extract]; omega
  have ht2l : sl t2 = (sl t).drop 2 := by rw [← ht2, sl_tail]
  obtain ⟨v, hv⟩ : ∃ v, fixN (sl t2) 4 = v := ⟨_, rfl⟩
  obtain ⟨b, hb⟩ : ∃ b, t2.extract 4 t2.size = b := ⟨_, rfl⟩
  have hbz : b.size = t.size - 6 := by rw [← hb, ByteArray.size_extract]; omega
  have hbl : sl b = (sl t).drop 6 := by rw [← hb, sl_tail, ht2l, List.drop_drop]
  have hx1 : ∀ w : World, Calls Try.prog 48 #[.string t, .int .i64 2] w fun e w' => e = .returned (.tuple #[.int .u64 (n : Int), .string t2, .int .i64 0]) ∧ Below w.heap.size w w' :=
    fun w => v_Fixed t 2 w (by omega) (by omega) (by omega) n 0 t2 (.inl ⟨by omega, hn, ht2, rfl⟩)
  have hx2 : ∀ w : World, Calls Try.prog 48 #[.string t2, .int .i64 4] w fun e w' => e = .returned (.tuple #[.int .u64 (v : Int), .string b, .int .i64 0]) ∧ Below w.heap.size w w' :=
    fun w => v_Fixed t2 4 w (by omega) (by omega) (by omega) v 0 b (.inl ⟨by omega, hv, hb, rfl⟩)
  have HX1 := Lib.hid hx1
  have HX2 := Lib.hid hx2
  clear hx1 hx2
  have hv4 : v < 4294967296 := by rw [← hv]; exact fix_lt (sl_bys t2) 4
  rw [hn] at hB2
  have s2 : (2 : Int) ≤ (t.size : Int) := by omega
  have hwb : IntKind.u64.wrap (b.size : Int) = (b.size : Int) := wraps_u64 _ (by omega) (by omega)
  by_cases hc : 1024 < n
  · have hf := first_cap (t := sl t) (by omega) (by omega)
    have HF := Lib.hid hf
    have d1 : (1024 : Int) < (n : Int) := by omega
    clear hf hlen ht2l hbl hb hv hn ht2z hbz
    go_enter Try.func47, Try.ntmps47
    go_wp2_with (go_at_call 48; first | ((with_reducible refine (HX1.out _).mono ?_); rintro e w1 ⟨rfl, hb1⟩) | ((with_reducible refine (HX2.out _).mono ?_); rintro e w2 ⟨rfl, hb2⟩))
    go_ret3
    exact ⟨by rw [HF.out]; rfl, hb1.trans (hb2.mono hb1.size)⟩
  have d3 : ¬ (1024 : Int) < (n : Int) := by omega
  by_cases hl : b.size < n
  · have hf := first_less (t := sl t) (by omega) (by omega) (by omega)
    have HF := Lib.hid hf
    have d1 : (b.size : Int) < (n : Int) := by omega
    clear hf hlen ht2l hbl hb hv hn ht2z hbz
    go_enter Try.func47, Try.ntmps47
    go_wp2_with (go_at_call 48; first | ((with_reducible refine (HX1.out _).mono ?_); rintro e w1 ⟨rfl, hb1⟩) | ((with_reducible refine (HX2.out _).mono ?_); rintro e w2 ⟨rfl, hb2⟩))
    go_ret3
    exact ⟨by rw [HF.out]; rfl, hb1.trans (hb2.mono hb1.size)⟩
  have d4 : ¬ (b.size : Int) < (n : Int) := by omega
  have s3 : (n : Int) ≤ (b.size : Int) := by omega
  have s4 : (0 : Int) ≤ (n : Int) := by omega
  obtain ⟨h2, hh2⟩ : ∃ h2, t.extract 0 2 = h2 := ⟨_, rfl⟩
  have hh2z : h2.size = 2 := by rw [← hh2, ByteArray.size_extract]; omega
  have hh2l : sl h2 = (sl t).take 2 := by rw [← hh2, sl_head]
  obtain ⟨c, hc2⟩ : ∃ c, b.extract 0 n = c := ⟨_, rfl⟩
  have hcz : c.size = n := by rw [← hc2, ByteArray.size_extract]; omega
  have hcl : sl c = ((sl t).drop 6).take n := by rw [← hc2, sl_head, hbl]
  obtain ⟨r, hr⟩ : ∃ r, b.extract n b.size = r := ⟨_, rfl⟩
  have hrl : sl r = (sl t).drop (6 + n) := by rw [← hr, sl_tail, hbl, List.drop_drop]
  have hcat := fun w' => run_string_add_sum (P := Try.prog) w' h2 c (by omega)
  have hsum := fun w => k_Sum (h2 ++ c) w (by rw [ByteArray.size_append]; omega)
  have hlt : sumK (sl (h2 ++ c)) < 4294967296 := sumK_lt (sl_bys _)
  have hsl : sl (h2 ++ c) = (sl t).take 2 ++ ((sl t).drop 6).take n := by rw [sl_app, hh2l, hcl]
  rw [hsl] at hlt
  simp only [hsl] at hsum
  obtain ⟨S, hS⟩ : ∃ S, sumK ((sl t).take 2 ++ ((sl t).drop 6).take n) = S := ⟨_, rfl⟩
  rw [hS] at hlt
  simp only [hS] at hsum
  have HSum := Lib.hid hsum
  have hwS : IntKind.u64.wrap (S : Int) = (S : Int) := wraps_u64 _ (by omega) (by omega)
  clear hsum hsl
  by_cases hq : S = v
  · have hf := first_ok (t := sl t) (by omega) (by omega) (by omega) (by rw [hn, ← ht2l, hv]; exact hS.trans hq)
    rw [hn, ← hcl, ← hrl] at hf
    have HF := Lib.hid hf
    have hqb : ((S : Int) == (v : Int)) = true := by simp [hq]
    have hqe : (S : Int) = (v : Int) := by rw [hq]
    clear hf hlen ht2l hbl hb hv hn ht2z hbz hS hq hh2l hcl hrl hqe
    go_enter Try.func47, Try.ntmps47
    go_wp2_with (first | (go_at_call 48; first | ((with_reducible refine (HX1.out _).mono ?_); rintro e w1 ⟨rfl, hb1⟩) | ((with_reducible refine (HX2.out _).mono ?_); rintro e w2 ⟨rfl, hb2⟩)) | (go_at_call 50; (with_reducible refine (HSum.out _).mono ?_); rintro e w3 ⟨rfl, hb3⟩))
    have hb0 := (hb1.trans (hb2.mono hb1.size)).trans (hb3.mono (by have := hb1.size; have := hb2.size; omega))
    refine region_drew_tail 6 mixed (by kernel_rfl) ?_
    simp only [List.take_succ_cons, List.take_zero, List.drop_succ_cons, List.drop_zero]
    repeat (first | go_big_quiet_step (fail) | quiet_step (fail))
    refine wpQuiet_nil ?_
    rintro _ ⟨nq, rfl⟩
    go_wp2
    go_ret3
    exact ⟨by rw [HF.out, tx_sl, tx_sl]; rfl, below_drewN hb0 nq⟩
  · have hf := first_sum (t := sl t) (by omega) (by omega) (by omega) (by rw [hn, ← ht2l, hv]; exact fun h => hq (hS.symm.trans h))
    have HF := Lib.hid hf
    have hqb : ((S : Int) == (v : Int)) = false := by simp; omega
    clear hf hlen ht2l hbl hb hv hn ht2z hbz hS hh2l hcl hrl
    go_enter Try.func47, Try.ntmps47
    go_wp2_with (first | (go_at_call 48; first | ((with_reducible refine (HX1.out _).mono ?_); rintro e w1 ⟨rfl, hb1⟩) | ((with_reducible refine (HX2.out _).mono ?_); rintro e w2 ⟨rfl, hb2⟩)) | (go_at_call 50; (with_reducible refine (HSum.out _).mono ?_); rintro e w3 ⟨rfl, hb3⟩))
    go_ret3
    exact ⟨by rw [HF.out]; rfl, (hb1.trans (hb2.mono hb1.size)).trans (hb3.mono (by have := hb1.size; have := hb2.size; omega))⟩
end Go.Proofs.Ytccplgicfbfjiaa
namespace Go.Proofs.Ytccplgicfbfjiaa
open Go.RowKit Go.Shelf
set_option linter.unusedVariables false

attribute [local go_sem] Oper.semAt_some

theorem first_ways (t : List Nat) : (∃ x r, firstK t = (x, r, 0)) ∨ ∃ e, firstK t = ([], [], e) ∧ e ≠ 0 ∧ e ≤ 100 := by
  by_cases a : t.length = 0
  · exact .inr ⟨_, first_none a, by decide, by decide⟩
  by_cases b : t.length < 6
  · exact .inr ⟨_, first_short a b, by decide, by decide⟩
  by_cases c : 1024 < fixN t 2
  · exact .inr ⟨_, first_cap b c, by decide, by decide⟩
  by_cases d : t.length < 6 + fixN t 2
  · exact .inr ⟨_, first_less b c d, by decide, by decide⟩
  by_cases e : sumK (t.take 2 ++ (t.drop 6).take (fixN t 2)) = fixN (t.drop 2) 4
  · exact .inl ⟨_, _, first_ok b c d e⟩
  · exact .inr ⟨_, first_sum b c d e, by decide, by decide⟩
theorem first_not {t : List Nat} (h : (firstK t).2.2 ≠ 0) : firstK t = ([], [], (firstK t).2.2) := by
  rcases first_ways t with ⟨x, r, e⟩ | ⟨e, h1, _⟩
  · rw [e] at h; exact absurd rfl h
  · rw [h1]
theorem first_err (t : List Nat) : (firstK t).2.2 ≤ 100 := by
  rcases first_ways t with ⟨x, r, e⟩ | ⟨e, h1, _, h2⟩
  · rw [e]; exact Nat.zero_le _
  · rw [h1]; exact h2
theorem k_First_ok (t : ByteArray) (w : World) (ht : t.size ≤ 60000) (x r : List Nat) (h : firstK (sl t) = (x, r, 0)) :
    Calls Try.prog 47 #[.string t] w fun e w' => e = .returned (.tuple #[.string (tx x), .string (tx r), .int .i64 0]) ∧ Below w.heap.size w w' := by
  have := k_First t w ht
  unfold FirstRet at this
  rw [h] at this
  exact this
theorem k_First_no (t : ByteArray) (w : World) (ht : t.size ≤ 60000) (h : (firstK (sl t)).2.2 ≠ 0) :
    Calls Try.prog 47 #[.string t] w fun e w' => e = .returned (.tuple #[.string ⟨#[]⟩, .string ⟨#[]⟩, .int .i64 (((firstK (sl t)).2.2 : Nat) : Int)]) ∧ Below w.heap.size w w' := by
  have := k_First t w ht
  unfold FirstRet at this
  rw [first_not h] at this
  exact this
/-- the frames that a text begins by: what is in each, and what is behind it -/
def frF : Nat → List Nat → List (List Nat × List Nat)
  | 0, _ => []
  | f + 1, t => if (firstK t).2.2 ≠ 0 then [] else ((firstK t).1, (firstK t).2.1) :: frF f (firstK t).2.1
def frL (t : List Nat) : List (List Nat × List Nat) := frF (t.length + 1) t
theorem frF_fuel : ∀ (f g : Nat) (t : List Nat), t.length < f → t.length < g → frF f t = frF g t
  | 0, _, t, h, _ => by omega
  | _, 0, t, _, h => by omega
  | f + 1, g + 1, t, hf, hg => by
    rw [frF, frF]
    split
    · rfl
    · rename_i h
      have h0 : (firstK t).2.2 = 0 := by simpa using h
      have hi := first_is (t := t) (x := (firstK t).1) (r := (firstK t).2.1) (by rw [← h0])
      rw [frF_fuel f g (firstK t).2.1 (by omega) (by omega)]
theorem frL_step {t x r : List Nat} (h : firstK t = (x, r, 0)) : frL t = (x, r) :: frL r := by
  have hi := (first_is h).1
  unfold frL
  rw [frF, h]
  simp only [ne_eq, not_true_eq_false, if_false]
  rw [frF_fuel t.length (r.length + 1) r (by omega) (by omega)]
theorem frL_stop {t : List Nat} (h : (firstK t).2.2 ≠ 0) : frL t = [] := by unfold frL; rw [frF, if_pos h]
theorem frF_len : ∀ (f : Nat) (t : List Nat), (frF f t).length ≤ t.length
  | 0, t => Nat.zero_le _
  | f + 1, t => by
    rw [frF]
    split
    · exact Nat.zero_le _
    · rename_i h
      have h0 : (firstK t).2.2 = 0 := by simpa using h
      have hi := first_is (t := t) (x := (firstK t).1) (r := (firstK t).2.1) (by rw [← h0])
      have ih := frF_len f (firstK t).2.1
      rw [List.length_cons]
      omega
theorem frL_len (t : List Nat) : (frL t).length ≤ t.length := frF_len _ _
/-- the bytes of the frames told so far -/
def takenK (n : Nat) (pre : List (List Nat × List Nat)) : Nat := match pre.getLast? with | none => 0 | some x => n - x.2.length
theorem frL_all : ∀ (m : Nat) (t : List Nat), t.length ≤ m → (frL t).map (·.1) = (allK t).1 ∧ ∀ n, t.length ≤ n → takenK n (frL t) = if frL t = [] then 0 else n - t.length + (allK t).2
  | m, t, hm => by
    by_cases h : (firstK t).2.2 = 0
    · have hf : firstK t = ((firstK t).1, (firstK t).2.1, 0) := by rw [← h]
      obtain ⟨x, hx⟩ : ∃ x, (firstK t).1 = x := ⟨_, rfl⟩
      obtain ⟨r, hr⟩ : ∃ r, (firstK t).2.1 = r := ⟨_, rfl⟩
      rw [hx, hr] at hf
      have hi := (first_is hf).1
      match m, hm with
      | 0, hm => omega
      | m + 1, hm =>
        have ih := frL_all m r (by omega)
        rw [frL_step hf, allK_step hf]
        refine ⟨by simp [ih.1], fun n hn => ?_⟩
        rw [if_neg (by simp)]
        by_cases he : frL r = []
        · rw [he]
          have h2 : (allK r).2 = 0 := by
            have h3 := ih.1
            rw [he] at h3
            by_cases h4 : (firstK r).2.2 = 0
            · have hf2 : firstK r = ((firstK r).1, (firstK r).2.1, 0) := by rw [← h4]
              rw [frL_step hf2] at he
              cases he
            · rw [allK_stop h4]
          rw [h2]
          show n - r.length = _
          simp only
          omega
        · have h5 := ih.2 n (by omega)
          rw [if_neg he] at h5
          have h6 : takenK n ((x, r) :: frL r) = takenK n (frL r) := by
            unfold takenK
            rw [List.getLast?_cons]
            cases hl : (frL r).getLast? with
            | none => exact absurd (List.getLast?_eq_none_iff.1 hl) he
            | some y => rfl
          rw [h6, h5]
          simp only
          omega
    · rw [frL_stop h, allK_stop h]
      exact ⟨rfl, fun n hn => rfl⟩
theorem taken_all (t : List Nat) : takenK t.length (frL t) = (allK t).2 ∧ (frL t).map (·.1) = (allK t).1 := by
  have h := frL_all t.length t (Nat.le_refl _)
  refine ⟨?_, h.1⟩
  rw [h.2 _ (Nat.le_refl _)]
  split
  · rename_i he
    by_cases h4 : (firstK t).2.2 = 0
    · have hf2 : firstK t = ((firstK t).1, (firstK t).2.1, 0) := by rw [← h4]
      rw [frL_step hf2] at he
      cases he
    · rw [allK_stop h4]
  · omega
def txtOf (v : Value) : ByteArray := match v with | .string u => u | _ => ⟨#[]⟩
end Go.Proofs.Ytccplgicfbfjiaa
namespace Go.Proofs.Ytccplgicfbfjiaa
open Go.RowKit
set_option linter.unusedVariables false

theorem lit_abc : sl ⟨#[97, 98, 99]⟩ = [97, 98, 99] := by rfl
theorem lit_z : sl ⟨#[122]⟩ = [122] := by rfl
end Go.Proofs.Ytccplgicfbfjiaa
