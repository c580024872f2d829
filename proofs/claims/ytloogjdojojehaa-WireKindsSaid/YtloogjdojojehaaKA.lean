/- The sum of bytes, by plain numbers: that it is linear but for a constant, and that a burst of turned bits changes it. -/
import Derived.Test.YtloogjdojojehaaJ1
import Derived.Test.YtloogjdojojehaaV1
namespace Go.Proofs.Ytloogjdojojehaa
set_option linter.unusedVariables false

/-- one bit's step -/
def tK (n : Nat) : Nat := if n % 2 = 1 then n / 2 ^^^ 3988292384 else n / 2
theorem tK_lt {n : Nat} (h : n < 2 ^ 32) : tK n < 2 ^ 32 := by
  unfold tK
  split
  · exact Nat.xor_lt_two_pow (by omega) (by decide)
  · omega
theorem xor_half (a b : Nat) : (a ^^^ b) / 2 = a / 2 ^^^ b / 2 := by
  apply Nat.eq_of_testBit_eq
  intro i
  rw [Nat.testBit_div_two, Nat.testBit_xor, Nat.testBit_xor, Nat.testBit_div_two, Nat.testBit_div_two]
theorem xor_odd (a b : Nat) : (a ^^^ b) % 2 = (a % 2 + b % 2) % 2 := by
  have h := Nat.testBit_xor a b 0
  rw [Nat.testBit_zero, Nat.testBit_zero, Nat.testBit_zero] at h
  rcases Nat.mod_two_eq_zero_or_one a with ha | ha <;> rcases Nat.mod_two_eq_zero_or_one b with hb | hb <;> rcases Nat.mod_two_eq_zero_or_one (a ^^^ b) with hc | hc <;> rw [ha, hb, hc] at h <;> first | (exact absurd h (by decide)) | (rw [ha, hb, hc])
theorem tK_xor (a b : Nat) : tK (a ^^^ b) = tK a ^^^ tK b := by
  have h := xor_odd a b
  unfold tK
  rw [xor_half]
  by_cases ha : a % 2 = 1
  · by_cases hb : b % 2 = 1
    · rw [if_pos ha, if_pos hb, if_neg (by omega)]
      rw [Nat.xor_assoc, Nat.xor_comm 3988292384, Nat.xor_assoc, Nat.xor_self, Nat.xor_zero]
    · rw [if_pos ha, if_neg hb, if_pos (by omega)]
      rw [Nat.xor_assoc, Nat.xor_comm (b / 2), ← Nat.xor_assoc]
  · by_cases hb : b % 2 = 1
    · rw [if_neg ha, if_pos hb, if_pos (by omega), Nat.xor_assoc]
    · rw [if_neg ha, if_neg hb, if_neg (by omega)]
theorem tK_zero : tK 0 = 0 := by decide
theorem tK_eq_zero {n : Nat} (h : n < 2 ^ 32) (h0 : tK n = 0) : n = 0 := by
  unfold tK at h0
  split at h0
  · have e : n / 2 = 3988292384 := by
      have := congrArg (· ^^^ 3988292384) h0
      simpa [Nat.xor_assoc] using this
    omega
  · omega
/-- k bits' steps -/
def iterK : Nat → Nat → Nat
  | 0, n => n
  | k + 1, n => iterK k (tK n)
theorem iterK_lt : ∀ {k n : Nat}, n < 2 ^ 32 → iterK k n < 2 ^ 32
  | 0, _, h => h
  | k + 1, _, h => iterK_lt (k := k) (tK_lt h)
theorem iterK_xor : ∀ (k a b : Nat), iterK k (a ^^^ b) = iterK k a ^^^ iterK k b
  | 0, _, _ => rfl
  | k + 1, a, b => by
    show iterK k (tK (a ^^^ b)) = _
    rw [tK_xor, iterK_xor k]
    rfl
theorem iterK_eq_zero : ∀ {k n : Nat}, n < 2 ^ 32 → iterK k n = 0 → n = 0
  | 0, _, _, h0 => h0
  | k + 1, _, h, h0 => tK_eq_zero h (iterK_eq_zero (k := k) (tK_lt h) h0)
theorem iterK_add : ∀ (j k n : Nat), iterK (j + k) n = iterK k (iterK j n)
  | 0, k, n => by rw [Nat.zero_add]; rfl
  | j + 1, k, n => by
    rw [show j + 1 + k = (j + k) + 1 by omega]
    show iterK (j + k) (tK n) = _
    rw [iterK_add j k]
    rfl
theorem iterK_double : ∀ {k y : Nat}, iterK (k + 1) (y * 2) = iterK k y := fun {k y} => by
  show iterK k (tK (y * 2)) = _
  unfold tK
  rw [if_neg (by omega), Nat.mul_div_cancel _ (by decide)]
/-- the state behind m bits of b, from n on -/
def serK (b : Nat → Nat) (n : Nat) : Nat → Nat
  | 0 => n
  | m + 1 => tK (serK b n m ^^^ b m)
theorem serK_lt {b : Nat → Nat} (hb : ∀ i, b i < 2) {n : Nat} (hn : n < 2 ^ 32) : ∀ m, serK b n m < 2 ^ 32
  | 0 => hn
  | m + 1 => tK_lt (Nat.xor_lt_two_pow (serK_lt hb hn m) (by have := hb m; omega))
theorem serK_add (b : Nat → Nat) (n m : Nat) : ∀ k, serK b n (m + k) = serK (fun i => b (m + i)) (serK b n m) k
  | 0 => rfl
  | k + 1 => by
    rw [← Nat.add_assoc]
    simp only [serK]
    rw [serK_add b n m k]
theorem serK_congr {b c : Nat → Nat} {n : Nat} : ∀ {m : Nat}, (∀ i, i < m → b i = c i) → serK b n m = serK c n m
  | 0, _ => rfl
  | m + 1, h => by simp only [serK]; rw [serK_congr fun i hi => h i (by omega), h m (by omega)]
theorem serK_zeros {b : Nat → Nat} (n : Nat) : ∀ {m : Nat}, (∀ i, i < m → b i = 0) → serK b n m = iterK m n
  | 0, _ => rfl
  | m + 1, h => by
    simp only [serK]
    rw [serK_zeros n fun i hi => h i (by omega), h m (by omega), Nat.xor_zero, iterK_add m 1 n]
    rfl
theorem serK_xor (b c : Nat → Nat) (n m : Nat) : ∀ k, serK (fun i => b i ^^^ c i) (n ^^^ m) k = serK b n k ^^^ serK c m k
  | 0 => rfl
  | k + 1 => by
    simp only [serK]
    rw [serK_xor b c n m k, ← tK_xor]
    congr 1
    rw [Nat.xor_assoc, Nat.xor_assoc]
    congr 1
    rw [← Nat.xor_assoc, Nat.xor_comm (serK c m k), Nat.xor_assoc]
theorem iterK_pow : ∀ (k x : Nat), iterK k (x * 2 ^ k) = x
  | 0, x => by simp [iterK]
  | k + 1, x => by rw [Nat.pow_succ, ← Nat.mul_assoc, iterK_double, iterK_pow k]
theorem accB_xor {b : Nat → Nat} {k : Nat} (h : ∀ j, b j < 2) : accB b (k + 1) = accB b k ^^^ b k * 2 ^ k := by
  rw [← accB_or fun j _ => h j]
  apply Nat.eq_of_testBit_eq
  intro i
  rw [Nat.testBit_or, Nat.testBit_xor]
  by_cases hi : i < k
  · rw [Nat.testBit_mul_two_pow, show decide (k ≤ i) = false from decide_eq_false (by omega)]
    simp
  · rw [Nat.testBit_lt_two_pow (Nat.lt_of_lt_of_le (accB_lt fun j _ => h j) (Nat.pow_le_pow_right (by decide) (by omega)))]
    simp
/-- up to 32 bits at once -/
theorem serK_chunk {b : Nat → Nat} (hb : ∀ i, b i < 2) (n : Nat) : ∀ m, serK b n m = iterK m (n ^^^ accB b m)
  | 0 => by simp [serK, iterK, accB]
  | m + 1 => by
    simp only [serK]
    rw [serK_chunk hb n m, accB_xor hb, ← Nat.xor_assoc, iterK_xor (m + 1), iterK_add m 1 (n ^^^ accB b m), iterK_add m 1 (b m * 2 ^ m), iterK_pow]
    show tK (iterK m (n ^^^ accB b m) ^^^ b m) = tK _ ^^^ tK _
    rw [tK_xor]
/-- a burst is no nothing -/
theorem serK_burst {b : Nat → Nat} (hb : ∀ i, b i < 2) {p N i : Nat} (h0 : ∀ j, j < p → b j = 0) (h1 : ∀ j, p + 32 ≤ j → j < N → b j = 0) (hp : p ≤ i) (hi : i < N) (hi2 : i < p + 32) (hbi : b i = 1) : serK b 0 N ≠ 0 := by
  intro e
  obtain ⟨m, hm⟩ : ∃ m, N = p + m := ⟨N - p, by omega⟩
  have hz : ∀ k, iterK k 0 = 0 := fun k => by
    induction k with
    | zero => rfl
    | succ k ih => show iterK k (tK 0) = 0; rw [tK_zero]; exact ih
  rw [hm, serK_add, serK_zeros 0 h0, hz] at e
  -- the part within 32
  obtain ⟨q, r, hq, hq32, hr⟩ : ∃ q r, m = q + r ∧ q ≤ 32 ∧ (r = 0 ∨ q = 32) := by
    by_cases h : m ≤ 32
    · exact ⟨m, 0, by omega, h, .inl rfl⟩
    · exact ⟨32, m - 32, by omega, Nat.le_refl _, .inr rfl⟩
  rw [hq, serK_add, serK_zeros (b := fun j => b (p + (q + j))) _ (m := r) (fun j hj => h1 _ (by omega) (by omega)), serK_chunk (fun j => hb _)] at e
  have hlt : accB (fun j => b (p + j)) q < 2 ^ 32 := Nat.lt_of_lt_of_le (accB_lt fun j _ => hb _) (Nat.pow_le_pow_right (by decide) hq32)
  have e1 := iterK_eq_zero (iterK_lt (by rw [Nat.zero_xor]; exact hlt)) e
  have e2 := iterK_eq_zero (by rw [Nat.zero_xor]; exact hlt) e1
  rw [Nat.zero_xor] at e2
  have hbit := accB_bit (b := fun j => b (p + j)) (k := q) (fun j _ => hb _) (i := i - p) (by omega)
  rw [e2, Nat.zero_div] at hbit
  simp only [show p + (i - p) = i by omega] at hbit
  omega
/-! ### bytes -/
def stepK (n c : Nat) : Nat := iterK 8 (n ^^^ c)
def foldK (n : Nat) (s : List Nat) : Nat := s.foldl stepK n
/-- the sum of bytes -/
def sumK (s : List Nat) : Nat := foldK 4294967295 s ^^^ 4294967295
theorem foldK_lt {s : List Nat} (h : Bys s) {n : Nat} (hn : n < 2 ^ 32) : foldK n s < 2 ^ 32 := by
  induction s generalizing n with
  | nil => exact hn
  | cons c s ih =>
    have hc : c < 256 := h.mem (by simp)
    exact ih (Bys.of fun x hx => h.mem (by simp [hx])) (iterK_lt (Nat.xor_lt_two_pow hn (by omega)))
theorem sumK_lt {s : List Nat} (h : Bys s) : sumK s < 2 ^ 32 := Nat.xor_lt_two_pow (foldK_lt h (by decide)) (by decide)
theorem bitAt_cons (c : Nat) (s : List Nat) (i : Nat) : bitAt (c :: s) (8 + i) = bitAt s i := by
  unfold bitAt
  rw [show (8 + i) / 8 = i / 8 + 1 by omega, show (8 + i) % 8 = i % 8 by omega]
  rfl
theorem foldK_bits : ∀ {s : List Nat}, Bys s → ∀ n, foldK n s = serK (bitAt s) n (8 * s.length)
  | [], _, n => rfl
  | c :: s, h, n => by
    have hc : c < 256 := h.mem (by simp)
    have e1 : serK (bitAt (c :: s)) n 8 = stepK n c := by
      rw [serK_chunk (fun i => bitAt_lt _ _)]
      unfold stepK
      rw [← accB_bits c (show c < 2 ^ 8 by omega)]
      congr 2
      refine accB_congr fun j hj => ?_
      unfold bitAt
      rw [show j / 8 = 0 by omega, show j % 8 = j by omega, accB_bits c (show c < 2 ^ 8 by omega)]
      rfl
    show foldK (stepK n c) s = _
    rw [List.length_cons, show 8 * (s.length + 1) = 8 + 8 * s.length by omega, serK_add, e1, foldK_bits (Bys.of fun x hx => h.mem (by simp [hx]))]
    exact serK_congr fun i _ => (bitAt_cons c s i).symm
/-- texts of one length that differ by a burst have other sums -/
theorem sumK_ne {a b : List Nat} (ha : Bys a) (hb : Bys b) (hl : a.length = b.length) (h : serK (fun i => bitAt a i ^^^ bitAt b i) 0 (8 * a.length) ≠ 0) : sumK a ≠ sumK b := by
  intro e
  have e1 : foldK 4294967295 a = foldK 4294967295 b := by
    have := congrArg (· ^^^ 4294967295) e
    simpa [sumK, Nat.xor_assoc] using this
  rw [foldK_bits ha, foldK_bits hb, ← hl] at e1
  have h2 := serK_xor (bitAt a) (bitAt b) 4294967295 4294967295 (8 * a.length)
  rw [e1, Nat.xor_self, Nat.xor_self] at h2
  exact h h2
/-- bit i of two bytes held against each other -/
theorem bitAt_xor (a b : List Nat) (i : Nat) : bitAt a i ^^^ bitAt b i = (a.getD (i / 8) 0 ^^^ b.getD (i / 8) 0) / 2 ^ (i % 8) % 2 := by
  unfold bitAt
  generalize a.getD (i / 8) 0 = x
  generalize b.getD (i / 8) 0 = y
  generalize i % 8 = k
  apply Nat.eq_of_testBit_eq
  intro j
  rw [Nat.testBit_xor]
  have key : ∀ z, (z / 2 ^ k % 2).testBit j = (decide (j = 0) && z.testBit k) := fun z => by
    cases j with
    | zero =>
      rw [Nat.testBit_zero, Nat.mod_mod, Nat.testBit_eq_decide_div_mod_eq]
      simp
    | succ j => simp [Nat.testBit_lt_two_pow (show z / 2 ^ k % 2 < 2 ^ (j + 1) from Nat.lt_of_lt_of_le (Nat.mod_lt _ (by decide)) (by rw [Nat.pow_succ]; have := Nat.two_pow_pos j; omega))]
  rw [key, key, key, Nat.testBit_xor]
  cases decide (j = 0) <;> simp
/-- sums of three -/
theorem sumK_xor {a b c d : List Nat} (ha : Bys a) (hb : Bys b) (hc : Bys c) (hd : Bys d) (hab : b.length = a.length) (hac : c.length = a.length) (had : d.length = a.length) (h : ∀ i, i < a.length → d.getD i 0 = a.getD i 0 ^^^ b.getD i 0 ^^^ c.getD i 0) :
    sumK d = sumK a ^^^ sumK b ^^^ sumK c := by
  have hx : ∀ x y z : Nat, bitAt d x = bitAt a x ^^^ bitAt b x ^^^ bitAt c x ∨ 8 * a.length ≤ x := fun x _ _ => by
    rcases Nat.lt_or_ge x (8 * a.length) with hlt | hge
    · left
      have h1 := bitAt_xor a b x
      have e : ∀ (u v : Nat), (u / 2 ^ (x % 8) % 2) ^^^ (v / 2 ^ (x % 8) % 2) = (u ^^^ v) / 2 ^ (x % 8) % 2 := fun u v => by
        have := bitAt_xor (List.replicate (x / 8 + 1) u) (List.replicate (x / 8 + 1) v) x
        unfold bitAt at this
        have g : ∀ w : Nat, (List.replicate (x / 8 + 1) w).getD (x / 8) 0 = w := fun w => by
          rw [List.getD_eq_getElem?_getD, List.getElem?_replicate, if_pos (by omega)]; rfl
        rw [g, g] at this
        exact this
      unfold bitAt
      rw [h (x / 8) (by omega), ← e, ← e]
    · exact .inr hge
  unfold sumK
  rw [foldK_bits ha, foldK_bits hb, foldK_bits hc, foldK_bits hd, hab, hac, had]
  have e1 : serK (bitAt d) 4294967295 (8 * a.length) = serK (fun i => bitAt a i ^^^ bitAt b i ^^^ bitAt c i) (4294967295 ^^^ 4294967295 ^^^ 4294967295) (8 * a.length) := by
    rw [Nat.xor_self, Nat.zero_xor]
    exact serK_congr fun i hi => by
      rcases hx i 0 0 with h | h
      · exact h
      · omega
  rw [e1, serK_xor, serK_xor]
  generalize serK (bitAt a) _ _ = A
  generalize serK (bitAt b) _ _ = B
  generalize serK (bitAt c) _ _ = C
  generalize (4294967295 : Nat) = F
  apply Nat.eq_of_testBit_eq
  intro i
  simp only [Nat.testBit_xor]
  cases A.testBit i <;> cases B.testBit i <;> cases C.testBit i <;> cases F.testBit i <;> rfl
end Go.Proofs.Ytloogjdojojehaa
namespace Go.Proofs.Ytloogjdojojehaa
set_option linter.unusedVariables false

/-- a frame -/
def frameK (s : List Nat) : List Nat := bigL s.length 2 ++ (bigL (sumK (bigL s.length 2 ++ s)) 4 ++ s)
theorem frame_len (s : List Nat) : (frameK s).length = 6 + s.length := by
  unfold frameK
  rw [List.length_append, List.length_append, big_len, big_len]
  omega
theorem frame_bys {s : List Nat} (h : Bys s) : Bys (frameK s) := (big_bys _ _).app ((big_bys _ _).app h)
/-- what a text begins by: what is framed, what is behind it, the error -/
def firstK (t : List Nat) : List Nat × List Nat × Nat :=
  if t.length = 0 then ([], [], 3)
  else if t.length < 6 then ([], [], 40)
  else if 1024 < fixN t 2 then ([], [], 90)
  else if t.length < 6 + fixN t 2 then ([], [], 40)
  else if sumK (t.take 2 ++ (t.drop 6).take (fixN t 2)) ≠ fixN (t.drop 2) 4 then ([], [], 100)
  else ((t.drop 6).take (fixN t 2), t.drop (6 + fixN t 2), 0)
theorem frame_fix (s r : List Nat) (hl : s.length ≤ 1024) : fixN (frameK s ++ r) 2 = s.length := by
  unfold frameK
  rw [List.append_assoc, fix_put]
  exact Nat.mod_eq_of_lt (by omega)
theorem frame_parts (s r : List Nat) : (frameK s ++ r).take 2 = bigL s.length 2 ∧ (frameK s ++ r).drop 2 = bigL (sumK (bigL s.length 2 ++ s)) 4 ++ (s ++ r) ∧ (frameK s ++ r).drop 6 = s ++ r := by
  have h2 := big_len s.length 2
  have h4 := big_len (sumK (bigL s.length 2 ++ s)) 4
  unfold frameK
  generalize bigL (sumK (bigL s.length 2 ++ s)) 4 = b at *
  generalize bigL s.length 2 = a at *
  refine ⟨?_, ?_, ?_⟩
  · rw [List.append_assoc, List.take_append_of_le_length (by omega), List.take_of_length_le (by omega)]
  · rw [List.append_assoc, List.drop_append_of_le_length (by omega), List.drop_of_length_le (by omega), List.nil_append, List.append_assoc]
  · rw [List.append_assoc, List.append_assoc, show 6 = a.length + (b.length + 0) by omega, List.drop_length_add_append, List.drop_length_add_append]
    rfl
/-- what was framed is found -/
theorem first_frame {s : List Nat} (hs : Bys s) (hl : s.length ≤ 1024) (r : List Nat) : firstK (frameK s ++ r) = (s, r, 0) := by
  have hf := frame_fix s r hl
  have hn := frame_len s
  obtain ⟨p1, p2, p3⟩ := frame_parts s r
  have hsum : fixN ((frameK s ++ r).drop 2) 4 = sumK (bigL s.length 2 ++ s) := by
    rw [p2, fix_put]
    exact Nat.mod_eq_of_lt (sumK_lt ((big_bys _ _).app hs))
  have hlen : (frameK s ++ r).length = 6 + s.length + r.length := by rw [List.length_append, hn]
  have hd : (frameK s ++ r).drop (6 + s.length) = r := by rw [List.drop_append_of_le_length (by omega), List.drop_of_length_le (by omega), List.nil_append]
  unfold firstK
  rw [hf, hsum, p1, p3, hd, hlen, if_neg (by omega), if_neg (by omega), if_neg (by omega), if_neg (by omega), List.take_append_of_le_length (Nat.le_refl _), List.take_length, if_neg (fun h => h rfl)]
/-- a frame that is cut is none -/
theorem first_cut {s : List Nat} (hl : s.length ≤ 1024) {j : Nat} (hj : j < (frameK s).length) : (firstK ((frameK s).take j)).2.2 ≠ 0 := by
  have hn := frame_len s
  have hlen : ((frameK s).take j).length = j := by rw [List.length_take]; omega
  unfold firstK
  rw [hlen]
  by_cases h0 : j = 0
  · rw [if_pos h0]; decide
  · rw [if_neg h0]
    by_cases h6 : j < 6
    · rw [if_pos h6]; decide
    · have hf : fixN ((frameK s).take j) 2 = s.length := by
        have h1 := fix_left ((frameK s).take j) ((frameK s).drop j) 2 (by omega)
        rw [List.take_append_drop] at h1
        have h2 := frame_fix s [] hl
        rw [List.append_nil] at h2
        rw [← h1, h2]
      rw [if_neg h6, hf, if_neg (by omega), if_pos (by omega)]
      decide
/-- what First tells, it tells of the text's beginning -/
theorem first_is {t x r : List Nat} (h : firstK t = (x, r, 0)) : t.length = 6 + x.length + r.length ∧ x = (t.drop 6).take x.length ∧ r = t.drop (6 + x.length) ∧ x.length ≤ 1024 := by
  unfold firstK at h
  split at h
  · simp at h
  · split at h
    · simp at h
    · split at h
      · simp at h
      · split at h
        · simp at h
        · split at h
          · simp at h
          · rename_i h1 h2 h3 h4 h5
            simp only [Prod.mk.injEq, and_true] at h
            obtain ⟨rfl, rfl⟩ := h
            have e : ((t.drop 6).take (fixN t 2)).length = fixN t 2 := by rw [List.length_take, List.length_drop]; omega
            rw [e]
            exact ⟨by rw [List.length_drop]; omega, rfl, rfl, by omega⟩
/-- all frames that a text begins by, and how many bytes they have -/
def allF : Nat → List Nat → List (List Nat) × Nat
  | 0, _ => ([], 0)
  | f + 1, t => if (firstK t).2.2 ≠ 0 then ([], 0) else ((firstK t).1 :: (allF f (firstK t).2.1).1, 6 + (firstK t).1.length + (allF f (firstK t).2.1).2)
def allK (t : List Nat) : List (List Nat) × Nat := allF (t.length + 1) t
theorem allF_stop {t : List Nat} (h : (firstK t).2.2 ≠ 0) : ∀ f, allF f t = ([], 0)
  | 0 => rfl
  | f + 1 => by rw [allF, if_pos h]
theorem first_nil : (firstK []).2.2 ≠ 0 := by decide
theorem allF_fuel : ∀ (f g : Nat) (t : List Nat), t.length < f → t.length < g → allF f t = allF g t
  | 0, _, t, h, _ => by omega
  | _, 0, t, _, h => by omega
  | f + 1, g + 1, t, hf, hg => by
    rw [allF, allF]
    split
    · rfl
    · rename_i h
      have h0 : (firstK t).2.2 = 0 := by simpa using h
      have hi := first_is (t := t) (x := (firstK t).1) (r := (firstK t).2.1) (by rw [← h0])
      rw [allF_fuel f g (firstK t).2.1 (by omega) (by omega)]
theorem allK_step {t x r : List Nat} (h : firstK t = (x, r, 0)) : allK t = (x :: (allK r).1, 6 + x.length + (allK r).2) := by
  have hi := (first_is h).1
  unfold allK
  rw [allF, h]
  simp only [ne_eq, not_true_eq_false, if_false]
  rw [allF_fuel t.length (r.length + 1) r (by omega) (by omega)]
theorem allK_stop {t : List Nat} (h : (firstK t).2.2 ≠ 0) : allK t = ([], 0) := allF_stop h _
/-- frames one behind the other -/
def framesK (l : List (List Nat)) : List Nat := l.flatMap frameK
/-- all of them are found, and nothing of what is no frame -/
theorem all_frames : ∀ (l : List (List Nat)) (r : List Nat), (∀ s ∈ l, Bys s ∧ s.length ≤ 1024) → (firstK r).2.2 ≠ 0 → allK (framesK l ++ r) = (l, (framesK l).length)
  | [], r, _, hr => allK_stop hr
  | s :: l, r, hl, hr => by
    have h0 := hl s (by simp)
    have e : framesK (s :: l) ++ r = frameK s ++ (framesK l ++ r) := by unfold framesK; rw [List.flatMap_cons, List.append_assoc]
    have ih := all_frames l r (fun x hx => hl x (by simp [hx])) hr
    rw [e, allK_step (first_frame h0.1 h0.2 _), ih]
    unfold framesK
    rw [List.flatMap_cons, List.length_append, frame_len]
/-- the first m of them are whole in the first k bytes -/
def endK (l : List (List Nat)) (m : Nat) : Nat := (framesK (l.take m)).length
theorem endK_step (l : List (List Nat)) {m : Nat} (h : m < l.length) : endK l (m + 1) = endK l m + (6 + l[m].length) := by
  unfold endK framesK
  rw [List.take_succ_eq_append_getElem h, List.flatMap_append, List.length_append]
  simp [frame_len]
theorem cut_frames (l : List (List Nat)) {m k : Nat} (hm : m < l.length) (h1 : endK l m ≤ k) (h2 : k < endK l (m + 1)) : (framesK l).take k = framesK (l.take m) ++ (frameK l[m]).take (k - endK l m) := by
  have e : framesK l = framesK (l.take m) ++ (frameK l[m] ++ framesK (l.drop (m + 1))) := by
    have : l = l.take m ++ (l[m] :: l.drop (m + 1)) := by rw [← List.drop_eq_getElem_cons hm, List.take_append_drop]
    conv => lhs; rw [this]
    unfold framesK
    rw [List.flatMap_append, List.flatMap_cons]
  have hs := endK_step l hm
  have hfl := frame_len l[m]
  have h3 : (framesK (l.take m)).length = endK l m := rfl
  rw [e, List.take_append, h3, List.take_of_length_le (by omega), List.take_append_of_le_length (by omega)]
/-- of frames that are cut all whole ones are found -/
theorem all_cut {l : List (List Nat)} (hl : ∀ s ∈ l, Bys s ∧ s.length ≤ 1024) {m k : Nat} (hm : m ≤ l.length) (h1 : endK l m ≤ k) (h2 : m < l.length → k < endK l (m + 1)) : allK ((framesK l).take k) = (l.take m, endK l m) := by
  have hl' : ∀ s ∈ l.take m, Bys s ∧ s.length ≤ 1024 := fun s hs => hl s (List.mem_of_mem_take hs)
  rcases Nat.lt_or_ge m l.length with h | h
  · have h0 := hl l[m] (List.getElem_mem h)
    have hs := endK_step l h
    have hk := h2 h
    rw [cut_frames l h h1 hk]
    exact all_frames (l.take m) _ hl' (first_cut h0.2 (by rw [frame_len]; omega))
  · have e : l.take m = l := List.take_of_length_le h
    have e2 : (framesK l).take k = framesK l ++ [] := by
      rw [List.append_nil]
      refine List.take_of_length_le ?_
      unfold endK at h1
      rw [e] at h1
      exact h1
    have h3 := all_frames l [] hl first_nil
    unfold endK
    rw [e, e2, h3]
end Go.Proofs.Ytloogjdojojehaa
namespace Go.Proofs.Ytloogjdojojehaa
set_option linter.unusedVariables false

theorem split8 (n : Nat) : (n % 2 ^ 8) ^^^ (n / 2 ^ 8 * 2 ^ 8) = n := by
  apply Nat.eq_of_testBit_eq
  intro i
  rw [Nat.testBit_xor, Nat.testBit_mod_two_pow, Nat.testBit_mul_two_pow, Nat.testBit_div_two_pow]
  by_cases h : i < 8
  · have h' : ¬ 8 ≤ i := by omega
    simp [h, h']
  · have h' : 8 ≤ i := by omega
    simp [h, h', show i - 8 + 8 = i by omega]
/-- a step by a table of what eight steps make of each byte -/
theorem step_table (n c : Nat) : stepK n c = iterK 8 ((n % 256) ^^^ c) ^^^ n / 256 := by
  have h := split8 n
  have e : n ^^^ c = ((n % 256) ^^^ c) ^^^ (n / 256 * 2 ^ 8) := by
    conv => lhs; rw [← h]
    rw [Nat.xor_assoc, Nat.xor_comm (n / 2 ^ 8 * 2 ^ 8) c, ← Nat.xor_assoc]
  unfold stepK
  rw [e, iterK_xor, iterK_pow]
/-- the table -/
def tabK : List Nat := (List.range 256).map (iterK 8)
theorem tab_len : tabK.length = 256 := by simp [tabK]
theorem tab_getD {j : Nat} (h : j < 256) : tabK.getD j 0 = iterK 8 j := map_range_getD _ _ _ h
theorem tab_lt {j : Nat} (h : j < 256) : tabK.getD j 0 < 2 ^ 32 := by rw [tab_getD h]; exact iterK_lt (by omega)
theorem foldK_snoc (n : Nat) (s : List Nat) (c : Nat) : foldK n (s ++ [c]) = stepK (foldK n s) c := by
  unfold foldK
  rw [List.foldl_append]
  rfl
theorem foldK_take (n : Nat) (s : List Nat) {j : Nat} (h : j < s.length) : foldK n (s.take (j + 1)) = stepK (foldK n (s.take j)) (s.getD j 0) := by
  rw [take_snoc s j h, foldK_snoc]
/-! ### bits turned -/
/-- bit j turned -/
def flipK (b : List Nat) (j : Nat) : List Nat := b.set (j / 8) (b.getD (j / 8) 0 ^^^ 2 ^ (j % 8))
theorem flip_len (b : List Nat) (j : Nat) : (flipK b j).length = b.length := by simp [flipK]
theorem flip_bys {b : List Nat} (h : Bys b) (j : Nat) : Bys (flipK b j) := by
  unfold flipK
  intro i
  rcases Nat.lt_or_ge (j / 8) b.length with hj | hj
  · rw [getD_set _ _ _ _ hj]
    split
    · exact Nat.xor_lt_two_pow (n := 8) (h _) (Nat.pow_lt_pow_right (by decide) (Nat.mod_lt _ (by decide)))
    · exact h i
  · rw [List.set_eq_of_length_le hj]
    exact h i
theorem bit_flip {b : List Nat} {j : Nat} (h : j / 8 < b.length) (i : Nat) : bitAt (flipK b j) i = bitAt b i ^^^ (if i = j then 1 else 0) := by
  unfold bitAt flipK
  rw [getD_set _ _ _ _ h]
  by_cases e : j / 8 = i / 8
  · rw [if_pos e, e, ← Nat.shiftRight_eq_div_pow, ← Nat.shiftRight_eq_div_pow, Nat.shiftRight_xor_distrib]
    have h1 : ∀ x : Nat, (x >>> (i % 8)) % 2 = (x.testBit (i % 8)).toNat := fun x => by
      rw [Nat.testBit_eq_decide_div_mod_eq, Nat.shiftRight_eq_div_pow]
      have := Nat.mod_lt (x / 2 ^ (i % 8)) (show 0 < 2 by decide)
      rcases (show x / 2 ^ (i % 8) % 2 = 0 ∨ x / 2 ^ (i % 8) % 2 = 1 by omega) with h | h <;> simp [h]
    rw [← Nat.shiftRight_xor_distrib, h1, h1, Nat.testBit_xor, Nat.testBit_two_pow]
    by_cases e2 : i = j
    · subst e2
      rw [if_pos rfl]
      cases (b.getD (i / 8) 0).testBit (i % 8) <;> simp
    · rw [if_neg e2, Nat.xor_zero]
      have h3 : ¬ j % 8 = i % 8 := fun h3 => e2 (by omega)
      simp [h3]
  · rw [if_neg e, if_neg (fun h2 => e (by rw [h2])), Nat.xor_zero]
/-- four bytes are told by their number -/
theorem fix_inj : ∀ (k : Nat) {a b : List Nat}, Bys a → Bys b → fixN a k = fixN b k → ∀ j, j < k → a.getD j 0 = b.getD j 0
  | 0, _, _, _, _, _, j, hj => by omega
  | k + 1, a, b, ha, hb, h, j, hj => by
    have h1 : fixN a k * 256 + a.getD k 0 = fixN b k * 256 + b.getD k 0 := h
    have h2 := ha k
    have h3 := hb k
    rcases Nat.lt_or_ge j k with h4 | h4
    · exact fix_inj k ha hb (by omega) j h4
    · obtain rfl : j = k := by omega
      omega
/-- a frame with another sum, or with another text of another sum, is none -/
theorem first_other {n : Nat} {c x r : List Nat} (hn : n = x.length) (hl : n ≤ 1024) (hc : c.length = 4) (h : sumK (bigL n 2 ++ x) ≠ fixN c 4) : firstK (bigL n 2 ++ (c ++ (x ++ r))) = ([], [], 100) := by
  have h2 := big_len n 2
  have hf : fixN (bigL n 2 ++ (c ++ (x ++ r))) 2 = n := by rw [fix_put]; exact Nat.mod_eq_of_lt (by omega)
  have hlen : (bigL n 2 ++ (c ++ (x ++ r))).length = 6 + n + r.length := by simp only [List.length_append, h2, hc]; omega
  have p1 : (bigL n 2 ++ (c ++ (x ++ r))).take 2 = bigL n 2 := by rw [List.take_append_of_le_length (by omega), List.take_of_length_le (by omega)]
  have p2 : (bigL n 2 ++ (c ++ (x ++ r))).drop 2 = c ++ (x ++ r) := by rw [List.drop_append_of_le_length (by omega), List.drop_of_length_le (by omega), List.nil_append]
  have p3 : (bigL n 2 ++ (c ++ (x ++ r))).drop 6 = x ++ r := by
    have : (bigL n 2 ++ (c ++ (x ++ r))).drop 6 = ((bigL n 2 ++ (c ++ (x ++ r))).drop 2).drop 4 := by rw [List.drop_drop]
    rw [this, p2, List.drop_append_of_le_length (by omega), List.drop_of_length_le (by omega), List.nil_append]
  have hx : (x ++ r).take n = x := by rw [List.take_append_of_le_length (by omega), List.take_of_length_le (by omega)]
  unfold firstK
  rw [hf, p1, p2, p3, hlen, hx, fix_left c (x ++ r) 4 (by omega), if_neg (by omega), if_neg (by omega), if_neg (by omega), if_neg (by omega), if_pos h]
/-! ### what CheckTurned turns -/
/-- the first i of 32 bits, from place p on, where they are below M: turned, if they are asked -/
def turnK (bits f p M : Nat) : Nat → List Nat → List Nat
  | 0, b => b
  | i + 1, b => if p + i < M ∧ bits / 2 ^ i % 2 = 1 then flipK (turnK bits f p M i b) (f + (p + i)) else turnK bits f p M i b
theorem turn_len (bits f p M : Nat) : ∀ i b, (turnK bits f p M i b).length = b.length
  | 0, b => rfl
  | i + 1, b => by
    unfold turnK
    split
    · rw [flip_len, turn_len]
    · exact turn_len bits f p M i b
theorem turn_bys (bits f p M : Nat) {b : List Nat} (h : Bys b) : ∀ i, Bys (turnK bits f p M i b)
  | 0 => h
  | i + 1 => by
    unfold turnK
    split
    · exact flip_bys (turn_bys bits f p M h i) _
    · exact turn_bys bits f p M h i
/-- is bit j one of those that are turned by the first n? -/
def isT (bits f p M n j : Nat) : Nat := if f + p ≤ j ∧ j < f + M ∧ j < f + p + n ∧ bits / 2 ^ (j - (f + p)) % 2 = 1 then 1 else 0
theorem turn_bit {bits f p M : Nat} {b : List Nat} (hM : f + M ≤ 8 * b.length) : ∀ n j, bitAt (turnK bits f p M n b) j = bitAt b j ^^^ isT bits f p M n j
  | 0, j => by
    have : isT bits f p M 0 j = 0 := if_neg (by omega)
    rw [this, Nat.xor_zero]
    rfl
  | n + 1, j => by
    have ih := turn_bit (bits := bits) (p := p) hM n j
    unfold turnK
    by_cases h : p + n < M ∧ bits / 2 ^ n % 2 = 1
    · rw [if_pos h, bit_flip (by rw [turn_len]; omega), ih]
      by_cases e : j = f + (p + n)
      · have h1 : isT bits f p M n j = 0 := if_neg (by omega)
        have h2 : isT bits f p M (n + 1) j = 1 := if_pos ⟨by omega, by omega, by omega, by rw [show j - (f + p) = n by omega]; exact h.2⟩
        rw [if_pos e, h1, h2, Nat.xor_zero]
      · have h1 : isT bits f p M (n + 1) j = isT bits f p M n j := by
          unfold isT
          by_cases hc : f + p ≤ j ∧ j < f + M ∧ j < f + p + n ∧ bits / 2 ^ (j - (f + p)) % 2 = 1
          · rw [if_pos hc, if_pos ⟨hc.1, hc.2.1, by omega, hc.2.2.2⟩]
          · rw [if_neg hc, if_neg (fun hd => hc ⟨hd.1, hd.2.1, by omega, hd.2.2.2⟩)]
        rw [if_neg e, Nat.xor_zero, h1]
    · rw [if_neg h, ih]
      congr 1
      unfold isT
      by_cases hc : f + p ≤ j ∧ j < f + M ∧ j < f + p + n ∧ bits / 2 ^ (j - (f + p)) % 2 = 1
      · rw [if_pos hc, if_pos ⟨hc.1, hc.2.1, by omega, hc.2.2.2⟩]
      · rw [if_neg hc, if_neg (fun hd => hc ⟨hd.1, hd.2.1, by
          rcases Nat.lt_or_ge j (f + p + n) with h1 | h1
          · exact h1
          · exfalso
            have e : j = f + (p + n) := by omega
            have h2 := hd.2.2.2
            rw [show j - (f + p) = n by omega] at h2
            exact h ⟨by omega, h2⟩, hd.2.2.2⟩)]
/-- was any turned? -/
def anyT (bits p M : Nat) : Nat → Bool
  | 0 => false
  | i + 1 => anyT bits p M i || (decide (p + i < M) && decide (bits / 2 ^ i % 2 = 1))
theorem anyT_none {bits p M : Nat} : ∀ {n : Nat}, anyT bits p M n = false → ∀ f b, turnK bits f p M n b = b
  | 0, _, f, b => rfl
  | n + 1, h, f, b => by
    simp only [anyT, Bool.or_eq_false_iff] at h
    unfold turnK
    rw [if_neg (fun hc => by have := h.2; simp [hc.1, hc.2] at this)]
    exact anyT_none h.1 f b
theorem anyT_some {bits p M : Nat} : ∀ {n : Nat}, anyT bits p M n = true → ∃ i, i < n ∧ p + i < M ∧ bits / 2 ^ i % 2 = 1
  | 0, h => by cases h
  | n + 1, h => by
    simp only [anyT, Bool.or_eq_true] at h
    rcases h with h | h
    · obtain ⟨i, h1, h2, h3⟩ := anyT_some h
      exact ⟨i, by omega, h2, h3⟩
    · simp only [Bool.and_eq_true, decide_eq_true_eq] at h
      exact ⟨n, by omega, h.1, h.2⟩
/-- lists of bytes of the same bits are the same -/
theorem bits_ext {a b : List Nat} (hl : a.length = b.length) (ha : Bys a) (hb : Bys b) (h : ∀ i, i < 8 * a.length → bitAt a i = bitAt b i) : a = b := by
  refine getD_ext a.length rfl hl.symm fun j hj => ?_
  have h8 : ∀ (x y : Nat), x < 256 → y < 256 → (∀ k, k < 8 → x / 2 ^ k % 2 = y / 2 ^ k % 2) → x = y := fun x y hx hy hk => by
    have h0 := hk 0 (by decide)
    have h1 := hk 1 (by decide)
    have h2 := hk 2 (by decide)
    have h3 := hk 3 (by decide)
    have h4 := hk 4 (by decide)
    have h5 := hk 5 (by decide)
    have h6 := hk 6 (by decide)
    have h7 := hk 7 (by decide)
    simp only [Nat.reducePow] at h0 h1 h2 h3 h4 h5 h6 h7
    omega
  refine h8 _ _ (ha j) (hb j) fun k hk => ?_
  have := h (8 * j + k) (by omega)
  unfold bitAt at this
  rw [show (8 * j + k) / 8 = j by omega, show (8 * j + k) % 8 = k by omega] at this
  exact this
theorem bitAt_off (a b : List Nat) (i : Nat) : bitAt (a ++ b) (8 * a.length + i) = bitAt b i := by
  unfold bitAt
  rw [getD_app, if_neg (by omega), show (8 * a.length + i) / 8 - a.length = i / 8 by omega, show (8 * a.length + i) % 8 = i % 8 by omega]
theorem bitAt_in (a b : List Nat) {i : Nat} (h : i < 8 * a.length) : bitAt (a ++ b) i = bitAt a i := by
  unfold bitAt
  rw [getD_app, if_pos (by omega)]
/-- a frame some bits of whose sum are turned is none -/
theorem turned_sum {s r : List Nat} (hs : Bys s) (hl : s.length ≤ 1024) {bits p n : Nat} (h : anyT bits p 32 n = true) : firstK (turnK bits 16 p 32 n (frameK s) ++ r) = ([], [], 100) := by
  have hfl := frame_len s
  obtain ⟨B, hB⟩ : ∃ B, turnK bits 16 p 32 n (frameK s) = B := ⟨_, rfl⟩
  have hBl : B.length = 6 + s.length := by rw [← hB, turn_len, hfl]
  have hBb : Bys B := by rw [← hB]; exact turn_bys _ _ _ _ (frame_bys hs) n
  have hbit : ∀ j, bitAt B j = bitAt (frameK s) j ^^^ isT bits 16 p 32 n j := fun j => by rw [← hB]; exact turn_bit (by omega) n j
  have h2 := big_len s.length 2
  have h4 := big_len (sumK (bigL s.length 2 ++ s)) 4
  -- the three parts
  have e : B = B.take 2 ++ ((B.drop 2).take 4 ++ B.drop 6) := by
    have : B.drop 6 = (B.drop 2).drop 4 := by rw [List.drop_drop]
    rw [this, List.take_append_drop, List.take_append_drop]
  have l1 : (B.take 2).length = 2 := by rw [List.length_take]; omega
  have l2 : ((B.drop 2).take 4).length = 4 := by rw [List.length_take, List.length_drop]; omega
  have l3 : (B.drop 6).length = s.length := by rw [List.length_drop]; omega
  have b1 : B.take 2 = bigL s.length 2 := by
    refine bits_ext (by rw [l1, h2]) (hBb.take 2) (big_bys _ _) fun i hi => ?_
    rw [l1] at hi
    have q1 : bitAt B i = bitAt (B.take 2) i := by
      conv => lhs; rw [e]
      exact bitAt_in _ _ (by omega)
    have q2 : bitAt (frameK s) i = bitAt (bigL s.length 2) i := by unfold frameK; exact bitAt_in _ _ (by omega)
    rw [← q1, hbit, q2, show isT bits 16 p 32 n i = 0 from if_neg (by omega), Nat.xor_zero]
  have b3 : B.drop 6 = s := by
    refine bits_ext l3 (hBb.drop 6) hs fun i hi => ?_
    have q1 : bitAt B (48 + i) = bitAt (B.drop 6) i := by
      conv => lhs; rw [e]
      rw [← List.append_assoc, show 48 + i = 8 * (B.take 2 ++ (B.drop 2).take 4).length + i by rw [List.length_append, l1, l2]]
      exact bitAt_off _ _ i
    have q2 : bitAt (frameK s) (48 + i) = bitAt s i := by
      unfold frameK
      rw [← List.append_assoc, show 48 + i = 8 * (bigL s.length 2 ++ bigL (sumK (bigL s.length 2 ++ s)) 4).length + i by rw [List.length_append, h2, h4]]
      exact bitAt_off _ _ i
    rw [← q1, hbit, q2, show isT bits 16 p 32 n (48 + i) = 0 from if_neg (by omega), Nat.xor_zero]
  have b2 : (B.drop 2).take 4 ≠ bigL (sumK (bigL s.length 2 ++ s)) 4 := fun hh => by
    have hBB : B = frameK s := by
      rw [e, b1, b3, hh]
      rfl
    obtain ⟨i, hi, hp, hbi⟩ := anyT_some h
    have q := hbit (16 + p + i)
    rw [hBB, show isT bits 16 p 32 n (16 + p + i) = 1 from if_pos ⟨by omega, by omega, by omega, by rw [show 16 + p + i - (16 + p) = i by omega]; exact hbi⟩] at q
    have := bitAt_lt (frameK s) (16 + p + i)
    rcases (show bitAt (frameK s) (16 + p + i) = 0 ∨ bitAt (frameK s) (16 + p + i) = 1 by omega) with h0 | h0 <;> rw [h0] at q <;> exact absurd q (by decide)
  have hsum : fixN (bigL (sumK (bigL s.length 2 ++ s)) 4) 4 = sumK (bigL s.length 2 ++ s) := by
    have := fix_put (sumK (bigL s.length 2 ++ s)) 4 []
    rw [List.append_nil] at this
    rw [this]
    exact Nat.mod_eq_of_lt (sumK_lt ((big_bys _ _).app hs))
  rw [hB, e, b1, b3, List.append_assoc, List.append_assoc]
  refine first_other rfl hl l2 fun hh => b2 ?_
  rw [← hsum] at hh
  exact getD_ext 4 l2 h4 fun j hj => (fix_inj 4 (big_bys _ _) ((hBb.drop 2).take 4) hh j hj).symm
/-- a frame some bits of what is framed in it are turned is none, if they are within 32 of one another -/
theorem turned_text {s r : List Nat} (hs : Bys s) (hl : s.length ≤ 1024) {bits p n : Nat} (hn : n ≤ 32) (h : anyT bits p (8 * s.length) n = true) : firstK (turnK bits 48 p (8 * s.length) n (frameK s) ++ r) = ([], [], 100) := by
  have hfl := frame_len s
  obtain ⟨B, hB⟩ : ∃ B, turnK bits 48 p (8 * s.length) n (frameK s) = B := ⟨_, rfl⟩
  have hBl : B.length = 6 + s.length := by rw [← hB, turn_len, hfl]
  have hBb : Bys B := by rw [← hB]; exact turn_bys _ _ _ _ (frame_bys hs) n
  have hbit : ∀ j, bitAt B j = bitAt (frameK s) j ^^^ isT bits 48 p (8 * s.length) n j := fun j => by rw [← hB]; exact turn_bit (by omega) n j
  have h2 := big_len s.length 2
  have h4 := big_len (sumK (bigL s.length 2 ++ s)) 4
  have hh6 : (bigL s.length 2 ++ bigL (sumK (bigL s.length 2 ++ s)) 4).length = 6 := by rw [List.length_append, h2, h4]
  have e : B = B.take 6 ++ B.drop 6 := (List.take_append_drop 6 B).symm
  have l1 : (B.take 6).length = 6 := by rw [List.length_take]; omega
  have l3 : (B.drop 6).length = s.length := by rw [List.length_drop]; omega
  have ef : frameK s = (bigL s.length 2 ++ bigL (sumK (bigL s.length 2 ++ s)) 4) ++ s := by unfold frameK; rw [List.append_assoc]
  have b1 : B.take 6 = bigL s.length 2 ++ bigL (sumK (bigL s.length 2 ++ s)) 4 := by
    refine bits_ext (by rw [l1, hh6]) (hBb.take 6) ((big_bys _ _).app (big_bys _ _)) fun i hi => ?_
    rw [l1] at hi
    have q1 : bitAt B i = bitAt (B.take 6) i := by
      conv => lhs; rw [e]
      exact bitAt_in _ _ (by omega)
    have q2 : bitAt (frameK s) i = bitAt (bigL s.length 2 ++ bigL (sumK (bigL s.length 2 ++ s)) 4) i := by rw [ef]; exact bitAt_in _ _ (by omega)
    rw [← q1, hbit, q2, show isT bits 48 p (8 * s.length) n i = 0 from if_neg (by omega), Nat.xor_zero]
  obtain ⟨x, hx⟩ : ∃ x, B.drop 6 = x := ⟨_, rfl⟩
  rw [hx] at l3
  have hxb : Bys x := by rw [← hx]; exact hBb.drop 6
  have b3 : ∀ i, bitAt x i = bitAt s i ^^^ isT bits 48 p (8 * s.length) n (48 + i) := fun i => by
    have q1 : bitAt B (48 + i) = bitAt x i := by
      conv => lhs; rw [e]
      rw [hx, show 48 + i = 8 * (B.take 6).length + i by rw [l1]]
      exact bitAt_off _ _ i
    have q2 : bitAt (frameK s) (48 + i) = bitAt s i := by
      rw [ef, show 48 + i = 8 * (bigL s.length 2 ++ bigL (sumK (bigL s.length 2 ++ s)) 4).length + i by rw [hh6]]
      exact bitAt_off _ _ i
    rw [← q1, hbit, q2]
  have hsum : fixN (bigL (sumK (bigL s.length 2 ++ s)) 4) 4 = sumK (bigL s.length 2 ++ s) := by
    have := fix_put (sumK (bigL s.length 2 ++ s)) 4 []
    rw [List.append_nil] at this
    rw [this]
    exact Nat.mod_eq_of_lt (sumK_lt ((big_bys _ _).app hs))
  have hne : sumK (bigL s.length 2 ++ x) ≠ sumK (bigL s.length 2 ++ s) := by
    have hD : ∀ i, bitAt (bigL s.length 2 ++ x) i ^^^ bitAt (bigL s.length 2 ++ s) i = isT bits 48 p (8 * s.length) n (32 + i) := fun i => by
      rcases Nat.lt_or_ge i 16 with hi | hi
      · rw [bitAt_in _ _ (by omega), bitAt_in _ _ (by omega), Nat.xor_self]
        exact (if_neg (by omega)).symm
      · obtain ⟨k, rfl⟩ : ∃ k, i = 16 + k := ⟨i - 16, by omega⟩
        have q1 := bitAt_off (bigL s.length 2) x k
        have q2 := bitAt_off (bigL s.length 2) s k
        rw [h2] at q1 q2
        rw [q1, q2, b3, Nat.xor_comm (bitAt s k), Nat.xor_assoc, Nat.xor_self, Nat.xor_zero, show 32 + (16 + k) = 48 + k by omega]
    refine sumK_ne ((big_bys _ _).app hxb) ((big_bys _ _).app hs) (by rw [List.length_append, List.length_append, l3]) ?_
    obtain ⟨i, hi, hp, hbi⟩ := anyT_some h
    have h01 : ∀ j, isT bits 48 p (8 * s.length) n j < 2 := fun j => by unfold isT; split <;> decide
    rw [show (fun i => bitAt (bigL s.length 2 ++ x) i ^^^ bitAt (bigL s.length 2 ++ s) i) = fun i => isT bits 48 p (8 * s.length) n (32 + i) from funext hD]
    refine serK_burst (p := 16 + p) (i := 16 + p + i) (fun j => h01 _) (fun j hj => if_neg (by omega)) (fun j hj _ => if_neg (by omega)) (by omega) (by rw [List.length_append, h2, l3]; omega) (by omega) ?_
    exact if_pos ⟨by omega, by omega, by omega, by rw [show 32 + (16 + p + i) - (48 + p) = i by omega]; exact hbi⟩
  rw [hB, e, b1, hx, List.append_assoc, List.append_assoc]
  exact first_other l3.symm hl h4 (by rw [hsum]; exact hne)
end Go.Proofs.Ytloogjdojojehaa
namespace Go.Proofs.Ytloogjdojojehaa
set_option linter.unusedVariables false

theorem some_bit {y : Nat} (hy : y < 256) (h : y ≠ 0) : ∃ k, k < 8 ∧ y / 2 ^ k % 2 = 1 := by
  obtain ⟨k, hk⟩ := Nat.exists_testBit_of_ne_zero h
  have hk8 : k < 8 := by
    rcases Nat.lt_or_ge k 8 with h8 | h8
    · exact h8
    · rw [Nat.testBit_lt_two_pow (Nat.lt_of_lt_of_le (show y < 2 ^ 8 from hy) (Nat.pow_le_pow_right (by decide) h8))] at hk
      cases hk
  rw [Nat.testBit_eq_decide_div_mod_eq] at hk
  exact ⟨k, hk8, of_decide_eq_true hk⟩
/-- one byte another: another sum -/
theorem sumK_one {s : List Nat} (hs : Bys s) {p y : Nat} (hp : p < s.length) (hy : y < 256) (h0 : y ≠ 0) : sumK (s.set p (s.getD p 0 ^^^ y)) ≠ sumK s := by
  have hb : Bys (s.set p (s.getD p 0 ^^^ y)) := fun i => by
    rw [getD_set _ _ _ _ hp]
    split
    · exact Nat.xor_lt_two_pow (n := 8) (hs _) hy
    · exact hs i
  have hD : ∀ i, bitAt (s.set p (s.getD p 0 ^^^ y)) i ^^^ bitAt s i = if i / 8 = p then y / 2 ^ (i % 8) % 2 else 0 := fun i => by
    rw [bitAt_xor, getD_set _ _ _ _ hp]
    by_cases e : p = i / 8
    · rw [if_pos e, if_pos e.symm, ← e, Nat.xor_comm (s.getD p 0) y, Nat.xor_assoc, Nat.xor_self, Nat.xor_zero]
    · rw [if_neg e, if_neg (fun h => e h.symm), Nat.xor_self]
      simp
  refine sumK_ne hb hs (by simp) ?_
  rw [show (fun i => bitAt (s.set p (s.getD p 0 ^^^ y)) i ^^^ bitAt s i) = fun i => if i / 8 = p then y / 2 ^ (i % 8) % 2 else 0 from funext hD]
  obtain ⟨k, hk, hk1⟩ := some_bit hy h0
  refine serK_burst (p := 8 * p) (i := 8 * p + k) (fun j => ?_) (fun j hj => if_neg (by omega)) (fun j hj _ => if_neg (by omega)) (by omega) (by rw [List.length_set]; omega) (by omega) ?_
  · show (if j / 8 = p then y / 2 ^ (j % 8) % 2 else 0) < 2
    split
    · exact Nat.mod_lt _ (by decide)
    · decide
  · show (if (8 * p + k) / 8 = p then y / 2 ^ ((8 * p + k) % 8) % 2 else 0) = 1
    rw [if_pos (by omega), show (8 * p + k) % 8 = k by omega]
    exact hk1
/-- bytes 0 are no frame -/
theorem first_zeros (n : Nat) : firstK (zerN n) = ([], [], if n = 0 then 3 else if n < 6 then 40 else 100) := by
  have hl := zerN_len n
  by_cases h0 : n = 0
  · subst h0
    rfl
  · by_cases h6 : n < 6
    · unfold firstK
      rw [hl, if_neg h0, if_pos h6, if_neg h0, if_pos h6]
    · obtain ⟨m, rfl⟩ : ∃ m, n = 6 + m := ⟨n - 6, by omega⟩
      have e : zerN (6 + m) = bigL 0 2 ++ ([0, 0, 0, 0] ++ ([] ++ zerN m)) := by
        unfold zerN
        rw [show 6 + m = m + 1 + 1 + 1 + 1 + 1 + 1 by omega]
        simp only [List.replicate_succ]
        rfl
      rw [e, first_other (n := 0) (x := []) rfl (by decide) rfl (by decide +kernel), if_neg h0, if_neg h6]
end Go.Proofs.Ytloogjdojojehaa
