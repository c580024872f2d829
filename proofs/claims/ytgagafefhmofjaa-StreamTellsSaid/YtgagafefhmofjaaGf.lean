/- Bytes as polynomials over bits: their product, by plain numbers; that it is a field's. -/
namespace Go.Proofs.Ytgagafefhmofjaa
set_option linter.unusedVariables false

/-- a times x -/
def dbl (a : Nat) : Nat := if a < 128 then a * 2 else (a * 2 % 256) ^^^ 27
/-- the sum over the bits of b, so many of them, of a times the powers of x -/
def tim : Nat → Nat → Nat → Nat
  | 0, _, _ => 0
  | f + 1, a, b => (if b % 2 = 1 then a else 0) ^^^ tim f (dbl a) (b / 2)
/-- the product of two bytes -/
def mul (a b : Nat) : Nat := tim 8 a b

theorem xor_lt {a b : Nat} (ha : a < 256) (hb : b < 256) : a ^^^ b < 256 := Nat.xor_lt_two_pow (n := 8) ha hb
theorem dbl_lt {a : Nat} (ha : a < 256) : dbl a < 256 := by
  unfold dbl
  split
  · omega
  · exact xor_lt (by omega) (by omega)
theorem all256 {p : Nat → Bool} (h : (List.range 256).all p = true) {a : Nat} (ha : a < 256) : p a = true :=
  List.all_eq_true.1 h a (List.mem_range.2 ha)
theorem dbl_xor {a b : Nat} (ha : a < 256) (hb : b < 256) : dbl (a ^^^ b) = dbl a ^^^ dbl b := by
  have h : (List.range 256).all (fun a => (List.range 256).all fun b => Nat.beq (dbl (a ^^^ b)) (dbl a ^^^ dbl b)) = true := by decide +kernel
  exact Nat.eq_of_beq_eq_true (all256 (all256 h ha) hb)
theorem tim_lt : ∀ f {a : Nat} (b : Nat), a < 256 → tim f a b < 256
  | 0, _, _, _ => by simp [tim]
  | f + 1, a, b, ha => by
    unfold tim
    refine xor_lt ?_ (tim_lt f _ (dbl_lt ha))
    split <;> omega
theorem mul_lt {a : Nat} (b : Nat) (ha : a < 256) : mul a b < 256 := tim_lt 8 b ha
theorem xor4 (a b c d : Nat) : (a ^^^ b) ^^^ (c ^^^ d) = (a ^^^ c) ^^^ (b ^^^ d) := by
  rw [Nat.xor_assoc, Nat.xor_assoc, ← Nat.xor_assoc b c d, Nat.xor_comm b c, Nat.xor_assoc]
theorem tim_xor_left : ∀ f {a c : Nat} (b : Nat), a < 256 → c < 256 → tim f (a ^^^ c) b = tim f a b ^^^ tim f c b
  | 0, _, _, _, _, _ => by simp [tim]
  | f + 1, a, c, b, ha, hc => by
    simp only [tim]
    rw [dbl_xor ha hc, tim_xor_left f _ (dbl_lt ha) (dbl_lt hc)]
    split
    · rw [xor4]
    · simp
theorem tim_xor_right : ∀ f (a b c : Nat), tim f a (b ^^^ c) = tim f a b ^^^ tim f a c
  | 0, _, _, _ => by simp [tim]
  | f + 1, a, b, c => by
    simp only [tim]
    have h1 : (b ^^^ c) / 2 = b / 2 ^^^ c / 2 := by
      have := Nat.shiftRight_xor_distrib (a := b) (b := c) (i := 1)
      simpa [Nat.shiftRight_eq_div_pow] using this
    have h2 : (b ^^^ c) % 2 = (b % 2 + c % 2) % 2 := by
      have := Nat.xor_mod_two_pow (a := b) (b := c) (n := 1)
      rw [Nat.pow_one] at this
      rw [this]
      rcases Nat.mod_two_eq_zero_or_one b with hb | hb <;> rcases Nat.mod_two_eq_zero_or_one c with hc | hc <;> simp [hb, hc]
    rw [h1, tim_xor_right f, h2]
    rcases Nat.mod_two_eq_zero_or_one b with hb | hb <;> rcases Nat.mod_two_eq_zero_or_one c with hc | hc <;> simp [hb, hc]
    · rw [← Nat.xor_assoc, ← Nat.xor_assoc, Nat.xor_comm a]
    · rw [Nat.xor_assoc]
    · rw [xor4]; simp
theorem mul_xor_left {a c : Nat} (b : Nat) (ha : a < 256) (hc : c < 256) : mul (a ^^^ c) b = mul a b ^^^ mul c b := tim_xor_left 8 b ha hc
theorem mul_xor_right (a b c : Nat) : mul a (b ^^^ c) = mul a b ^^^ mul a c := tim_xor_right 8 a b c

/-- a sum over the bits of a -/
def sumB (f : Nat → Nat) (a : Nat) : Nat :=
  (if a % 2 = 1 then f 1 else 0) ^^^ (if a / 2 % 2 = 1 then f 2 else 0) ^^^ (if a / 4 % 2 = 1 then f 4 else 0) ^^^ (if a / 8 % 2 = 1 then f 8 else 0) ^^^
  (if a / 16 % 2 = 1 then f 16 else 0) ^^^ (if a / 32 % 2 = 1 then f 32 else 0) ^^^ (if a / 64 % 2 = 1 then f 64 else 0) ^^^ (if a / 128 % 2 = 1 then f 128 else 0)
/-- f takes sums to sums -/
def Adds (f : Nat → Nat) : Prop := ∀ a b, a < 256 → b < 256 → f (a ^^^ b) = f a ^^^ f b
theorem Adds.zero {f : Nat → Nat} (h : Adds f) : f 0 = 0 := by
  have := h 0 0 (by omega) (by omega)
  simpa using this
theorem Adds.bit {f : Nat → Nat} (h : Adds f) (x n k : Nat) (hx : x < 256) (hk : k < 256) : f (x ^^^ (if n = 1 then k else 0)) = f x ^^^ (if n = 1 then f k else 0) := by
  split
  · exact h _ _ hx hk
  · simp
theorem bits_of {a : Nat} (ha : a < 256) : a = sumB id a := by
  have h : (List.range 256).all (fun a => Nat.beq a (sumB id a)) = true := by decide +kernel
  exact Nat.eq_of_beq_eq_true (all256 h ha)
theorem if_lt (n k : Nat) (h : k < 256) : (if n = 1 then k else 0) < 256 := by split <;> omega
theorem Adds.sum {f : Nat → Nat} (h : Adds f) {a : Nat} (ha : a < 256) : f a = sumB f a := by
  have e := bits_of ha
  unfold sumB at e ⊢
  simp only [id] at e
  have e0 : (if a % 2 = 1 then 1 else 0) < 256 := if_lt _ _ (by omega)
  have e1 := xor_lt e0 (if_lt (a / 2 % 2) 2 (by omega))
  have e2 := xor_lt e1 (if_lt (a / 4 % 2) 4 (by omega))
  have e3 := xor_lt e2 (if_lt (a / 8 % 2) 8 (by omega))
  have e4 := xor_lt e3 (if_lt (a / 16 % 2) 16 (by omega))
  have e5 := xor_lt e4 (if_lt (a / 32 % 2) 32 (by omega))
  have e6 := xor_lt e5 (if_lt (a / 64 % 2) 64 (by omega))
  have h0 : f (if a % 2 = 1 then 1 else 0) = if a % 2 = 1 then f 1 else 0 := by
    split
    · rfl
    · exact h.zero
  conv => lhs; rw [e]
  rw [h.bit _ _ _ e6 (by omega), h.bit _ _ _ e5 (by omega), h.bit _ _ _ e4 (by omega), h.bit _ _ _ e3 (by omega), h.bit _ _ _ e2 (by omega), h.bit _ _ _ e1 (by omega), h.bit _ _ _ e0 (by omega), h0]
/-- two such that agree at each bit agree -/
theorem Adds.ext {f g : Nat → Nat} (hf : Adds f) (hg : Adds g) (h : ∀ i, i < 8 → f (2 ^ i) = g (2 ^ i)) {a : Nat} (ha : a < 256) : f a = g a := by
  rw [hf.sum ha, hg.sum ha]
  unfold sumB
  rw [h 0 (by omega), h 1 (by omega), h 2 (by omega), h 3 (by omega), h 4 (by omega), h 5 (by omega), h 6 (by omega), h 7 (by omega)]
theorem pow_lt {i : Nat} (h : i < 8) : 2 ^ i < 256 := Nat.pow_lt_pow_right (a := 2) (n := 8) (by omega) h
theorem all8 {p : Nat → Bool} (h : (List.range 8).all p = true) {a : Nat} (ha : a < 8) : p a = true :=
  List.all_eq_true.1 h a (List.mem_range.2 ha)
theorem adds_left (b : Nat) : Adds (fun a => mul a b) := fun _ _ ha hc => mul_xor_left b ha hc
theorem adds_right (a : Nat) : Adds (fun b => mul a b) := fun _ _ _ _ => mul_xor_right a _ _
theorem mul_comm {a b : Nat} (ha : a < 256) (hb : b < 256) : mul a b = mul b a := by
  refine Adds.ext (adds_left b) (adds_right b) (fun i hi => ?_) ha
  refine Adds.ext (adds_right (2 ^ i)) (adds_left (2 ^ i)) (fun j hj => ?_) hb
  have h : (List.range 8).all (fun i => (List.range 8).all fun j => Nat.beq (mul (2 ^ i) (2 ^ j)) (mul (2 ^ j) (2 ^ i))) = true := by decide +kernel
  exact Nat.eq_of_beq_eq_true (all8 (all8 h hi) hj)
theorem Adds.comp {f g : Nat → Nat} (hf : Adds f) (hg : Adds g) (hb : ∀ a, a < 256 → g a < 256) : Adds (fun a => f (g a)) := fun a b ha hb' => by
  show f (g (a ^^^ b)) = _
  rw [hg a b ha hb', hf _ _ (hb a ha) (hb b hb')]
theorem mul_assoc {a b c : Nat} (ha : a < 256) (hb : b < 256) (hc : c < 256) : mul a (mul b c) = mul (mul a b) c := by
  refine Adds.ext (adds_left (mul b c)) (Adds.comp (adds_left c) (adds_left b) (fun x hx => mul_lt _ hx)) (fun i hi => ?_) ha
  refine Adds.ext (Adds.comp (adds_right (2 ^ i)) (adds_left c) (fun x hx => mul_lt _ hx)) (Adds.comp (adds_left c) (adds_right (2 ^ i)) (fun x hx => mul_lt _ (pow_lt hi))) (fun j hj => ?_) hb
  refine Adds.ext (Adds.comp (adds_right (2 ^ i)) (adds_right (2 ^ j)) (fun x hx => mul_lt _ (pow_lt hj))) (adds_right (mul (2 ^ i) (2 ^ j))) (fun k hk => ?_) hc
  have h : (List.range 8).all (fun i => (List.range 8).all fun j => (List.range 8).all fun k => Nat.beq (mul (2 ^ i) (mul (2 ^ j) (2 ^ k))) (mul (mul (2 ^ i) (2 ^ j)) (2 ^ k))) = true := by decide +kernel
  exact Nat.eq_of_beq_eq_true (all8 (all8 (all8 h hi) hj) hk)
theorem mul_one {a : Nat} (ha : a < 256) : mul a 1 = a := by
  have h : (List.range 256).all (fun a => Nat.beq (mul a 1) a) = true := by decide +kernel
  exact Nat.eq_of_beq_eq_true (all256 h ha)
theorem one_mul {a : Nat} (ha : a < 256) : mul 1 a = a := by rw [mul_comm (by omega) ha, mul_one ha]
theorem mul_zero (a : Nat) : mul a 0 = 0 := by simp [mul, tim]
theorem zero_mul {a : Nat} (ha : a < 256) : mul 0 a = 0 := by rw [mul_comm (by omega) ha, mul_zero]
/-- a to the n-th -/
def pow : Nat → Nat → Nat
  | _, 0 => 1
  | a, n + 1 => mul (pow a n) a
theorem pow_lt' {a : Nat} (ha : a < 256) : ∀ n, pow a n < 256
  | 0 => by simp [pow]
  | n + 1 => mul_lt _ (pow_lt' ha n)
theorem pow_add {a : Nat} (ha : a < 256) (m : Nat) : ∀ n, pow a (m + n) = mul (pow a m) (pow a n)
  | 0 => by show pow a m = mul (pow a m) 1; rw [mul_one (pow_lt' ha m)]
  | n + 1 => by
    show mul (pow a (m + n)) a = mul (pow a m) (mul (pow a n) a)
    rw [pow_add ha m n, mul_assoc (pow_lt' ha m) (pow_lt' ha n) ha]
def sq (a : Nat) : Nat := mul a a
theorem sq_pow {a : Nat} (ha : a < 256) (n : Nat) : sq (pow a n) = pow a (n + n) := (pow_add ha n n).symm
/-- the byte that makes 1 with a -/
def inv (a : Nat) : Nat := mul (sq a) (mul (sq (sq a)) (mul (sq (sq (sq a))) (mul (sq (sq (sq (sq a)))) (mul (sq (sq (sq (sq (sq a))))) (mul (sq (sq (sq (sq (sq (sq a)))))) (sq (sq (sq (sq (sq (sq (sq a))))))))))))
theorem pow_one' {a : Nat} (ha : a < 256) : pow a 1 = a := one_mul ha
theorem inv_pow {a : Nat} (ha : a < 256) : pow a 254 = inv a := by
  have h1 : sq a = pow a 2 := by conv => lhs; rw [← pow_one' ha]
                                 rw [sq_pow ha]
  unfold inv
  rw [h1]
  simp only [sq_pow ha, ← pow_add ha]
theorem inv_lt {a : Nat} (ha : a < 256) : inv a < 256 := by rw [← inv_pow ha]; exact pow_lt' ha _
theorem has_inv {a : Nat} (ha : a < 256) (h0 : a ≠ 0) : mul (inv a) a = 1 := by
  have h : (List.range 256).all (fun a => Nat.beq a 0 || Nat.beq (mul (inv a) a) 1) = true := by decide +kernel
  have := all256 h ha
  rw [Bool.or_eq_true] at this
  rcases this with h | h
  · exact absurd (Nat.eq_of_beq_eq_true h) h0
  · exact Nat.eq_of_beq_eq_true h
theorem mul_eq_zero {a b : Nat} (ha : a < 256) (hb : b < 256) : mul a b = 0 ↔ a = 0 ∨ b = 0 := by
  constructor
  · intro h
    by_cases h0 : a = 0
    · exact Or.inl h0
    · refine Or.inr ?_
      have e := has_inv ha h0
      have : mul (mul (inv a) a) b = 0 := by rw [← mul_assoc (inv_lt ha) ha hb, h, mul_zero]
      rw [e, one_mul hb] at this
      exact this
  · rintro (rfl | rfl)
    · exact zero_mul hb
    · exact mul_zero a
end Go.Proofs.Ytgagafefhmofjaa
