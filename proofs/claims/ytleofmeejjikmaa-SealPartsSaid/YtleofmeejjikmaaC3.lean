/- A block's columns and their bytes: that each step of a round takes different blocks to different ones. -/
import Derived.Test.YtleofmeejjikmaaC2
import Derived.Test.YtleofmeejjikmaaC1
namespace Go.Proofs.Ytleofmeejjikmaa
set_option linter.unusedVariables false

theorem putC_getD (b : List Nat) (c w j : Nat) (hb : b.length = 16) (hc : c < 4) (hj : j < 16) : (putC b c w).getD j 0 = if j / 4 = c then w / 2 ^ (24 - 8 * (j % 4)) % 256 else b.getD j 0 := by
  unfold putC
  simp only [putP]
  rw [getD_set _ _ _ _ (by simp; omega), getD_set _ _ _ _ (by simp; omega), getD_set _ _ _ _ (by simp; omega), getD_set _ _ _ _ (by omega)]
  by_cases h : j / 4 = c
  · rw [if_pos h]
    have hm : j % 4 = 0 ∨ j % 4 = 1 ∨ j % 4 = 2 ∨ j % 4 = 3 := by omega
    rcases hm with hm | hm | hm | hm <;> rw [hm]
    · rw [if_neg (by omega), if_neg (by omega), if_neg (by omega), if_pos (by omega)]
    · rw [if_neg (by omega), if_neg (by omega), if_pos (by omega)]
    · rw [if_neg (by omega), if_pos (by omega)]
    · rw [if_pos (by omega)]
  · rw [if_neg h, if_neg (by omega), if_neg (by omega), if_neg (by omega), if_neg (by omega)]
theorem kw_eq (key : List Nat) (k : Nat) : kw key k = ((key.getD (4 * k) 0 * 256 + key.getD (4 * k + 1) 0) * 256 + key.getD (4 * k + 2) 0) * 256 + key.getD (4 * k + 3) 0 := by
  unfold kw
  simp only [wpre]
  rw [four_getD _ _ _ (by omega), four_getD _ _ _ (by omega), four_getD _ _ _ (by omega), four_getD _ _ _ (by omega)]
  simp
theorem kw_put_same (b : List Nat) (c w : Nat) (hb : b.length = 16) (hc : c < 4) (hw : w < 4294967296) : kw (putC b c w) c = w := by
  rw [kw_eq, putC_getD b c w _ hb hc (by omega), putC_getD b c w _ hb hc (by omega), putC_getD b c w _ hb hc (by omega), putC_getD b c w _ hb hc (by omega)]
  rw [if_pos (by omega), if_pos (by omega), if_pos (by omega), if_pos (by omega)]
  rw [show 4 * c % 4 = 0 by omega, show (4 * c + 1) % 4 = 1 by omega, show (4 * c + 2) % 4 = 2 by omega, show (4 * c + 3) % 4 = 3 by omega]
  simp only [Nat.reduceMul, Nat.reduceSub, Nat.reducePow]
  omega
theorem kw_put_other (b : List Nat) (c d w : Nat) (hb : b.length = 16) (hc : c < 4) (hd : d < 4) (hne : d ≠ c) : kw (putC b c w) d = kw b d := by
  rw [kw_eq, kw_eq, putC_getD b c w _ hb hc (by omega), putC_getD b c w _ hb hc (by omega), putC_getD b c w _ hb hc (by omega), putC_getD b c w _ hb hc (by omega)]
  rw [if_neg (by omega), if_neg (by omega), if_neg (by omega), if_neg (by omega)]
theorem cols4 : cols 4 = [⟨0, by omega⟩, ⟨1, by omega⟩, ⟨2, by omega⟩, ⟨3, by omega⟩] := by decide
theorem chAll_eq (g : Nat → Nat → Nat) (b : List Nat) : chAll g b = putC (putC (putC (putC b 0 (g 0 (kw b 0))) 1 (g 1 (kw b 1))) 2 (g 2 (kw b 2))) 3 (g 3 (kw b 3)) := by
  unfold chAll chL
  rw [cols4]
  simp only [List.foldl_cons, List.foldl_nil]
theorem kw_chAll (g : Nat → Nat → Nat) (b : List Nat) (hb : b.length = 16) (hg : ∀ c v, v < 4294967296 → g c v < 4294967296) (hby : Bys b) (c : Nat) (hc : c < 4) : kw (chAll g b) c = g c (kw b c) := by
  rw [chAll_eq]
  have k : ∀ c, g c (kw b c) < 4294967296 := fun c => hg c _ (kw_lt hby c)
  have l0 : (putC b 0 (g 0 (kw b 0))).length = 16 := by rw [putC_len, hb]
  have l1 : (putC (putC b 0 (g 0 (kw b 0))) 1 (g 1 (kw b 1))).length = 16 := by rw [putC_len, l0]
  have l2 : (putC (putC (putC b 0 (g 0 (kw b 0))) 1 (g 1 (kw b 1))) 2 (g 2 (kw b 2))).length = 16 := by rw [putC_len, l1]
  have h : c = 0 ∨ c = 1 ∨ c = 2 ∨ c = 3 := by omega
  rcases h with rfl | rfl | rfl | rfl
  · rw [kw_put_other _ 3 0 _ l2 (by omega) (by omega) (by omega), kw_put_other _ 2 0 _ l1 (by omega) (by omega) (by omega), kw_put_other _ 1 0 _ l0 (by omega) (by omega) (by omega), kw_put_same _ 0 _ hb (by omega) (k 0)]
  · rw [kw_put_other _ 3 1 _ l2 (by omega) (by omega) (by omega), kw_put_other _ 2 1 _ l1 (by omega) (by omega) (by omega), kw_put_same _ 1 _ l0 (by omega) (k 1)]
  · rw [kw_put_other _ 3 2 _ l2 (by omega) (by omega) (by omega), kw_put_same _ 2 _ l1 (by omega) (k 2)]
  · rw [kw_put_same _ 3 _ l2 (by omega) (k 3)]
/-- blocks of the same columns are the same -/
theorem block_ext {a b : List Nat} (la : a.length = 16) (lb : b.length = 16) (ha : Bys a) (hb : Bys b) (h : ∀ c, c < 4 → kw a c = kw b c) : a = b := by
  apply List.ext_getElem (la.trans lb.symm)
  intro j h1 h2
  have e := h (j / 4) (by omega)
  rw [kw_eq, kw_eq] at e
  have a0 := ha (4 * (j / 4)); have a1 := ha (4 * (j / 4) + 1); have a2 := ha (4 * (j / 4) + 2); have a3 := ha (4 * (j / 4) + 3)
  have b0 := hb (4 * (j / 4)); have b1 := hb (4 * (j / 4) + 1); have b2 := hb (4 * (j / 4) + 2); have b3 := hb (4 * (j / 4) + 3)
  have main : a.getD j 0 = b.getD j 0 := by
    have hj : j = 4 * (j / 4) ∨ j = 4 * (j / 4) + 1 ∨ j = 4 * (j / 4) + 2 ∨ j = 4 * (j / 4) + 3 := by omega
    rcases hj with hj | hj | hj | hj <;> rw [hj] <;> omega
  simpa [h1, h2] using main
theorem chAll_inj (g : Nat → Nat → Nat) (hg : ∀ c v, v < 4294967296 → g c v < 4294967296) (hi : ∀ c v w, v < 4294967296 → w < 4294967296 → g c v = g c w → v = w)
    {a b : List Nat} (la : a.length = 16) (lb : b.length = 16) (ha : Bys a) (hb : Bys b) (h : chAll g a = chAll g b) : a = b :=
  block_ext la lb ha hb fun c hc => hi c _ _ (kw_lt ha c) (kw_lt hb c) (by rw [← kw_chAll g a la hg ha c hc, ← kw_chAll g b lb hg hb c hc, h])

/-! ### the steps -/
theorem addG_lt {K : List Nat} (hK : Words K) (r c v : Nat) (h : v < 4294967296) : addG K r c v < 4294967296 := xor32_lt h (hK _)
theorem addG_inj (K : List Nat) (r c v w : Nat) (h : addG K r c v = addG K r c w) : v = w := by
  unfold addG at h
  have : (v ^^^ K.getD (4 * r + c) 0) ^^^ K.getD (4 * r + c) 0 = (w ^^^ K.getD (4 * r + c) 0) ^^^ K.getD (4 * r + c) 0 := by rw [h]
  rwa [Nat.xor_assoc, Nat.xor_self, Nat.xor_zero, Nat.xor_assoc, Nat.xor_self, Nat.xor_zero] at this
theorem eachN_eq (f : Nat → Nat) (w : Nat) : eachN f w = f (w % 256) + f (w / 256 % 256) * 256 + f (w / 65536 % 256) * 65536 + f (w / 16777216 % 256) * 16777216 := by
  simp [eachN, eachP]
theorem lookG_inj (v w : Nat) (hv : v < 4294967296) (hw : w < 4294967296) (h : eachN boxG v = eachN boxG w) : v = w := by
  rw [eachN_eq, eachN_eq] at h
  have m : ∀ x : Nat, x % 256 < 256 := fun x => Nat.mod_lt _ (by omega)
  have a0 := boxG_lt (m v); have a1 := boxG_lt (m (v / 256)); have a2 := boxG_lt (m (v / 65536)); have a3 := boxG_lt (m (v / 16777216))
  have b0 := boxG_lt (m w); have b1 := boxG_lt (m (w / 256)); have b2 := boxG_lt (m (w / 65536)); have b3 := boxG_lt (m (w / 16777216))
  have e0 := boxG_inj (m v) (m w) (by omega)
  have e1 := boxG_inj (m (v / 256)) (m (w / 256)) (by omega)
  have e2 := boxG_inj (m (v / 65536)) (m (w / 65536)) (by omega)
  have e3 := boxG_inj (m (v / 16777216)) (m (w / 16777216)) (by omega)
  omega
theorem turnAt_inj {a b : List Nat} (la : a.length = 16) (lb : b.length = 16) (h : turnL a = turnL b) : a = b := by
  have key : ∀ (l : List Nat), l.length = 16 → ∀ n, n ≤ 16 → ∀ i, (turnP l n).getD i 0 = if i < n then turnAt l i else l.getD i 0 := by
    intro l hl n
    induction n with
    | zero => intro _ i; simp [turnP]
    | succ n ih =>
      intro hn i
      show ((turnP l n).set n (turnAt l n)).getD i 0 = _
      rw [getD_set _ _ _ _ (by rw [turnP_len, hl]; omega), ih (by omega)]
      by_cases e : n = i
      · subst e; rw [if_pos rfl, if_pos (by omega)]
      · rw [if_neg e]
        by_cases h2 : i < n
        · rw [if_pos h2, if_pos (by omega)]
        · rw [if_neg h2, if_neg (by omega)]
  apply List.ext_getElem (la.trans lb.symm)
  intro j h1 h2
  have hj : j < 16 := by omega
  -- the place to which the byte j goes
  have hp : (((j / 4 + 4 - j % 4) % 4 * 4 + j % 4) / 4 + ((j / 4 + 4 - j % 4) % 4 * 4 + j % 4) % 4) % 4 * 4 + ((j / 4 + 4 - j % 4) % 4 * 4 + j % 4) % 4 = j := by omega
  have hl : (j / 4 + 4 - j % 4) % 4 * 4 + j % 4 < 16 := by omega
  have ea := key a la 16 (by omega) ((j / 4 + 4 - j % 4) % 4 * 4 + j % 4)
  have eb := key b lb 16 (by omega) ((j / 4 + 4 - j % 4) % 4 * 4 + j % 4)
  rw [if_pos hl] at ea eb
  unfold turnAt at ea eb
  rw [hp] at ea eb
  have main : a.getD j 0 = b.getD j 0 := by
    rw [← ea, ← eb]
    show (turnL a).getD _ 0 = (turnL b).getD _ 0
    rw [h]
  simpa [h1, h2] using main

/-! ### columns mixed -/
theorem byte_xor (x y i : Nat) : (x ^^^ y) / 2 ^ i % 256 = (x / 2 ^ i % 256) ^^^ (y / 2 ^ i % 256) := by
  have h1 := Nat.shiftRight_xor_distrib (a := x) (b := y) (i := i)
  simp only [Nat.shiftRight_eq_div_pow] at h1
  have h2 := Nat.xor_mod_two_pow (a := x / 2 ^ i) (b := y / 2 ^ i) (n := 8)
  rw [h1]
  exact h2
theorem rotl32_add (v k : Nat) (hk : k ≤ 32) (hv : v < 4294967296) : rotl32 v k = v * 2 ^ k % 4294967296 + v / 2 ^ (32 - k) := by
  unfold rotl32
  have h1 : v / 2 ^ (32 - k) < 2 ^ k := by
    rw [Nat.div_lt_iff_lt_mul (Nat.two_pow_pos _), ← Nat.pow_add, show k + (32 - k) = 32 by omega]
    exact hv
  have h2 : v * 2 ^ k % 4294967296 = (v % 2 ^ (32 - k)) * 2 ^ k := by
    rw [show (4294967296 : Nat) = 2 ^ (32 - k) * 2 ^ k by rw [← Nat.pow_add, show 32 - k + k = 32 by omega], Nat.mul_mod_mul_right]
  rw [h2, Nat.or_comm, or_add _ _ _ h1, Nat.add_comm]
theorem eachN_byte {f : Nat → Nat} (hf : Byf f) (v k : Nat) (hk : k < 4) : eachN f v / 2 ^ (8 * k) % 256 = f (v / 2 ^ (8 * k) % 256) := by
  rw [eachN_eq]
  have m : ∀ x : Nat, x % 256 < 256 := fun x => Nat.mod_lt _ (by omega)
  have a0 := hf _ (m v); have a1 := hf _ (m (v / 256)); have a2 := hf _ (m (v / 65536)); have a3 := hf _ (m (v / 16777216))
  have h : k = 0 ∨ k = 1 ∨ k = 2 ∨ k = 3 := by omega
  rcases h with rfl | rfl | rfl | rfl <;> simp only [Nat.reduceMul, Nat.reducePow, Nat.div_one]
  · generalize f (v % 256) = x at *; generalize f (v / 256 % 256) = y at *; generalize f (v / 65536 % 256) = z at *; generalize f (v / 16777216 % 256) = u at *; omega
  · generalize f (v % 256) = x at *; generalize f (v / 256 % 256) = y at *; generalize f (v / 65536 % 256) = z at *; generalize f (v / 16777216 % 256) = u at *; omega
  · generalize f (v % 256) = x at *; generalize f (v / 256 % 256) = y at *; generalize f (v / 65536 % 256) = z at *; generalize f (v / 16777216 % 256) = u at *; omega
  · generalize f (v % 256) = x at *; generalize f (v / 256 % 256) = y at *; generalize f (v / 65536 % 256) = z at *; generalize f (v / 16777216 % 256) = u at *; omega
def q4 (a b c d : Nat) : Nat := mul a 2 ^^^ mul b 3 ^^^ c ^^^ d
def p4 (w x y z : Nat) : Nat := mul w 14 ^^^ mul x 11 ^^^ mul y 13 ^^^ mul z 9
theorem mix_a {a : Nat} (h : a < 256) : mul (mul a 2) 14 ^^^ mul a 11 ^^^ mul a 13 ^^^ mul (mul a 3) 9 = a := by
  have h' : (List.range 256).all (fun a => Nat.beq (mul (mul a 2) 14 ^^^ mul a 11 ^^^ mul a 13 ^^^ mul (mul a 3) 9) a) = true := by decide +kernel
  exact Nat.eq_of_beq_eq_true (all256 h' h)
theorem mix_b {a : Nat} (h : a < 256) : mul (mul a 3) 14 ^^^ mul (mul a 2) 11 ^^^ mul a 13 ^^^ mul a 9 = 0 := by
  have h' : (List.range 256).all (fun a => Nat.beq (mul (mul a 3) 14 ^^^ mul (mul a 2) 11 ^^^ mul a 13 ^^^ mul a 9) 0) = true := by decide +kernel
  exact Nat.eq_of_beq_eq_true (all256 h' h)
theorem mix_c {a : Nat} (h : a < 256) : mul a 14 ^^^ mul (mul a 3) 11 ^^^ mul (mul a 2) 13 ^^^ mul a 9 = 0 := by
  have h' : (List.range 256).all (fun a => Nat.beq (mul a 14 ^^^ mul (mul a 3) 11 ^^^ mul (mul a 2) 13 ^^^ mul a 9) 0) = true := by decide +kernel
  exact Nat.eq_of_beq_eq_true (all256 h' h)
theorem mix_d {a : Nat} (h : a < 256) : mul a 14 ^^^ mul a 11 ^^^ mul (mul a 3) 13 ^^^ mul (mul a 2) 9 = 0 := by
  have h' : (List.range 256).all (fun a => Nat.beq (mul a 14 ^^^ mul a 11 ^^^ mul (mul a 3) 13 ^^^ mul (mul a 2) 9) 0) = true := by decide +kernel
  exact Nat.eq_of_beq_eq_true (all256 h' h)
theorem mul_q4 {a b c d : Nat} (k : Nat) (ha : a < 256) (hb : b < 256) (hc : c < 256) (hd : d < 256) : mul (q4 a b c d) k = mul (mul a 2) k ^^^ mul (mul b 3) k ^^^ mul c k ^^^ mul d k := by
  unfold q4
  have m2 := mul_lt 2 ha
  have m3 := mul_lt 3 hb
  rw [mul_xor_left k (xor_lt (xor_lt m2 m3) hc) hd, mul_xor_left k (xor_lt m2 m3) hc, mul_xor_left k m2 m3]
theorem xor16 (a1 a2 a3 a4 b1 b2 b3 b4 c1 c2 c3 c4 d1 d2 d3 d4 : Nat) :
    (a1 ^^^ b1 ^^^ c1 ^^^ d1) ^^^ (b2 ^^^ c2 ^^^ d2 ^^^ a2) ^^^ (c3 ^^^ d3 ^^^ a3 ^^^ b3) ^^^ (d4 ^^^ a4 ^^^ b4 ^^^ c4) = (a1 ^^^ a2 ^^^ a3 ^^^ a4) ^^^ (b1 ^^^ b2 ^^^ b3 ^^^ b4) ^^^ (c1 ^^^ c2 ^^^ c3 ^^^ c4) ^^^ (d1 ^^^ d2 ^^^ d3 ^^^ d4) := by ac_rfl
theorem mix_back {a b c d : Nat} (ha : a < 256) (hb : b < 256) (hc : c < 256) (hd : d < 256) : p4 (q4 a b c d) (q4 b c d a) (q4 c d a b) (q4 d a b c) = a := by
  unfold p4
  rw [mul_q4 14 ha hb hc hd, mul_q4 11 hb hc hd ha, mul_q4 13 hc hd ha hb, mul_q4 9 hd ha hb hc, xor16, mix_a ha, mix_b hb, mix_c hc, mix_d hd]
  simp
def dig (p q r s : Nat) : Nat := p * 16777216 + q * 65536 + r * 256 + s
theorem dig_bytes {p q r s : Nat} (hp : p < 256) (hq : q < 256) (hr : r < 256) (hs : s < 256) :
    dig p q r s / 2 ^ 24 % 256 = p ∧ dig p q r s / 2 ^ 16 % 256 = q ∧ dig p q r s / 2 ^ 8 % 256 = r ∧ dig p q r s / 2 ^ 0 % 256 = s := by
  unfold dig
  simp only [Nat.reducePow, Nat.div_one]
  have f1 : (p * 16777216 + q * 65536 + r * 256 + s) / 16777216 = p := by omega
  have f2 : (p * 16777216 + q * 65536 + r * 256 + s) / 65536 = p * 256 + q := by omega
  have f3 : (p * 16777216 + q * 65536 + r * 256 + s) / 256 = p * 65536 + q * 256 + r := by omega
  rw [f1, f2, f3]
  clear f1 f2 f3
  refine ⟨?_, ?_, ?_, ?_⟩ <;> omega
theorem dig_lt {p q r s : Nat} (hp : p < 256) (hq : q < 256) (hr : r < 256) (hs : s < 256) : dig p q r s < 4294967296 := by unfold dig; omega
theorem dig_of (v : Nat) (hv : v < 4294967296) : ∃ p q r s, p < 256 ∧ q < 256 ∧ r < 256 ∧ s < 256 ∧ v = dig p q r s :=
  ⟨v / 16777216, v / 65536 % 256, v / 256 % 256, v % 256, by omega, by omega, by omega, by omega, by unfold dig; omega⟩
theorem rot8_dig {p q r s : Nat} (hp : p < 256) (hq : q < 256) (hr : r < 256) (hs : s < 256) : rotl32 (dig p q r s) 8 = dig q r s p := by
  rw [rotl32_add _ 8 (by omega) (dig_lt hp hq hr hs)]
  unfold dig
  simp only [Nat.reduceSub, Nat.reducePow]
  rw [show (p * 16777216 + q * 65536 + r * 256 + s) * 256 = (q * 16777216 + r * 65536 + s * 256) + 4294967296 * p by omega, Nat.add_mul_mod_self_left, Nat.mod_eq_of_lt (by omega)]
  omega
theorem rot16_dig {p q r s : Nat} (hp : p < 256) (hq : q < 256) (hr : r < 256) (hs : s < 256) : rotl32 (dig p q r s) 16 = dig r s p q := by
  rw [rotl32_add _ 16 (by omega) (dig_lt hp hq hr hs)]
  unfold dig
  simp only [Nat.reduceSub, Nat.reducePow]
  rw [show (p * 16777216 + q * 65536 + r * 256 + s) * 65536 = (r * 16777216 + s * 65536) + 4294967296 * (p * 256 + q) by omega, Nat.add_mul_mod_self_left, Nat.mod_eq_of_lt (by omega)]
  omega
theorem rot24_dig {p q r s : Nat} (hp : p < 256) (hq : q < 256) (hr : r < 256) (hs : s < 256) : rotl32 (dig p q r s) 24 = dig s p q r := by
  rw [rotl32_add _ 24 (by omega) (dig_lt hp hq hr hs)]
  unfold dig
  simp only [Nat.reduceSub, Nat.reducePow]
  rw [show (p * 16777216 + q * 65536 + r * 256 + s) * 16777216 = (s * 16777216) + 4294967296 * (p * 65536 + q * 256 + r) by omega, Nat.add_mul_mod_self_left, Nat.mod_eq_of_lt (by omega)]
  omega
theorem rot_byte (v : Nat) (hv : v < 4294967296) :
    (rotl32 v 8 / 2 ^ 24 % 256 = v / 2 ^ 16 % 256 ∧ rotl32 v 8 / 2 ^ 16 % 256 = v / 2 ^ 8 % 256 ∧ rotl32 v 8 / 2 ^ 8 % 256 = v / 2 ^ 0 % 256 ∧ rotl32 v 8 / 2 ^ 0 % 256 = v / 2 ^ 24 % 256) ∧
    (rotl32 v 16 / 2 ^ 24 % 256 = v / 2 ^ 8 % 256 ∧ rotl32 v 16 / 2 ^ 16 % 256 = v / 2 ^ 0 % 256 ∧ rotl32 v 16 / 2 ^ 8 % 256 = v / 2 ^ 24 % 256 ∧ rotl32 v 16 / 2 ^ 0 % 256 = v / 2 ^ 16 % 256) ∧
    (rotl32 v 24 / 2 ^ 24 % 256 = v / 2 ^ 0 % 256 ∧ rotl32 v 24 / 2 ^ 16 % 256 = v / 2 ^ 24 % 256 ∧ rotl32 v 24 / 2 ^ 8 % 256 = v / 2 ^ 16 % 256 ∧ rotl32 v 24 / 2 ^ 0 % 256 = v / 2 ^ 8 % 256) := by
  obtain ⟨p, q, r, s, hp, hq, hr, hs, rfl⟩ := dig_of v hv
  obtain ⟨z1, z2, z3, z4⟩ := dig_bytes hp hq hr hs
  obtain ⟨a1, a2, a3, a4⟩ := dig_bytes hq hr hs hp
  obtain ⟨b1, b2, b3, b4⟩ := dig_bytes hr hs hp hq
  obtain ⟨c1, c2, c3, c4⟩ := dig_bytes hs hp hq hr
  rw [rot8_dig hp hq hr hs, rot16_dig hp hq hr hs, rot24_dig hp hq hr hs, z1, z2, z3, z4, a1, a2, a3, a4, b1, b2, b3, b4, c1, c2, c3, c4]
  exact ⟨⟨rfl, rfl, rfl, rfl⟩, ⟨rfl, rfl, rfl, rfl⟩, rfl, rfl, rfl, rfl⟩
theorem word_ext {v w : Nat} (hv : v < 4294967296) (hw : w < 4294967296) (x1 : v / 2 ^ 24 % 256 = w / 2 ^ 24 % 256) (x2 : v / 2 ^ 16 % 256 = w / 2 ^ 16 % 256) (x3 : v / 2 ^ 8 % 256 = w / 2 ^ 8 % 256) (x4 : v / 2 ^ 0 % 256 = w / 2 ^ 0 % 256) : v = w := by
  obtain ⟨p, q, r, s, hp, hq, hr, hs, rfl⟩ := dig_of v hv
  obtain ⟨p', q', r', s', hp', hq', hr', hs', rfl⟩ := dig_of w hw
  obtain ⟨z1, z2, z3, z4⟩ := dig_bytes hp hq hr hs
  obtain ⟨y1, y2, y3, y4⟩ := dig_bytes hp' hq' hr' hs'
  rw [z1, y1] at x1
  rw [z2, y2] at x2
  rw [z3, y3] at x3
  rw [z4, y4] at x4
  rw [x1, x2, x3, x4]
theorem mix_byte (c0 v i j k m : Nat) (hi : i = 24 ∨ i = 16 ∨ i = 8 ∨ i = 0) (h8 : rotl32 v 8 / 2 ^ i % 256 = v / 2 ^ j % 256) (h16 : rotl32 v 16 / 2 ^ i % 256 = v / 2 ^ k % 256) (h24 : rotl32 v 24 / 2 ^ i % 256 = v / 2 ^ m % 256) :
    mixG c0 v / 2 ^ i % 256 = q4 (v / 2 ^ i % 256) (v / 2 ^ j % 256) (v / 2 ^ k % 256) (v / 2 ^ m % 256) := by
  unfold mixG q4
  rw [byte_xor, byte_xor, byte_xor, h16, h24]
  obtain ⟨n, hn, rfl⟩ : ∃ n, n < 4 ∧ i = 8 * n := by
    rcases hi with rfl | rfl | rfl | rfl
    · exact ⟨3, by omega, rfl⟩
    · exact ⟨2, by omega, rfl⟩
    · exact ⟨1, by omega, rfl⟩
    · exact ⟨0, by omega, rfl⟩
  unfold two three
  rw [eachN_byte (mul_byte 2) v n hn, eachN_byte (mul_byte 3) (rotl32 v 8) n hn, h8]
theorem mixG_lt (c v : Nat) (h : v < 4294967296) : mixG c v < 4294967296 := xor32_lt (xor32_lt (xor32_lt (two_lt v) (three_lt _)) (rotl32_lt 16 h)) (rotl32_lt 24 h)
theorem mixG_inj (c v w : Nat) (hv : v < 4294967296) (hw : w < 4294967296) (h : mixG c v = mixG c w) : v = w := by
  obtain ⟨⟨a1, a2, a3, a4⟩, ⟨b1, b2, b3, b4⟩, c1, c2, c3, c4⟩ := rot_byte v hv
  obtain ⟨⟨d1, d2, d3, d4⟩, ⟨e1, e2, e3, e4⟩, f1, f2, f3, f4⟩ := rot_byte w hw
  have m : ∀ x : Nat, x % 256 < 256 := fun x => Nat.mod_lt _ (by omega)
  have o1 := mix_byte c v 24 16 8 0 (by omega) a1 b1 c1
  have o2 := mix_byte c v 16 8 0 24 (by omega) a2 b2 c2
  have o3 := mix_byte c v 8 0 24 16 (by omega) a3 b3 c3
  have o4 := mix_byte c v 0 24 16 8 (by omega) a4 b4 c4
  have u1 := mix_byte c w 24 16 8 0 (by omega) d1 e1 f1
  have u2 := mix_byte c w 16 8 0 24 (by omega) d2 e2 f2
  have u3 := mix_byte c w 8 0 24 16 (by omega) d3 e3 f3
  have u4 := mix_byte c w 0 24 16 8 (by omega) d4 e4 f4
  rw [h] at o1 o2 o3 o4
  rw [o1] at u1
  rw [o2] at u2
  rw [o3] at u3
  rw [o4] at u4
  have x1 := mix_back (m (v / 2 ^ 24)) (m (v / 2 ^ 16)) (m (v / 2 ^ 8)) (m (v / 2 ^ 0))
  have x2 := mix_back (m (v / 2 ^ 16)) (m (v / 2 ^ 8)) (m (v / 2 ^ 0)) (m (v / 2 ^ 24))
  have x3 := mix_back (m (v / 2 ^ 8)) (m (v / 2 ^ 0)) (m (v / 2 ^ 24)) (m (v / 2 ^ 16))
  have x4 := mix_back (m (v / 2 ^ 0)) (m (v / 2 ^ 24)) (m (v / 2 ^ 16)) (m (v / 2 ^ 8))
  rw [u1, u2, u3, u4, mix_back (m (w / 2 ^ 24)) (m (w / 2 ^ 16)) (m (w / 2 ^ 8)) (m (w / 2 ^ 0))] at x1
  rw [u1, u2, u3, u4, mix_back (m (w / 2 ^ 16)) (m (w / 2 ^ 8)) (m (w / 2 ^ 0)) (m (w / 2 ^ 24))] at x2
  rw [u1, u2, u3, u4, mix_back (m (w / 2 ^ 8)) (m (w / 2 ^ 0)) (m (w / 2 ^ 24)) (m (w / 2 ^ 16))] at x3
  rw [u1, u2, u3, u4, mix_back (m (w / 2 ^ 0)) (m (w / 2 ^ 24)) (m (w / 2 ^ 16)) (m (w / 2 ^ 8))] at x4
  exact (word_ext hw hv x1 x2 x3 x4).symm

theorem rnd_inj {K : List Nat} (hK : Words K) (r : Nat) {a b : List Nat} (la : a.length = 16) (lb : b.length = 16) (ha : Bys a) (hb : Bys b) (h : rnd K r a = rnd K r b) : a = b := by
  have l1 : (chAll lookG a).length = 16 := (chAll_len _ _).trans la
  have l2 : (chAll lookG b).length = 16 := (chAll_len _ _).trans lb
  have l3 : (turnL (chAll lookG a)).length = 16 := (turnL_len _).trans l1
  have l4 : (turnL (chAll lookG b)).length = 16 := (turnL_len _).trans l2
  have s1 : Bys (chAll lookG a) := chAll_bys _ ha
  have s2 : Bys (chAll lookG b) := chAll_bys _ hb
  have s3 := turnL_bys s1
  have s4 := turnL_bys s2
  have t1 : turnL (chAll lookG a) = turnL (chAll lookG b) := by
    unfold rnd at h
    by_cases hr : r < 14
    · rw [if_pos hr, if_pos hr] at h
      have h2 := chAll_inj (addG K r) (fun c v hv => addG_lt hK r c v hv) (fun c v w _ _ e => addG_inj K r c v w e) ((chAll_len _ _).trans l3) ((chAll_len _ _).trans l4) (chAll_bys _ s3) (chAll_bys _ s4) h
      exact chAll_inj mixG mixG_lt mixG_inj l3 l4 s3 s4 h2
    · rw [if_neg hr, if_neg hr] at h
      exact chAll_inj (addG K r) (fun c v hv => addG_lt hK r c v hv) (fun c v w _ _ e => addG_inj K r c v w e) l3 l4 s3 s4 h
  have t2 := turnAt_inj l1 l2 t1
  exact chAll_inj lookG (fun _ v _ => eachN_lt boxG_byte v) (fun _ v w hv hw e => lookG_inj v w hv hw e) la lb ha hb t2
theorem encN_inj {K : List Nat} (hK : Words K) {a b : List Nat} (la : a.length = 16) (lb : b.length = 16) (ha : Bys a) (hb : Bys b) : ∀ r, encN K a r = encN K b r → a = b := by
  intro r
  induction r with
  | zero =>
    intro h
    have h' : chAll (addG K 0) a = chAll (addG K 0) b := h
    exact chAll_inj (addG K 0) (fun c v hv => addG_lt hK 0 c v hv) (fun c v w _ _ e => addG_inj K 0 c v w e) la lb ha hb h'
  | succ r ih =>
    intro h
    have h' : rnd K (r + 1) (encN K a r) = rnd K (r + 1) (encN K b r) := h
    exact ih (rnd_inj hK (r + 1) ((encN_len _ _ _).trans la) ((encN_len _ _ _).trans lb) (encN_bys _ ha r) (encN_bys _ hb r) h')
end Go.Proofs.Ytleofmeejjikmaa
namespace Go.Proofs.Ytleofmeejjikmaa
open Go.RowKit
set_option linter.unusedVariables false

/-- four bytes put together -/
theorem or_bytes (y0 y1 y2 y3 x : Nat) (v0 : y0 < 256) (v1 : y1 < 256) (v2 : y2 < 256) (v3 : y3 < 256) (hkw : x = ((y0 * 256 + y1) * 256 + y2) * 256 + y3) :
    ∃ A0 A1 A2 S1 S2 : Nat, IntKind.u32.wrap (y0 : Int) = (y0 : Int) ∧ IntKind.u32.wrap (y1 : Int) = (y1 : Int) ∧ IntKind.u32.wrap (y2 : Int) = (y2 : Int) ∧ IntKind.u32.wrap (y3 : Int) = (y3 : Int) ∧
      IntKind.u32.wrap ((y0 : Int) * 16777216) = (A0 : Int) ∧ IntKind.u32.wrap ((y1 : Int) * 65536) = (A1 : Int) ∧ IntKind.u32.wrap ((y2 : Int) * 256) = (A2 : Int) ∧
      bits .or .u32 (A0 : Int) (A1 : Int) = (S1 : Int) ∧ bits .or .u32 (S1 : Int) (A2 : Int) = (S2 : Int) ∧ bits .or .u32 (S2 : Int) (y3 : Int) = (x : Int) := by
  refine ⟨y0 * 16777216, y1 * 65536, y2 * 256, y0 * 16777216 + y1 * 65536, y0 * 16777216 + y1 * 65536 + y2 * 256, wraps_u32 _ (by omega) (by omega), wraps_u32 _ (by omega) (by omega), wraps_u32 _ (by omega) (by omega), wraps_u32 _ (by omega) (by omega), ?_, ?_, ?_, ?_, ?_, ?_⟩
  · rw [wraps_u32 _ (by omega) (by omega)]; omega
  · rw [wraps_u32 _ (by omega) (by omega)]; omega
  · rw [wraps_u32 _ (by omega) (by omega)]; omega
  · rw [or_word _ _ (by omega) (by omega), Nat.or_comm, show y0 * 16777216 = y0 * 2 ^ 24 by omega, or_add _ _ _ (by omega), Nat.add_comm]
  · rw [or_word _ _ (by omega) (by omega), Nat.or_comm, show y0 * 16777216 + y1 * 65536 = (y0 * 256 + y1) * 2 ^ 16 by omega, or_add _ _ _ (by omega), Nat.add_comm]
  · rw [or_word _ _ (by omega) (by omega), Nat.or_comm, show y0 * 16777216 + y1 * 65536 + y2 * 256 = (y0 * 65536 + y1 * 256 + y2) * 2 ^ 8 by omega, or_add _ _ _ (by omega)]
    omega

theorem and255 (x : Nat) (h : x < 4294967296) : bits .and .u32 (x : Int) 255 = ((x % 256 : Nat) : Int) := by
  have e := (bits_nat .u32 32 (by decide) wraps_u32 x 255 h (by omega)).1
  rw [show ((255 : Nat) : Int) = 255 by rfl] at e
  rw [e, show (255 : Nat) = 2 ^ 8 - 1 by rfl, Nat.and_two_pow_sub_one_eq_mod]
set_option maxHeartbeats 1000000 in
set_option maxRecDepth 100000 in
theorem r_boxed (t : Nat) (w : World) (ht : t < 4294967296) :
    Calls Try.prog 48 #[.int .u32 (t : Int), .agg (ints .u8 (nn boxT)).toArray] w fun e w' => e = .returned (.int .u32 ((eachN boxG t : Nat) : Int)) ∧ Below w.heap.size w w' := by
  obtain ⟨p, hp, hpI⟩ : ∃ p : Nat, p < 256 ∧ (t : Int) / 16777216 = (p : Int) ∧ t / 16777216 % 256 = p := ⟨t / 16777216, by omega, by omega, by omega⟩
  obtain ⟨q, hq, hqI⟩ : ∃ q : Nat, q < 256 ∧ bits .and .u32 ((t : Int) / 65536) 255 = (q : Int) ∧ t / 65536 % 256 = q := ⟨t / 65536 % 256, Nat.mod_lt _ (by omega), by rw [← and255 _ (by omega)]; simp, rfl⟩
  obtain ⟨r, hr, hrI⟩ : ∃ r : Nat, r < 256 ∧ bits .and .u32 ((t : Int) / 256) 255 = (r : Int) ∧ t / 256 % 256 = r := ⟨t / 256 % 256, Nat.mod_lt _ (by omega), by rw [← and255 _ (by omega)]; simp, rfl⟩
  obtain ⟨s, hs, hsI⟩ : ∃ s : Nat, s < 256 ∧ bits .and .u32 (t : Int) 255 = (s : Int) ∧ t % 256 = s := ⟨t % 256, Nat.mod_lt _ (by omega), and255 _ ht, rfl⟩
  have hx : eachN boxG t = ((boxG p * 256 + boxG q) * 256 + boxG r) * 256 + boxG s := by
    rw [eachN_eq, hpI.2, hqI.2, hrI.2, hsI.2]; omega
  obtain ⟨A0, A1, A2, S1, S2, z0, z1, z2, z3, s0, s1, s2, o1, o2, o3⟩ := or_bytes (boxG p) (boxG q) (boxG r) (boxG s) (eachN boxG t) (boxG_lt hp) (boxG_lt hq) (boxG_lt hr) (boxG_lt hs) hx
  have hB : Blk (w.alloc (.cells (ints .u8 (nn boxT)).toArray 85)) w.heap.size 85 (ints .u8 (nn boxT)) := Blk.new _ _ _
  have c0 : (w.alloc (.cells (ints .u8 (nn boxT)).toArray 85)).cell? ⟨w.heap.size, p, none⟩ = some (.int .u8 ((boxG p : Nat) : Int)) := hB.nat (by rw [boxT_len]; exact hp)
  have c1 : (w.alloc (.cells (ints .u8 (nn boxT)).toArray 85)).cell? ⟨w.heap.size, q, none⟩ = some (.int .u8 ((boxG q : Nat) : Int)) := hB.nat (by rw [boxT_len]; exact hq)
  have c2 : (w.alloc (.cells (ints .u8 (nn boxT)).toArray 85)).cell? ⟨w.heap.size, r, none⟩ = some (.int .u8 ((boxG r : Nat) : Int)) := hB.nat (by rw [boxT_len]; exact hr)
  have c3 : (w.alloc (.cells (ints .u8 (nn boxT)).toArray 85)).cell? ⟨w.heap.size, s, none⟩ = some (.int .u8 ((boxG s : Nat) : Int)) := hB.nat (by rw [boxT_len]; exact hs)
  have hw2 : Below w.heap.size w (w.alloc (.cells (ints .u8 (nn boxT)).toArray 85)) := (Below.refl _ _).alloc (Nat.le_refl _) _
  have i0 := hpI.1
  have i1 := hqI.1
  have i2 := hrI.1
  have i3 := hsI.1
  have p5 : (p : Int) < 256 := by omega
  have q5 : (q : Int) < 256 := by omega
  have r5 : (r : Int) < 256 := by omega
  have s5 : (s : Int) < 256 := by omega
  clear hpI hqI hrI hsI hx hB
  generalize eachN boxG t = x at *
  generalize boxG p = y0 at *
  generalize boxG q = y1 at *
  generalize boxG r = y2 at *
  generalize boxG s = y3 at *
  generalize (ints .u8 (nn boxT)).toArray = BV at *
  go_enter Try.func48, Try.ntmps48
  go_wp2_with fail
  generalize World.alloc w _ = w2 at *
  go_quiet (fail)
  go_wp2
  go_ret
  exact ⟨rfl, below_drewN hw2 nq⟩
end Go.Proofs.Ytleofmeejjikmaa
namespace Go.Proofs.Ytleofmeejjikmaa
open Go.RowKit
set_option linter.unusedVariables false

theorem size_r60 : (Try.prog.info? 65).map (·.size) = some 60 := by kernel_rfl
theorem alloc_r60 (w : World) : (Instr.alloc 65 true (.tuple #[])).run Try.prog w = .ok (.pointer (some ⟨w.heap.size, 0, none⟩)) (w.alloc (.cells (ints .u32 (nn (zerN 60))).toArray 65)) := by kernel_rfl
theorem alloc_z256 (w : World) : (Instr.alloc 85 true (.tuple #[])).run Try.prog w = .ok (.pointer (some ⟨w.heap.size, 0, none⟩)) (w.alloc (.cells (ints .u8 (nn (zerN 256))).toArray 85)) := by kernel_rfl
theorem mixedO : Try.prog.follows .mixedOrders = true := by kernel_rfl
theorem rot8_bits (t : Nat) (h : t < 4294967296) : bits .or .u32 ((t : Int) * 256 % 4294967296) ((t : Int) / 16777216) = ((rotl32 t 8 : Nat) : Int) := by
  have := rotl32_bits t 8 h
  simpa using this.symm

set_option maxHeartbeats 3000000 in
set_option maxRecDepth 100000 in
theorem r_Expand (key : List Nat) (w : World) (hl : key.length = 32) (hk : Bys key) :
    Calls Try.prog 34 #[.agg (ints .u8 (nn key)).toArray] w fun e w' => e = .returned (.agg (ints .u32 (nn (expandL key))).toArray) ∧ Below w.heap.size w w' := by
  have HLK := Lib.hid hl
  clear hl
  have hLen := expandL_len key
  obtain ⟨L, hL⟩ : ∃ L, expandL key = L := ⟨_, rfl⟩
  rw [hL] at hLen ⊢
  have HL := Lib.hid hL
  have HLen := Lib.hid hLen
  clear hL hLen
  have k0 : Blk ((w.alloc (.cells (ints .u8 (nn key)).toArray 29)).alloc (.cells (ints .u32 (nn (zerN 60))).toArray 65)) w.heap.size 29 (ints .u8 (nn key)) := (Blk.new _ _ _).alloc _
  have k1 : Blk ((w.alloc (.cells (ints .u8 (nn key)).toArray 29)).alloc (.cells (ints .u32 (nn (zerN 60))).toArray 65)) (w.heap.size + 1) 65 (ints .u32 (nn (zerN 60))) := Blk.new2 _ _ _ _ rfl
  have kb : Below w.heap.size w ((w.alloc (.cells (ints .u8 (nn key)).toArray 29)).alloc (.cells (ints .u32 (nn (zerN 60))).toArray 65)) := ((Below.refl _ _).alloc (Nat.le_refl _) _).alloc (by simp) _
  have hT := fun w => r_Table w
  have HT := Lib.hid hT
  have hbl := boxT_len
  have HBL := Lib.hid hbl
  clear hT hbl
  go_enter Try.func34, Try.ntmps34
  go_wp2_with (first | (refine wpList_alloc_at rfl 65 rfl _ _ (alloc_r60 _) ?_))
  generalize World.alloc (World.alloc w _) _ = w2 at *
  refine (HT.out _).mono ?_
  rintro e w3 ⟨rfl, hb3⟩
  have i0 := k0.below hb3 k0.lt
  have i1 := k1.below hb3 k1.lt
  have iw := kb.trans (hb3.mono kb.size)
  have ilt : w.heap.size + 1 < w3.heap.size := i1.lt
  clear k0 k1 kb hb3
  have hZ : (ints .u8 (nn boxT)).length = (ints .u8 (nn (zerN 256))).length := by rw [ints_length, ints_length, nn_length, nn_length, HBL.out, zerN_len]
  have HZ := Lib.hid hZ
  have j2 := (Blk.new' w3 85 (ints .u8 (nn (zerN 256))) rfl).row (ints .u8 (nn boxT)) hZ
  have j0 := (i0.alloc (.cells (ints .u8 (nn (zerN 256))).toArray 85)).rowOther (show w.heap.size ≠ w3.heap.size by omega) (ints .u8 (nn boxT)).toArray
  have j1 := (i1.alloc (.cells (ints .u8 (nn (zerN 256))).toArray 85)).rowOther (show w.heap.size + 1 ≠ w3.heap.size by omega) (ints .u8 (nn boxT)).toArray
  have jw := below_setRow (iw.alloc (by omega) (.cells (ints .u8 (nn (zerN 256))).toArray 85)) (show w.heap.size ≤ w3.heap.size by omega) (ints .u8 (nn boxT)).toArray
  have jn : ((w3.alloc (.cells (ints .u8 (nn (zerN 256))).toArray 85)).setRow w3.heap.size (ints .u8 (nn boxT)).toArray).heap.size = w3.heap.size + 1 := by simp
  clear i0 i1 iw hZ
  have m0 := (j0.alloc (.cells (ints .u32 (nn (zerN 60))).toArray 65)).rowOther (show w.heap.size ≠ w3.heap.size + 1 by omega) (ints .u32 (nn (zerN 60))).toArray
  have m1 := (j1.alloc (.cells (ints .u32 (nn (zerN 60))).toArray 65)).rowOther (show w.heap.size + 1 ≠ w3.heap.size + 1 by omega) (ints .u32 (nn (zerN 60))).toArray
  have m2 := (j2.alloc (.cells (ints .u32 (nn (zerN 60))).toArray 65)).rowOther (show w3.heap.size ≠ w3.heap.size + 1 by omega) (ints .u32 (nn (zerN 60))).toArray
  have m3' := Blk.new' ((w3.alloc (.cells (ints .u8 (nn (zerN 256))).toArray 85)).setRow w3.heap.size (ints .u8 (nn boxT)).toArray) 65 (ints .u32 (nn (zerN 60))) rfl
  rw [jn] at m3'
  have m3 := m3'.row (ints .u32 (nn (zerN 60))) rfl
  have mw := below_setRow (jw.alloc (by rw [jn]; omega) (.cells (ints .u32 (nn (zerN 60))).toArray 65)) (show w.heap.size ≤ w3.heap.size + 1 by omega) (ints .u32 (nn (zerN 60))).toArray
  clear j0 j1 jw
  go_wp2_with (first | (refine wpList_alloc_at rfl 85 rfl _ _ (alloc_z256 _) ?_) | (refine wpList_alloc_at rfl 65 rfl _ _ (alloc_r60 _) ?_) | (refine wpList_build_at rfl 65 _ rfl (.agg (ints .u32 (nn (zerN 60))).toArray) (by kernel_rfl) ?_) | (refine wpList_store_blk rfl 85 _ _ rfl w3.heap.size (ints .u8 (nn boxT)) rfl rfl (Blk.new' w3 85 (ints .u8 (nn (zerN 256))) rfl) (by rw [size_p256]; exact congrArg some (by rw [ints_length, nn_length, HBL.out])) HZ.out.symm (ints_one _ _) ?_) | (refine wpList_store_blk rfl 65 _ _ rfl (w3.heap.size + 1) (ints .u32 (nn (zerN 60))) (by first | rfl | (rw [← jn]; rfl)) rfl m3' (by rw [size_r60, ints_length, nn_length, zerN_len]) rfl (ints_one _ _) ?_))
  generalize World.setRow (World.alloc (World.setRow _ _ _) _) _ _ = w4 at *
  clear j2 jn m3' HZ
  generalize w3.heap.size = bx at *
  have q3 : Blk w4 (bx + 1) 65 (ints .u32 (nn (fillF (kw key) 60 0))) := m3
  clear m3
  go_loopw [5] (fun i wr => ∃ k : Nat, k ≤ 8 ∧ i = .int .i64 k ∧ Blk wr w.heap.size 29 (ints .u8 (nn key)) ∧ Blk wr (w.heap.size + 1) 65 (ints .u32 (nn (zerN 60))) ∧ Blk wr bx 85 (ints .u8 (nn boxT)) ∧ Blk wr (bx + 1) 65 (ints .u32 (nn (fillF (kw key) 60 k))) ∧ Below w.heap.size w wr) (fun i _ => 8 - (intOf i).toNat)
  case atStart => exact ⟨0, by omega, rfl, m0, m1, m2, q3, mw⟩
  case round =>
    obtain ⟨k, hk8, rfl, g0, g1, g2, g3, gb⟩ := hrel
    clear m0 m1 m2 q3 mw
    by_cases hlt : k < 8
    · have hset := fillF_set (kw key) 60 k (by omega)
      have hkw := kw_eq key k
      have v0 := hk (4 * k)
      have v1 := hk (4 * k + 1)
      have v2 := hk (4 * k + 2)
      have v3 := hk (4 * k + 3)
      have c0 := g0.nat (j := 4 * k) (by rw [HLK.out]; omega)
      have c1 := g0.nat (j := 4 * k + 1) (by rw [HLK.out]; omega)
      have c2 := g0.nat (j := 4 * k + 2) (by rw [HLK.out]; omega)
      have c3 := g0.nat (j := 4 * k + 3) (by rw [HLK.out]; omega)
      have ct := g3.nat (j := k) (by rw [fillF_len _ _ _ (by omega)]; omega)
      have hfr := g3.free k
      obtain ⟨A0, A1, A2, S1, S2, z0, z1, z2, z3, s0, s1, s2, o1, o2, o3⟩ := or_bytes _ _ _ _ _ v0 v1 v2 v3 hkw
      have Hs := Lib.hid hset
      clear hset hkw
      generalize kw key k = x at *
      generalize key.getD (4 * k) 0 = y0 at *
      generalize key.getD (4 * k + 1) 0 = y1 at *
      generalize key.getD (4 * k + 2) 0 = y2 at *
      generalize key.getD (4 * k + 3) 0 = y3 at *
      have e0 : IntKind.i64.wrap (4 * (k : Int)) = 4 * (k : Int) := IntWalk.i64_in _ (by omega)
      have e1 : IntKind.i64.wrap (4 * (k : Int) + 1) = 4 * (k : Int) + 1 := IntWalk.i64_in _ (by omega)
      have e2 : IntKind.i64.wrap (4 * (k : Int) + 2) = 4 * (k : Int) + 2 := IntWalk.i64_in _ (by omega)
      have e3 : IntKind.i64.wrap (4 * (k : Int) + 3) = 4 * (k : Int) + 3 := IntWalk.i64_in _ (by omega)
      have f0 : (4 * (k : Int)).toNat = 4 * k := by omega
      have f1 : (4 * (k : Int) + 1).toNat = 4 * k + 1 := by omega
      have f2 : (4 * (k : Int) + 2).toNat = 4 * k + 2 := by omega
      have f3 : (4 * (k : Int) + 3).toNat = 4 * k + 3 := by omega
      have p0 : (0 : Int) ≤ 4 * (k : Int) := by omega
      have p1 : (0 : Int) ≤ 4 * (k : Int) + 1 := by omega
      have p2 : (0 : Int) ≤ 4 * (k : Int) + 2 := by omega
      have p3 : (0 : Int) ≤ 4 * (k : Int) + 3 := by omega
      have q0 : 4 * (k : Int) < 32 := by omega
      have q1 : 4 * (k : Int) + 1 < 32 := by omega
      have q2 : 4 * (k : Int) + 2 < 32 := by omega
      have q3 : 4 * (k : Int) + 3 < 32 := by omega
      have k1 : (k : Int) < 60 := by omega
      have k2 : (k : Int) < 8 := by omega
      go_wp2_with fail
      refine wp_region_still_tail 31 mixedO (by kernel_rfl) ?_
      simp only [List.take_succ_cons, List.take_zero, List.drop_succ_cons, List.drop_zero]
      change wpStill _ _ (World.drew _) _ _ _
      repeat still_step
      refine wpStill_nil ?_
      change wpList _ _ _ _ _ (World.drew _)
      go_wp2
      go_roundw
      case rel =>
        refine ⟨k + 1, by omega, by go_num, ?_, ?_, ?_, ?_, ?_⟩
        · exact (g0.drew).other (by simp <;> omega) _
        · exact (g1.drew).other (by simp <;> omega) _
        · exact (g2.drew).other (by simp <;> omega) _
        · rw [← Hs.out]
          exact (g3.drew).setNat k x
        · exact (below_drewN gb 1).setCell (by simp <;> omega) _
      case measure => simp [intOf]; omega
    · obtain rfl : k = 8 := by omega
      go_wp2
      go_loopw [6, 7, 8] (fun p i _ wr => ∃ n : Nat, 8 ≤ n ∧ n ≤ 60 ∧ i = .int .i64 (n : Int) ∧ p = .int .u8 ((pwAt n : Nat) : Int) ∧ Blk wr (w.heap.size + 1) 65 (ints .u32 (nn (zerN 60))) ∧ Blk wr bx 85 (ints .u8 (nn boxT)) ∧ Blk wr (bx + 1) 65 (ints .u32 (nn (ksN key (n - 8)))) ∧ Below w.heap.size w wr) (fun _ i _ _ => 60 - (intOf i).toNat)
      case atStart => exact ⟨8, by omega, by omega, rfl, rfl, g1, g2, g3, gb⟩
      case round =>
        obtain ⟨n, hn8, hn60, rfl, rfl, h1, h2, h3, hb⟩ := hrel
        clear g0 g1 g2 g3 gb
        by_cases hln : n < 60
        · have hstep := ksN_step key hn8
          have hll := ksN_len key (n - 8)
          have hwd := ksN_words hk (n - 8) (by omega)
          have htl := tempK_lt hwd n (by omega)
          have hdef : tempK (ksN key (n - 8)) n = if n % 8 = 0 then eachN boxG (rotl32 ((ksN key (n - 8)).getD (n - 1) 0) 8) ^^^ (pwAt n * 16777216) else if n % 8 = 4 then eachN boxG ((ksN key (n - 8)).getD (n - 1) 0) else (ksN key (n - 8)).getD (n - 1) 0 := rfl
          have hxx := xor_word _ _ htl (hwd (n - 8))
          have c1 := h3.nat (j := n - 1) (by rw [hll]; omega)
          have hnat : ∀ wx, Blk wx (bx + 1) 65 (ints .u32 (nn (ksN key (n - 8)))) → wx.cell? ⟨bx + 1, n - 8, none⟩ = some (.int .u32 (((ksN key (n - 8)).getD (n - 8) 0 : Nat) : Int)) ∧ wx.cell? ⟨bx + 1, n, none⟩ = some (.int .u32 (((ksN key (n - 8)).getD n 0 : Nat) : Int)) ∧ wx.frozen? ⟨bx + 1, n, none⟩ = false := fun wx h => ⟨h.nat (by rw [hll]; omega), h.nat (by rw [hll]; omega), h.free n⟩
          have hw1 := hwd (n - 1)
          have hp := pwAt_lt (i := n) (by omega)
          have hpn : n % 8 = 0 → mul (pwAt n) 2 = pwAt (n + 1) := pwAt_next hn8 hln
          have hps : n % 8 ≠ 0 → pwAt n = pwAt (n + 1) := pwAt_same
          have Hs := Lib.hid hstep
          have Hpn := Lib.hid hpn
          have Hps := Lib.hid hps
          have HN := Lib.hid hnat
          clear hstep hll hwd hpn hps hnat
          generalize tempK (ksN key (n - 8)) n = tv at *
          generalize (ksN key (n - 8)).getD (n - 8) 0 = v8 at *
          generalize (ksN key (n - 8)).getD (n - 1) 0 = t at *
          generalize (ksN key (n - 8)).getD n 0 = v0 at *
          generalize ksN key (n - 8) = l at *
          generalize pwAt n = p at *
          have b0 : (n : Int) < 60 := by omega
          have b1 : (0 : Int) ≤ (n : Int) - 1 := by omega
          have b2 : ((n : Int) - 1).toNat = n - 1 := by omega
          have b3 : (0 : Int) ≤ (n : Int) - 8 := by omega
          have b4 : ((n : Int) - 8).toNat = n - 8 := by omega
          have b5 : (n : Int) - 1 < 60 := by omega
          have b6 : (n : Int) - 8 < 60 := by omega
          have b7 : (8 : Int) ≤ (n : Int) := by omega
          by_cases hm0 : n % 8 = 0
          · rw [if_pos hm0] at hdef
            have hr := rotl32_lt 8 hw1
            have hrb := rot8_bits t hw1
            have he := eachN_lt boxG_byte (rotl32 t 8)
            have hxp := xor_word _ _ he (show p * 16777216 < 4294967296 by omega)
            rw [← hdef] at hxp
            have hpm : ((p * 16777216 : Nat) : Int) = (p : Int) * 16777216 := by omega
            have HPM := Lib.hid hpm
            have hE := fun w => r_boxed (rotl32 t 8) w hr
            have HE := Lib.hid hE
            have HP := Lib.hid (Hpn.out hm0)
            have HP1 : Hid (∀ w, Calls Try.prog 49 #[.int .u8 (p : Int), .int .u8 2] w fun e w' => e = .returned (.int .u8 (mul p 2 : Nat)) ∧ w = w') := Lib.hid (fun w => r_Times p 2 w hp (by omega))
            have m0 : ((n : Int) % 8 == 0) = true := by rw [beq_iff_eq]; omega
            clear hE hdef he hr hpm hm0 Hpn Hps
            generalize eachN boxG (rotl32 t 8) = ev at *
            generalize rotl32 t 8 = rv at *
            generalize p * 16777216 = pv at *
            go_wp2_with (refine wpList_load_blk rfl 85 _ rfl _ rfl h2 Try.underlying85 rfl (by rw [size_p256, ints_length, nn_length, HBL.out]) ?_)
            refine (HE.out _).mono ?_
            rintro e w1 ⟨rfl, hb1⟩
            have h1' := h1.below hb1 h1.lt
            have h2' := h2.below hb1 h2.lt
            have h3' := h3.below hb1 h3.lt
            have hb' := hb.trans (hb1.mono hb.size)
            obtain ⟨c8, c0, hfr⟩ := HN.out _ h3'
            clear h1 h2 h3 hb c1 hb1
            go_wp2_with (go_at_call 49; (with_reducible refine (HP1.out _).mono ?_); rintro e w' ⟨rfl, rfl⟩)
            go_roundw
            case rel =>
              repeat apply Exists.intro
              refine ⟨?_, rfl⟩
              refine ⟨n + 1, by omega, by omega, by go_num, by rw [← HP.out], ?_, ?_, ?_, ?_⟩
              · exact h1'.other (by simp <;> omega) _
              · exact h2'.other (by simp <;> omega) _
              · rw [Hs.out]
                have := h3'.setNat n (tv ^^^ v8)
                rw [← hxx, ← hxp, HPM.out] at this
                exact this
              · exact hb'.setCell (by simp <;> omega) _
            case measure => simp [intOf]; omega
          · rw [if_neg hm0] at hdef
            have m0 : ((n : Int) % 8 == 0) = false := by rw [beq_eq_false_iff_ne]; omega
            have HP := Lib.hid (Hps.out hm0)
            by_cases hm4 : n % 8 = 4
            · rw [if_pos hm4] at hdef
              have hE := fun w => r_boxed t w hw1
              rw [← hdef] at hE
              have HE := Lib.hid hE
              have m4 : ((n : Int) % 8 == 4) = true := by rw [beq_iff_eq]; omega
              clear hE hdef hm0 hm4 Hpn Hps
              go_wp2_with (refine wpList_load_blk rfl 85 _ rfl _ rfl h2 Try.underlying85 rfl (by rw [size_p256, ints_length, nn_length, HBL.out]) ?_)
              refine (HE.out _).mono ?_
              rintro e w1 ⟨rfl, hb1⟩
              have h1' := h1.below hb1 h1.lt
              have h2' := h2.below hb1 h2.lt
              have h3' := h3.below hb1 h3.lt
              have hb' := hb.trans (hb1.mono hb.size)
              obtain ⟨c8, c0, hfr⟩ := HN.out _ h3'
              clear h1 h2 h3 hb c1 hb1
              go_wp2
              go_roundw
              case rel =>
                repeat apply Exists.intro
                refine ⟨?_, rfl⟩
                refine ⟨n + 1, by omega, by omega, by go_num, by rw [← HP.out], ?_, ?_, ?_, ?_⟩
                · exact h1'.other (by simp <;> omega) _
                · exact h2'.other (by simp <;> omega) _
                · rw [Hs.out]
                  exact h3'.setNat n (tv ^^^ v8)
                · exact hb'.setCell (by simp <;> omega) _
              case measure => simp [intOf]; omega
            · rw [if_neg hm4] at hdef
              have m4 : ((n : Int) % 8 == 4) = false := by rw [beq_eq_false_iff_ne]; omega
              subst hdef
              obtain ⟨c8, c0, hfr⟩ := HN.out _ h3
              clear hm0 hm4 Hpn Hps
              go_wp2
              go_roundw
              case rel =>
                refine ⟨n + 1, by omega, by omega, by go_num, by rw [← HP.out], ?_, ?_, ?_, ?_⟩
                · exact h1.other (by simp <;> omega) _
                · exact h2.other (by simp <;> omega) _
                · rw [Hs.out]
                  exact h3.setNat n (tv ^^^ v8)
                · exact hb.setCell (by simp <;> omega) _
              case measure => simp [intOf]; omega
        · obtain rfl : n = 60 := by omega
          have hE : Blk wr (bx + 1) 65 (ints .u32 (nn L)) := by rw [← HL.out]; exact h3
          clear h3
          go_wp2_with (first | (refine wpList_load_blk rfl 65 _ rfl _ rfl hE Try.underlying65 rfl (by rw [size_r60, ints_length, nn_length, HLen.out]) ?_) | (refine wpList_store_blk rfl 65 _ _ rfl _ _ rfl rfl h1 (by rw [size_r60, ints_length, nn_length, HLen.out]) (by rw [ints_length, ints_length, nn_length, nn_length, HLen.out, zerN_len]) (ints_one _ _) ?_))
          refine bodyPost_ret (v := .agg (ints .u32 (nn L)).toArray) (results_cell_blk rfl _ _ _ rfl (h1.row (ints .u32 (nn L)) (by rw [ints_length, ints_length, nn_length, nn_length, HLen.out, zerN_len])) Try.underlying65 rfl (by rw [size_r60, ints_length, nn_length, HLen.out])) rfl ⟨rfl, below_setRow hb (by omega) _⟩
end Go.Proofs.Ytleofmeejjikmaa
namespace Go.Proofs.Ytleofmeejjikmaa
open Go.RowKit
set_option linter.unusedVariables false

theorem kw_dig (b : List Nat) (c : Nat) : kw b c = dig (b.getD (4 * c) 0) (b.getD (4 * c + 1) 0) (b.getD (4 * c + 2) 0) (b.getD (4 * c + 3) 0) := by
  rw [kw_eq]; unfold dig; omega
theorem kw_byte {b : List Nat} (hb : Bys b) (j : Nat) : kw b (j / 4) / 2 ^ (24 - 8 * (j % 4)) % 256 = b.getD j 0 := by
  rw [kw_dig]
  obtain ⟨z1, z2, z3, z4⟩ := dig_bytes (hb (4 * (j / 4))) (hb (4 * (j / 4) + 1)) (hb (4 * (j / 4) + 2)) (hb (4 * (j / 4) + 3))
  have hm : j % 4 = 0 ∨ j % 4 = 1 ∨ j % 4 = 2 ∨ j % 4 = 3 := by omega
  rcases hm with hm | hm | hm | hm <;> rw [hm]
  · exact z1.trans (congrArg (fun i => b.getD i 0) (by omega))
  · exact z2.trans (congrArg (fun i => b.getD i 0) (by omega))
  · exact z3.trans (congrArg (fun i => b.getD i 0) (by omega))
  · exact z4.trans (congrArg (fun i => b.getD i 0) (by omega))
theorem chAll_getD (g : Nat → Nat → Nat) (b : List Nat) (hb : b.length = 16) (j : Nat) (hj : j < 16) : (chAll g b).getD j 0 = g (j / 4) (kw b (j / 4)) / 2 ^ (24 - 8 * (j % 4)) % 256 := by
  rw [chAll_eq]
  have l0 : (putC b 0 (g 0 (kw b 0))).length = 16 := by rw [putC_len, hb]
  have l1 : (putC (putC b 0 (g 0 (kw b 0))) 1 (g 1 (kw b 1))).length = 16 := by rw [putC_len, l0]
  have l2 : (putC (putC (putC b 0 (g 0 (kw b 0))) 1 (g 1 (kw b 1))) 2 (g 2 (kw b 2))).length = 16 := by rw [putC_len, l1]
  rw [putC_getD _ 3 _ j l2 (by omega) hj, putC_getD _ 2 _ j l1 (by omega) hj, putC_getD _ 1 _ j l0 (by omega) hj, putC_getD _ 0 _ j hb (by omega) hj]
  have h : j / 4 = 0 ∨ j / 4 = 1 ∨ j / 4 = 2 ∨ j / 4 = 3 := by omega
  rcases h with h | h | h | h <;> rw [h] <;> simp
/-- a round key added byte by byte -/
def addB (K b : List Nat) (r i : Nat) : Nat := b.getD i 0 ^^^ (K.getD (4 * r + i / 4) 0 / 2 ^ (24 - 8 * (i % 4)) % 256)
def addP (K b : List Nat) (r : Nat) : Nat → List Nat
  | 0 => b
  | i + 1 => (addP K b r i).set i (addB K b r i)
theorem addP_len (K b : List Nat) (r : Nat) : ∀ i, (addP K b r i).length = b.length
  | 0 => rfl
  | i + 1 => by simp [addP, addP_len K b r i]
theorem addP_getD (K b : List Nat) (r : Nat) (hb : b.length = 16) : ∀ n, n ≤ 16 → ∀ i, (addP K b r n).getD i 0 = if i < n then addB K b r i else b.getD i 0 := by
  intro n
  induction n with
  | zero => intro _ i; simp [addP]
  | succ n ih =>
    intro hn i
    show ((addP K b r n).set n (addB K b r n)).getD i 0 = _
    rw [getD_set _ _ _ _ (by rw [addP_len, hb]; omega), ih (by omega)]
    by_cases e : n = i
    · subst e; rw [if_pos rfl, if_pos (by omega)]
    · rw [if_neg e]
      by_cases h2 : i < n
      · rw [if_pos h2, if_pos (by omega)]
      · rw [if_neg h2, if_neg (by omega)]
theorem addP_all (K b : List Nat) (r : Nat) (hb : b.length = 16) (hby : Bys b) : addP K b r 16 = chAll (addG K r) b := by
  refine getD_ext 16 ((addP_len _ _ _ _).trans hb) ((chAll_len _ _).trans hb) fun j hj => ?_
  rw [addP_getD K b r hb 16 (by omega), if_pos hj, chAll_getD _ _ hb j hj]
  unfold addB addG
  rw [byte_xor, kw_byte hby]
theorem lookG_getD (b : List Nat) (hb : b.length = 16) (hby : Bys b) (j : Nat) (hj : j < 16) : (chAll lookG b).getD j 0 = boxG (b.getD j 0) := by
  rw [chAll_getD _ _ hb j hj]
  unfold lookG
  rw [show 24 - 8 * (j % 4) = 8 * (3 - j % 4) by omega, eachN_byte boxG_byte _ _ (by omega), show 8 * (3 - j % 4) = 24 - 8 * (j % 4) by omega, kw_byte hby]
theorem turnL_getD (b : List Nat) (hb : b.length = 16) (i : Nat) (hi : i < 16) : (turnL b).getD i 0 = b.getD ((i / 4 + i % 4) % 4 * 4 + i % 4) 0 := by
  have key : ∀ n, n ≤ 16 → ∀ i, (turnP b n).getD i 0 = if i < n then turnAt b i else b.getD i 0 := by
    intro n
    induction n with
    | zero => intro _ i; simp [turnP]
    | succ n ih =>
      intro hn i
      show ((turnP b n).set n (turnAt b n)).getD i 0 = _
      rw [getD_set _ _ _ _ (by rw [turnP_len, hb]; omega), ih (by omega)]
      by_cases e : n = i
      · subst e; rw [if_pos rfl, if_pos (by omega)]
      · rw [if_neg e]
        by_cases h2 : i < n
        · rw [if_pos h2, if_pos (by omega)]
        · rw [if_neg h2, if_neg (by omega)]
  have := key 16 (by omega) i
  rw [if_pos hi] at this
  exact this
theorem mixG_getD (b : List Nat) (hb : b.length = 16) (hby : Bys b) (c j : Nat) (hc : c < 4) (hj : j < 4) : (chAll mixG b).getD (4 * c + j) 0 = mul (b.getD (4 * c + j) 0) 2 ^^^ mul (b.getD (4 * c + (j + 1) % 4) 0) 3 ^^^ b.getD (4 * c + (j + 2) % 4) 0 ^^^ b.getD (4 * c + (j + 3) % 4) 0 := by
  rw [chAll_getD _ _ hb _ (by omega), show (4 * c + j) / 4 = c by omega, show (4 * c + j) % 4 = j by omega]
  obtain ⟨⟨a1, a2, a3, a4⟩, ⟨b1, b2, b3, b4⟩, c1, c2, c3, c4⟩ := rot_byte (kw b c) (kw_lt hby c)
  have k0 := kw_byte hby (4 * c)
  have k1 := kw_byte hby (4 * c + 1)
  have k2 := kw_byte hby (4 * c + 2)
  have k3 := kw_byte hby (4 * c + 3)
  rw [show 4 * c / 4 = c by omega, show 4 * c % 4 = 0 by omega] at k0
  rw [show (4 * c + 1) / 4 = c by omega, show (4 * c + 1) % 4 = 1 by omega] at k1
  rw [show (4 * c + 2) / 4 = c by omega, show (4 * c + 2) % 4 = 2 by omega] at k2
  rw [show (4 * c + 3) / 4 = c by omega, show (4 * c + 3) % 4 = 3 by omega] at k3
  simp only [Nat.reduceMul, Nat.reduceSub] at k0 k1 k2 k3
  have h : j = 0 ∨ j = 1 ∨ j = 2 ∨ j = 3 := by omega
  rcases h with rfl | rfl | rfl | rfl <;> simp only [Nat.reduceMul, Nat.reduceSub, Nat.reduceAdd, Nat.reduceMod, Nat.add_zero]
  · rw [mix_byte c _ 24 16 8 0 (by omega) a1 b1 c1, k0, k1, k2, k3]; rfl
  · rw [mix_byte c _ 16 8 0 24 (by omega) a2 b2 c2, k0, k1, k2, k3]; rfl
  · rw [mix_byte c _ 8 0 24 16 (by omega) a3 b3 c3, k0, k1, k2, k3]; rfl
  · rw [mix_byte c _ 0 24 16 8 (by omega) a4 b4 c4, k0, k1, k2, k3]; rfl

theorem size_r16 : (Try.prog.info? 34).map (·.size) = some 16 := by kernel_rfl
theorem alloc_r16 (w : World) : (Instr.alloc 34 true (.tuple #[])).run Try.prog w = .ok (.pointer (some ⟨w.heap.size, 0, none⟩)) (w.alloc (.cells (ints .u8 (nn (zerN 16))).toArray 34)) := by kernel_rfl
set_option maxHeartbeats 2000000 in
set_option maxRecDepth 100000 in
theorem r_add (K b : List Nat) (r : Nat) (w : World) (hK : K.length = 60) (hKw : Words K) (hr : r ≤ 14) (hb : b.length = 16) (hby : Bys b) :
    Calls Try.prog 50 #[.agg (ints .u32 (nn K)).toArray, .int .i64 (r : Int), .agg (ints .u8 (nn b)).toArray] w fun e w' => e = .returned (.agg (ints .u8 (nn (chAll (addG K r) b))).toArray) ∧ Below w.heap.size w w' := by
  obtain ⟨L, hL⟩ : ∃ L, chAll (addG K r) b = L := ⟨_, rfl⟩
  have hLL : L.length = 16 := by rw [← hL]; exact (chAll_len _ _).trans hb
  have hall := addP_all K b r hb hby
  rw [hL] at hall ⊢
  have HL := Lib.hid hall
  have HLL := Lib.hid hLL
  have HB := Lib.hid hb
  have HK := Lib.hid hK
  clear hall hLL hb hK hL
  have k0 : Blk (((w.alloc (.cells (ints .u32 (nn K)).toArray 65)).alloc (.cells (ints .u8 (nn b)).toArray 34)).alloc (.cells (ints .u8 (nn (zerN 16))).toArray 34)) w.heap.size 65 (ints .u32 (nn K)) := ((Blk.new _ _ _).alloc _).alloc _
  have k1 : Blk (((w.alloc (.cells (ints .u32 (nn K)).toArray 65)).alloc (.cells (ints .u8 (nn b)).toArray 34)).alloc (.cells (ints .u8 (nn (zerN 16))).toArray 34)) (w.heap.size + 1) 34 (ints .u8 (nn (addP K b r 0))) := (Blk.new2 _ _ _ _ rfl).alloc _
  have k2 : Blk (((w.alloc (.cells (ints .u32 (nn K)).toArray 65)).alloc (.cells (ints .u8 (nn b)).toArray 34)).alloc (.cells (ints .u8 (nn (zerN 16))).toArray 34)) (w.heap.size + 1 + 1) 34 (ints .u8 (nn (zerN 16))) := by
    have := Blk.new2 (w.alloc (.cells (ints .u32 (nn K)).toArray 65)) (.cells (ints .u8 (nn b)).toArray 34) 34 (ints .u8 (nn (zerN 16))) rfl
    rw [World.size_alloc] at this
    exact this
  have kb : Below w.heap.size w (((w.alloc (.cells (ints .u32 (nn K)).toArray 65)).alloc (.cells (ints .u8 (nn b)).toArray 34)).alloc (.cells (ints .u8 (nn (zerN 16))).toArray 34)) := (((Below.refl _ _).alloc (Nat.le_refl _) _).alloc (by simp) _).alloc (by simp; omega) _
  go_enter Try.func50, Try.ntmps50
  go_wp2_with (refine wpList_alloc_at rfl 34 rfl _ _ (alloc_r16 _) ?_)
  generalize World.alloc (World.alloc (World.alloc w _) _) _ = w2 at *
  go_loopw [7] (fun i wr => ∃ k : Nat, k ≤ 16 ∧ i = .int .i64 k ∧ Blk wr w.heap.size 65 (ints .u32 (nn K)) ∧ Blk wr (w.heap.size + 1) 34 (ints .u8 (nn (addP K b r k))) ∧ Blk wr (w.heap.size + 1 + 1) 34 (ints .u8 (nn (zerN 16))) ∧ Below w.heap.size w wr) (fun i _ => 16 - (intOf i).toNat)
  case atStart => exact ⟨0, by omega, rfl, k0, k1, k2, kb⟩
  case round =>
    obtain ⟨k, hk16, rfl, g0, g1, g2, gb⟩ := hrel
    clear k0 k1 k2 kb
    by_cases hlt : k < 16
    · have hs : addP K b r (k + 1) = (addP K b r k).set k (addB K b r k) := rfl
      have hbk : (addP K b r k).getD k 0 = b.getD k 0 := by rw [addP_getD K b r HB.out k (by omega), if_neg (by omega)]
      have c1 := g1.nat (j := k) (by rw [addP_len, HB.out]; omega)
      rw [hbk] at c1
      have hfr := g1.free k
      have c0 := g0.nat (j := 4 * r + k / 4) (by rw [HK.out]; omega)
      have hx := xor_byte (b.getD k 0) (K.getD (4 * r + k / 4) 0 / 2 ^ (24 - 8 * (k % 4)) % 256) (hby k) (Nat.mod_lt _ (by omega))
      rw [show b.getD k 0 ^^^ (K.getD (4 * r + k / 4) 0 / 2 ^ (24 - 8 * (k % 4)) % 256) = addB K b r k from rfl] at hx
      have hcv : IntKind.u8.wrap (((K.getD (4 * r + k / 4) 0 : Nat) : Int) / 2 ^ (24 - 8 * (k % 4))) = ((K.getD (4 * r + k / 4) 0 / 2 ^ (24 - 8 * (k % 4)) % 256 : Nat) : Int) := by
        rw [IntKind.wrap_u8, Int.natCast_emod, Int.natCast_ediv, pow_cast]; rfl
      have Hs := Lib.hid hs
      clear hs hbk
      generalize addB K b r k = nv at *
      generalize K.getD (4 * r + k / 4) 0 / 2 ^ (24 - 8 * (k % 4)) % 256 = kb at *
      generalize K.getD (4 * r + k / 4) 0 = kv at *
      generalize b.getD k 0 = bv at *
      generalize addP K b r k = l at *
      obtain ⟨q, hq4, hqI⟩ : ∃ q : Nat, q < 4 ∧ (k : Int) / 4 = (q : Int) ∧ k / 4 = q := ⟨k / 4, by omega, by omega, rfl⟩
      obtain ⟨m, hm4, hmI⟩ : ∃ m : Nat, m < 4 ∧ (k : Int) % 4 = (m : Int) ∧ k % 4 = m := ⟨k % 4, by omega, by omega, rfl⟩
      rw [hqI.2] at c0
      rw [hmI.2] at hcv
      have j1 := hqI.1
      have j2 := hmI.1
      clear hqI hmI
      have e0 : IntKind.i64.wrap (4 * (r : Int)) = 4 * (r : Int) := IntWalk.i64_in _ (by omega)
      have e1 : IntKind.i64.wrap (4 * (r : Int) + (q : Int)) = 4 * (r : Int) + (q : Int) := IntWalk.i64_in _ (by omega)
      have e2 : (4 * (r : Int) + (q : Int)).toNat = 4 * r + q := by omega
      have e3 : (0 : Int) ≤ 4 * (r : Int) + (q : Int) := by omega
      have e4 : 4 * (r : Int) + (q : Int) < 60 := by omega
      have e5 : IntKind.i64.wrap (8 * (m : Int)) = 8 * (m : Int) := IntWalk.i64_in _ (by omega)
      have e6 : IntKind.i64.wrap (24 - 8 * (m : Int)) = 24 - 8 * (m : Int) := IntWalk.i64_in _ (by omega)
      have e7 : (0 : Int) ≤ 24 - 8 * (m : Int) := by omega
      have e8 : (24 - 8 * (m : Int)).toNat = 24 - 8 * m := by omega
      have e9 : 8 * (m : Int) ≤ 24 := by omega
      have e10 : IntKind.i64.wrap ((k : Int) / 4) = (q : Int) := by rw [j1]; exact IntWalk.i64_in _ (by omega)
      have e11 : (k : Int) < 16 := by omega
      have e12 : IntKind.i64.wrap ((k : Int).tdiv 4) = (q : Int) := by rw [Int.tdiv_eq_ediv_of_nonneg (by omega)]; exact e10
      have e13 : (k : Int).tdiv 4 = (q : Int) := by rw [Int.tdiv_eq_ediv_of_nonneg (by omega)]; exact j1
      have e14 : (k : Int).tmod 4 = (m : Int) := by rw [Int.tmod_eq_emod_of_nonneg (by omega)]; exact j2
      have e15 : IntKind.i64.wrap (q : Int) = (q : Int) := IntWalk.i64_in _ (by omega)
      have e16 : IntKind.i64.wrap (m : Int) = (m : Int) := IntWalk.i64_in _ (by omega)
      clear e10 e12
      go_wp2_with fail
      refine wp_region_still_tail 19 mixedO (by kernel_rfl) ?_
      simp only [List.take_succ_cons, List.take_zero, List.drop_succ_cons, List.drop_zero]
      change wpStill _ _ (World.drew _) _ _ _
      repeat still_step
      refine wpStill_nil ?_
      change wpList _ _ _ _ _ (World.drew _)
      go_wp2
      go_roundw
      case rel =>
        refine ⟨k + 1, by omega, by go_num, ?_, ?_, ?_, ?_⟩
        · exact (g0.drew).other (by simp <;> omega) _
        · rw [Hs.out]
          exact (g1.drew).setNat k nv
        · exact (g2.drew).other (by simp <;> omega) _
        · exact (below_drewN gb 1).setCell (by simp <;> omega) _
      case measure => simp [intOf]; omega
    · obtain rfl : k = 16 := by omega
      have hE : Blk wr (w.heap.size + 1) 34 (ints .u8 (nn L)) := by rw [← HL.out]; exact g1
      clear g1
      go_wp2_with (first | (refine wpList_load_blk rfl 34 _ rfl _ rfl hE Try.underlying34 rfl (by rw [size_r16, ints_length, nn_length, HLL.out]) ?_) | (refine wpList_store_blk rfl 34 _ _ rfl _ _ rfl rfl g2 (by rw [size_r16, ints_length, nn_length, HLL.out]) (by rw [ints_length, ints_length, nn_length, nn_length, HLL.out, zerN_len]) (ints_one _ _) ?_))
      refine bodyPost_ret (v := .agg (ints .u8 (nn L)).toArray) (results_cell_blk rfl _ _ _ rfl (g2.row (ints .u8 (nn L)) (by rw [ints_length, ints_length, nn_length, nn_length, HLL.out, zerN_len])) Try.underlying34 rfl (by rw [size_r16, ints_length, nn_length, HLL.out])) rfl ⟨rfl, below_setRow gb (by omega) _⟩
end Go.Proofs.Ytleofmeejjikmaa
namespace Go.Proofs.Ytleofmeejjikmaa
open Go.RowKit
set_option linter.unusedVariables false

/-- the byte i of a block that was looked up and turned -/
def fLook (b : List Nat) (i : Nat) : Nat := boxG (b.getD ((i / 4 + i % 4) % 4 * 4 + i % 4) 0)
theorem fLook_full (b : List Nat) (hb : b.length = 16) (hby : Bys b) : (List.range 16).map (fLook b) = turnL (chAll lookG b) := by
  refine getD_ext 16 (by simp) ((turnL_len _).trans ((chAll_len _ _).trans hb)) fun j hj => ?_
  rw [map_range_getD _ _ _ hj, turnL_getD _ ((chAll_len _ _).trans hb) j hj, lookG_getD b hb hby _ (by omega)]
  rfl
theorem fLook_at (b : List Nat) (c j : Nat) (hj : j < 4) : fLook b (4 * c + j) = boxG (b.getD (4 * ((c + j) % 4) + j) 0) := by
  unfold fLook
  rw [show (4 * c + j) / 4 = c by omega, show (4 * c + j) % 4 = j by omega, Nat.mul_comm ((c + j) % 4) 4]
def fMix (b : List Nat) (i : Nat) : Nat := (chAll mixG b).getD i 0
theorem fMix_full (b : List Nat) (hb : b.length = 16) : (List.range 16).map (fMix b) = chAll mixG b :=
  getD_ext 16 (by simp) ((chAll_len _ _).trans hb) fun j hj => by rw [map_range_getD _ _ _ hj]; rfl

theorem mix_idx (c j : Nat) (hc : c < 4) (hj : j < 4) : ∃ m1 m2 m3 : Nat, (j + 1) % 4 = m1 ∧ (j + 2) % 4 = m2 ∧ (j + 3) % 4 = m3 ∧ 4 * c + j < 16 ∧ 4 * c + m1 < 16 ∧ 4 * c + m2 < 16 ∧ 4 * c + m3 < 16 ∧ (j : Int) < 4 ∧ (0 : Int) ≤ 4 * (c : Int) + (j : Int) ∧ (4 * (c : Int) + (j : Int)).toNat = 4 * c + j ∧ 4 * (c : Int) + (j : Int) < 16 ∧ ((j : Int) + 1) % 4 = (m1 : Int) ∧ (4 * (c : Int) + (m1 : Int)).toNat = 4 * c + m1 ∧ (0 : Int) ≤ 4 * (c : Int) + (m1 : Int) ∧ 4 * (c : Int) + (m1 : Int) < 16 ∧ Hid (((j : Int) + 2) % 4 = (m2 : Int) ∧ ((j : Int) + 3) % 4 = (m3 : Int) ∧ ((j : Int) + 2).tmod 4 = (m2 : Int) ∧ ((j : Int) + 3).tmod 4 = (m3 : Int) ∧ (4 * (c : Int) + (m2 : Int)).toNat = 4 * c + m2 ∧ (4 * (c : Int) + (m3 : Int)).toNat = 4 * c + m3 ∧ (0 : Int) ≤ 4 * (c : Int) + (m2 : Int) ∧ (0 : Int) ≤ 4 * (c : Int) + (m3 : Int) ∧ 4 * (c : Int) + (m2 : Int) < 16 ∧ 4 * (c : Int) + (m3 : Int) < 16 ∧ IntKind.i64.wrap (4 * (c : Int)) = 4 * (c : Int) ∧ IntKind.i64.wrap (4 * (c : Int) + (j : Int)) = 4 * (c : Int) + (j : Int) ∧ IntKind.i64.wrap ((j : Int) + 2) = (j : Int) + 2 ∧ IntKind.i64.wrap ((j : Int) + 3) = (j : Int) + 3 ∧ IntKind.i64.wrap (m2 : Int) = (m2 : Int) ∧ IntKind.i64.wrap (m3 : Int) = (m3 : Int) ∧ IntKind.i64.wrap (4 * (c : Int) + (m2 : Int)) = 4 * (c : Int) + (m2 : Int) ∧ IntKind.i64.wrap (4 * (c : Int) + (m3 : Int)) = 4 * (c : Int) + (m3 : Int)) := by
  refine ⟨(j + 1) % 4, (j + 2) % 4, (j + 3) % 4, rfl, rfl, rfl, ?_⟩
  refine ⟨by omega, by omega, by omega, by omega, by omega, by omega, by omega, by omega, by omega, by omega, by omega, by omega, Lib.hid ⟨by omega, by omega, by rw [Int.tmod_eq_emod_of_nonneg (by omega)]; omega, by rw [Int.tmod_eq_emod_of_nonneg (by omega)]; omega, by omega, by omega, by omega, by omega, by omega, by omega, IntWalk.i64_in _ (by omega), IntWalk.i64_in _ (by omega), IntWalk.i64_in _ (by omega), IntWalk.i64_in _ (by omega), IntWalk.i64_in _ (by omega), IntWalk.i64_in _ (by omega), IntWalk.i64_in _ (by omega), IntWalk.i64_in _ (by omega)⟩⟩
set_option maxHeartbeats 8000000 in
set_option maxRecDepth 100000 in
theorem r_Encrypt (K b : List Nat) (w : World) (hK : K.length = 60) (hKw : Words K) (hb : b.length = 16) (hby : Bys b) :
    Calls Try.prog 35 #[.agg (ints .u32 (nn K)).toArray, .agg (ints .u8 (nn b)).toArray] w fun e w' => e = .returned (.agg (ints .u8 (nn (encL K b))).toArray) ∧ Below w.heap.size w w' := by
  obtain ⟨L, hL⟩ : ∃ L, encL K b = L := ⟨_, rfl⟩
  have hLL : L.length = 16 := by rw [← hL]; exact (encN_len _ _ _).trans hb
  rw [hL]
  have HL := Lib.hid hL
  have HLL := Lib.hid hLL
  have HB := Lib.hid hb
  have HK := Lib.hid hK
  have hbl := boxT_len
  have HBL := Lib.hid hbl
  clear hL hLL hb hK hbl
  have k0 : Blk (((w.alloc (.cells (ints .u32 (nn K)).toArray 65)).alloc (.cells (ints .u8 (nn b)).toArray 34)).alloc (.cells (ints .u8 (nn (zerN 16))).toArray 34)) w.heap.size 65 (ints .u32 (nn K)) := ((Blk.new _ _ _).alloc _).alloc _
  have k1 : Blk (((w.alloc (.cells (ints .u32 (nn K)).toArray 65)).alloc (.cells (ints .u8 (nn b)).toArray 34)).alloc (.cells (ints .u8 (nn (zerN 16))).toArray 34)) (w.heap.size + 1) 34 (ints .u8 (nn b)) := (Blk.new2 _ _ _ _ rfl).alloc _
  have k2 : Blk (((w.alloc (.cells (ints .u32 (nn K)).toArray 65)).alloc (.cells (ints .u8 (nn b)).toArray 34)).alloc (.cells (ints .u8 (nn (zerN 16))).toArray 34)) (w.heap.size + 1 + 1) 34 (ints .u8 (nn (zerN 16))) := by
    have := Blk.new2 (w.alloc (.cells (ints .u32 (nn K)).toArray 65)) (.cells (ints .u8 (nn b)).toArray 34) 34 (ints .u8 (nn (zerN 16))) rfl
    rw [World.size_alloc] at this
    exact this
  have kb : Below w.heap.size w (((w.alloc (.cells (ints .u32 (nn K)).toArray 65)).alloc (.cells (ints .u8 (nn b)).toArray 34)).alloc (.cells (ints .u8 (nn (zerN 16))).toArray 34)) := (((Below.refl _ _).alloc (Nat.le_refl _) _).alloc (by simp) _).alloc (by simp; omega) _
  have hT := fun w => r_Table w
  have HT := Lib.hid hT
  clear hT
  go_enter Try.func35, Try.ntmps35
  go_wp2_with (refine wpList_alloc_at rfl 34 rfl _ _ (alloc_r16 _) ?_)
  generalize World.alloc (World.alloc (World.alloc w _) _) _ = w2 at *
  refine (HT.out _).mono ?_
  rintro e w3 ⟨rfl, hb3⟩
  have i0 := k0.below hb3 k0.lt
  have i1 := k1.below hb3 k1.lt
  have i2 := k2.below hb3 k2.lt
  have iw := kb.trans (hb3.mono kb.size)
  have ilt : w.heap.size + 1 + 1 < w3.heap.size := i2.lt
  clear k0 k1 k2 kb hb3
  have hZ : (ints .u8 (nn boxT)).length = (ints .u8 (nn (zerN 256))).length := by rw [ints_length, ints_length, nn_length, nn_length, HBL.out, zerN_len]
  have HZ := Lib.hid hZ
  have jx := (Blk.new' w3 85 (ints .u8 (nn (zerN 256))) rfl).row (ints .u8 (nn boxT)) hZ
  have j0 := (i0.alloc (.cells (ints .u8 (nn (zerN 256))).toArray 85)).rowOther (show w.heap.size ≠ w3.heap.size by omega) (ints .u8 (nn boxT)).toArray
  have j1 := (i1.alloc (.cells (ints .u8 (nn (zerN 256))).toArray 85)).rowOther (show w.heap.size + 1 ≠ w3.heap.size by omega) (ints .u8 (nn boxT)).toArray
  have j2 := (i2.alloc (.cells (ints .u8 (nn (zerN 256))).toArray 85)).rowOther (show w.heap.size + 1 + 1 ≠ w3.heap.size by omega) (ints .u8 (nn boxT)).toArray
  have jw := below_setRow (iw.alloc (by omega) (.cells (ints .u8 (nn (zerN 256))).toArray 85)) (show w.heap.size ≤ w3.heap.size by omega) (ints .u8 (nn boxT)).toArray
  clear i0 i1 i2 iw hZ
  go_wp2_with (first | (refine wpList_alloc_at rfl 85 rfl _ _ (alloc_z256 _) ?_) | (refine wpList_store_blk rfl 85 _ _ rfl w3.heap.size (ints .u8 (nn boxT)) rfl rfl (Blk.new' w3 85 (ints .u8 (nn (zerN 256))) rfl) (by rw [size_p256]; exact congrArg some (by rw [ints_length, nn_length, HBL.out])) HZ.out.symm (ints_one _ _) ?_) | (refine wpList_load_blk rfl 34 _ rfl _ rfl j1 Try.underlying34 rfl (by rw [size_r16, ints_length, nn_length, HB.out]) ?_) | (refine wpList_load_blk rfl 65 _ rfl _ rfl j0 Try.underlying65 rfl (by rw [size_r60, ints_length, nn_length, HK.out]) ?_))
  generalize World.setRow _ _ _ = w4 at *
  generalize w3.heap.size = bx at *
  refine (r_add K b 0 _ HK.out hKw (by omega) HB.out hby).mono ?_
  rintro e w6 ⟨rfl, hb6⟩
  have hl0 : (chAll (addG K 0) b).length = 16 := (chAll_len _ _).trans HB.out
  have HL0 := Lib.hid hl0
  clear hl0
  have i0 := j0.below hb6 j0.lt
  have i1 := j1.below hb6 j1.lt
  have i2 := j2.below hb6 j2.lt
  have ix := jx.below hb6 jx.lt
  have iw := jw.trans (hb6.mono jw.size)
  clear j0 j1 j2 jx jw hb6 HZ
  go_wp2_with (first | (refine wpList_store_blk rfl 34 _ _ rfl _ (ints .u8 (nn (chAll (addG K 0) b))) rfl rfl i1 (by rw [size_r16, ints_length, nn_length, HL0.out]) (by rw [ints_length, ints_length, nn_length, nn_length, HB.out, HL0.out]) (ints_one _ _) ?_))
  have j1 : Blk (w6.setRow (w.heap.size + 1) (ints .u8 (nn (chAll (addG K 0) b))).toArray) (w.heap.size + 1) 34 (ints .u8 (nn (encN K b 0))) := i1.row (ints .u8 (nn (chAll (addG K 0) b))) (by rw [ints_length, ints_length, nn_length, nn_length, HB.out, HL0.out])
  have j0 := i0.rowOther (show w.heap.size ≠ w.heap.size + 1 by omega) (ints .u8 (nn (chAll (addG K 0) b))).toArray
  have j2 := i2.rowOther (show w.heap.size + 1 + 1 ≠ w.heap.size + 1 by omega) (ints .u8 (nn (chAll (addG K 0) b))).toArray
  have jx := ix.rowOther (show bx ≠ w.heap.size + 1 by omega) (ints .u8 (nn (chAll (addG K 0) b))).toArray
  have jw := below_setRow iw (show w.heap.size ≤ w.heap.size + 1 by omega) (ints .u8 (nn (chAll (addG K 0) b))).toArray
  clear i0 i1 i2 ix iw HL0
  generalize World.setRow _ _ _ = w7 at *
  go_loopw [6] (fun i wr => ∃ n : Nat, n ≤ 14 ∧ i = .int .i64 ((n : Int) + 1) ∧ Blk wr (w.heap.size + 1) 34 (ints .u8 (nn (encN K b n))) ∧ Blk wr w.heap.size 65 (ints .u32 (nn K)) ∧ Blk wr (w.heap.size + 1 + 1) 34 (ints .u8 (nn (zerN 16))) ∧ Blk wr bx 85 (ints .u8 (nn boxT)) ∧ Below w.heap.size w wr) (fun i _ => 15 - (intOf i).toNat)
  case atStart => exact ⟨0, by omega, rfl, j1, j0, j2, jx, jw⟩
  case round =>
    obtain ⟨n, hn, rfl, j1, j0, j2, jx, jw⟩ := hrel
    have hlen := (encN_len K b n).trans HB.out
    have hbys := encN_bys K hby n
    have hstep : encN K b (n + 1) = rnd K (n + 1) (encN K b n) := rfl
    have HS := Lib.hid hstep
    clear hstep
    by_cases hlt : n < 14
    · have l2 : (turnL (chAll lookG (encN K b n))).length = 16 := (turnL_len _).trans ((chAll_len _ _).trans hlen)
      have b2 : Bys (turnL (chAll lookG (encN K b n))) := turnL_bys (chAll_bys _ hbys)
      have hfull := fLook_full (encN K b n) hlen hbys
      have l4 := (encN_len K b (n + 1)).trans HB.out
      have l3 : (chAll mixG (turnL (chAll lookG (encN K b n)))).length = 16 := (chAll_len _ _).trans l2
      have b3 : Bys (chAll mixG (turnL (chAll lookG (encN K b n)))) := chAll_bys _ b2
      have q1 : n + 1 < 14 → chAll (addG K (n + 1)) (chAll mixG (turnL (chAll lookG (encN K b n)))) = encN K b (n + 1) := fun h => by rw [HS.out]; unfold rnd; rw [if_pos h]
      have q2 : ¬ n + 1 < 14 → chAll (addG K (n + 1)) (turnL (chAll lookG (encN K b n))) = encN K b (n + 1) := fun h => by rw [HS.out]; unfold rnd; rw [if_neg h]
      have hAm := fun w => r_add K (chAll mixG (turnL (chAll lookG (encN K b n)))) (n + 1) w HK.out hKw (by omega) l3 b3
      have hAl := fun w => r_add K (turnL (chAll lookG (encN K b n))) (n + 1) w HK.out hKw (by omega) l2 b2
      have hmf := fMix_full (turnL (chAll lookG (encN K b n))) l2
      have hmx : ∀ c j, c < 4 → j < 4 → fMix (turnL (chAll lookG (encN K b n))) (4 * c + j) = mul ((turnL (chAll lookG (encN K b n))).getD (4 * c + j) 0) 2 ^^^ mul ((turnL (chAll lookG (encN K b n))).getD (4 * c + (j + 1) % 4) 0) 3 ^^^ (turnL (chAll lookG (encN K b n))).getD (4 * c + (j + 2) % 4) 0 ^^^ (turnL (chAll lookG (encN K b n))).getD (4 * c + (j + 3) % 4) 0 := fun c j hc hj => mixG_getD _ l2 b2 c j hc hj
      have Q1 := Lib.hid q1
      have Q2 := Lib.hid q2
      have HAm := Lib.hid hAm
      have HAl := Lib.hid hAl
      have HMF := Lib.hid hmf
      have HMX := Lib.hid hmx
      have L3 := Lib.hid l3
      have B2 := Lib.hid b2
      clear q1 q2 hAm hAl hmf hmx l3 b3 b2 HS
      have HFull := Lib.hid hfull
      have L2 := Lib.hid l2
      have L4 := Lib.hid l4
      have HLen := Lib.hid hlen
      clear hfull l2 l4 hlen
      generalize hX4 : encN K b (n + 1) = X4 at *
      have HX := Lib.hid hX4
      clear hX4
      generalize hX3 : chAll mixG (turnL (chAll lookG (encN K b n))) = X3 at *
      clear hX3
      generalize turnL (chAll lookG (encN K b n)) = X2 at *
      have n1 : (n : Int) + 1 ≤ 14 := by omega
      go_wp2_with (first | (refine wpList_alloc_at rfl 34 rfl _ _ (alloc_r16 _) ?_) | (refine wpList_build_at rfl 34 _ rfl (.agg (ints .u8 (nn (zerN 16))).toArray) (by kernel_rfl) ?_) | (refine wpList_store_blk rfl 34 _ _ rfl wr.heap.size (ints .u8 (nn (zerN 16))) rfl rfl (Blk.new' wr 34 (ints .u8 (nn (zerN 16))) rfl) (by rw [size_r16, ints_length, nn_length, zerN_len]) rfl (ints_one _ _) ?_))
      have q3 : Blk ((wr.alloc (.cells (ints .u8 (nn (zerN 16))).toArray 34)).setRow wr.heap.size (ints .u8 (nn (zerN 16))).toArray) wr.heap.size 34 (ints .u8 (nn (fillF (fLook (encN K b n)) 16 (4 * 0)))) := (Blk.new' wr 34 (ints .u8 (nn (zerN 16))) rfl).row (ints .u8 (nn (zerN 16))) rfl
      have h1lt := j1.lt
      have h0lt := j0.lt
      have h2lt := j2.lt
      have hxlt := jx.lt
      have q1 := (j1.alloc (.cells (ints .u8 (nn (zerN 16))).toArray 34)).rowOther (show w.heap.size + 1 ≠ wr.heap.size by omega) (ints .u8 (nn (zerN 16))).toArray
      have q0 := (j0.alloc (.cells (ints .u8 (nn (zerN 16))).toArray 34)).rowOther (show w.heap.size ≠ wr.heap.size by omega) (ints .u8 (nn (zerN 16))).toArray
      have q2 := (j2.alloc (.cells (ints .u8 (nn (zerN 16))).toArray 34)).rowOther (show w.heap.size + 1 + 1 ≠ wr.heap.size by omega) (ints .u8 (nn (zerN 16))).toArray
      have qx := (jx.alloc (.cells (ints .u8 (nn (zerN 16))).toArray 34)).rowOther (show bx ≠ wr.heap.size by omega) (ints .u8 (nn (zerN 16))).toArray
      have qw := below_setRow (jw.alloc jw.size (.cells (ints .u8 (nn (zerN 16))).toArray 34)) jw.size (ints .u8 (nn (zerN 16))).toArray
      have hw0 := jw.size
      clear j0 j1 j2 jx jw
      generalize encN K b n = X0 at *
      generalize World.setRow _ _ _ = w8 at *
      generalize wr.heap.size = bX at *
      obtain ⟨wo, hwo⟩ : ∃ wo : World, wo = wr := ⟨_, rfl⟩
      clear hwo
      have HBy := Lib.hid hbys
      clear hbys
      go_loopw [8] (fun i wq => ∃ c : Nat, c ≤ 4 ∧ i = .int .i64 c ∧ Blk wq (w.heap.size + 1) 34 (ints .u8 (nn X0)) ∧ Blk wq w.heap.size 65 (ints .u32 (nn K)) ∧ Blk wq (w.heap.size + 1 + 1) 34 (ints .u8 (nn (zerN 16))) ∧ Blk wq bx 85 (ints .u8 (nn boxT)) ∧ Blk wq bX 34 (ints .u8 (nn (fillF (fLook X0) 16 (4 * c)))) ∧ Below w.heap.size w wq) (fun i _ => 4 - (intOf i).toNat)
      case atStart =>
        clear n1
        exact ⟨0, by omega, rfl, q1, q0, q2, qx, q3, qw⟩
      case round =>
        clear n1
        obtain ⟨c, hc, rfl, j1, j0, j2, jx, j3, jw⟩ := hrel
        clear q1 q0 q2 qx q3 qw
        by_cases hc4 : c < 4
        · have d7 : (c : Int) < 4 := by omega
          go_wp2
          obtain ⟨wo1, hwo1⟩ : ∃ wo : World, wo = wr := ⟨_, rfl⟩
          clear hwo1
          go_loopw [9] (fun i wq => ∃ j : Nat, j ≤ 4 ∧ i = .int .i64 j ∧ Blk wq (w.heap.size + 1) 34 (ints .u8 (nn X0)) ∧ Blk wq w.heap.size 65 (ints .u32 (nn K)) ∧ Blk wq (w.heap.size + 1 + 1) 34 (ints .u8 (nn (zerN 16))) ∧ Blk wq bx 85 (ints .u8 (nn boxT)) ∧ Blk wq bX 34 (ints .u8 (nn (fillF (fLook X0) 16 (4 * c + j)))) ∧ Below w.heap.size w wq) (fun i _ => 4 - (intOf i).toNat)
          case atStart => exact ⟨0, by omega, rfl, j1, j0, j2, jx, j3, jw⟩
          case round =>
            obtain ⟨j, hj, rfl, j1, j0, j2, jx, j3, jw⟩ := hrel
            by_cases hj4 : j < 4
            · have hset := fillF_set (fLook X0) 16 (4 * c + j) (by omega)
              rw [fLook_at X0 c j hj4] at hset
              have cb := j1.nat (j := 4 * ((c + j) % 4) + j) (by rw [HLen.out]; omega)
              have hv := HBy.out (4 * ((c + j) % 4) + j)
              have cx := jx.nat (j := X0.getD (4 * ((c + j) % 4) + j) 0) (by rw [HBL.out]; exact hv)
              rw [show boxT.getD (X0.getD (4 * ((c + j) % 4) + j) 0) 0 = boxG (X0.getD (4 * ((c + j) % 4) + j) 0) from rfl] at cx
              have ct := j3.nat (j := 4 * c + j) (by rw [fillF_len _ _ _ (by omega)]; omega)
              have hfr := j3.free (4 * c + j)
              have Hs := Lib.hid hset
              clear hset
              generalize boxG (X0.getD (4 * ((c + j) % 4) + j) 0) = y at *
              generalize X0.getD (4 * ((c + j) % 4) + j) 0 = v at *
              have d0 : (0 : Int) ≤ 4 * (c : Int) + (j : Int) := by omega
              have d1 : (4 * (c : Int) + (j : Int)).toNat = 4 * c + j := by omega
              have d2 : 4 * (c : Int) + (j : Int) < 16 := by omega
              have d3 : (0 : Int) ≤ 4 * (((c : Int) + (j : Int)) % 4) + (j : Int) := by omega
              have d4 : (4 * (((c : Int) + (j : Int)) % 4) + (j : Int)).toNat = 4 * ((c + j) % 4) + j := by omega
              have d5 : 4 * (((c : Int) + (j : Int)) % 4) + (j : Int) < 16 := by omega
              have d6 : (v : Int) < 256 := by omega
              have d8 : (j : Int) < 4 := by omega
              go_wp2
              go_roundw
              case rel =>
                refine ⟨j + 1, by omega, by go_num, ?_, ?_, ?_, ?_, ?_, ?_⟩
                · exact j1.other (by simp <;> omega) _
                · exact j0.other (by simp <;> omega) _
                · exact j2.other (by simp <;> omega) _
                · exact jx.other (by simp <;> omega) _
                · rw [show 4 * c + (j + 1) = 4 * c + j + 1 by omega, ← Hs.out]
                  exact j3.setNat (4 * c + j) y
                · exact jw.setCell (by simp <;> omega) _
              case measure => simp [intOf]; omega
            · obtain rfl : j = 4 := by omega
              go_wp2
              go_roundw
              case rel => exact ⟨c + 1, by omega, by go_num, j1, j0, j2, jx, by rw [show 4 * (c + 1) = 4 * c + 4 by omega]; exact j3, jw⟩
              case measure => simp [intOf]; omega
        · obtain rfl : c = 4 := by omega
          rw [fillF_full, HFull.out] at j3
          by_cases h14 : n + 1 < 14
          · have X4e := Q1.out h14
            have n2 : (n : Int) + 1 < 14 := by omega
            clear hc hc4 Q1 Q2 HFull
            go_wp2_with (first | (refine wpList_alloc_at rfl 34 rfl _ _ (alloc_r16 _) ?_) | (refine wpList_build_at rfl 34 _ rfl (.agg (ints .u8 (nn (zerN 16))).toArray) (by kernel_rfl) ?_) | (refine wpList_store_blk rfl 34 _ _ rfl wr.heap.size (ints .u8 (nn (zerN 16))) rfl rfl (Blk.new' wr 34 (ints .u8 (nn (zerN 16))) rfl) (by rw [size_r16, ints_length, nn_length, zerN_len]) rfl (ints_one _ _) ?_))
            have p4 : Blk ((wr.alloc (.cells (ints .u8 (nn (zerN 16))).toArray 34)).setRow wr.heap.size (ints .u8 (nn (zerN 16))).toArray) wr.heap.size 34 (ints .u8 (nn (fillF (fMix X2) 16 (4 * 0)))) := (Blk.new' wr 34 (ints .u8 (nn (zerN 16))) rfl).row (ints .u8 (nn (zerN 16))) rfl
            have l1t := j1.lt
            have l0t := j0.lt
            have l2t := j2.lt
            have lxt := jx.lt
            have l3t := j3.lt
            have p1 := (j1.alloc (.cells (ints .u8 (nn (zerN 16))).toArray 34)).rowOther (show w.heap.size + 1 ≠ wr.heap.size by omega) (ints .u8 (nn (zerN 16))).toArray
            have p0 := (j0.alloc (.cells (ints .u8 (nn (zerN 16))).toArray 34)).rowOther (show w.heap.size ≠ wr.heap.size by omega) (ints .u8 (nn (zerN 16))).toArray
            have p2 := (j2.alloc (.cells (ints .u8 (nn (zerN 16))).toArray 34)).rowOther (show w.heap.size + 1 + 1 ≠ wr.heap.size by omega) (ints .u8 (nn (zerN 16))).toArray
            have px := (jx.alloc (.cells (ints .u8 (nn (zerN 16))).toArray 34)).rowOther (show bx ≠ wr.heap.size by omega) (ints .u8 (nn (zerN 16))).toArray
            have p3 := (j3.alloc (.cells (ints .u8 (nn (zerN 16))).toArray 34)).rowOther (show bX ≠ wr.heap.size by omega) (ints .u8 (nn (zerN 16))).toArray
            have pw := below_setRow (jw.alloc jw.size (.cells (ints .u8 (nn (zerN 16))).toArray 34)) jw.size (ints .u8 (nn (zerN 16))).toArray
            have hwz := jw.size
            clear j0 j1 j2 jx jw j3
            generalize World.setRow _ _ _ = w9 at *
            generalize wr.heap.size = bY at *
            obtain ⟨wo2, hwo2⟩ : ∃ wo : World, wo = wr := ⟨_, rfl⟩
            clear hwo2
            go_loopw [11] (fun i wq => ∃ c : Nat, c ≤ 4 ∧ i = .int .i64 c ∧ Blk wq (w.heap.size + 1) 34 (ints .u8 (nn X0)) ∧ Blk wq w.heap.size 65 (ints .u32 (nn K)) ∧ Blk wq (w.heap.size + 1 + 1) 34 (ints .u8 (nn (zerN 16))) ∧ Blk wq bx 85 (ints .u8 (nn boxT)) ∧ Blk wq bX 34 (ints .u8 (nn X2)) ∧ Blk wq bY 34 (ints .u8 (nn (fillF (fMix X2) 16 (4 * c)))) ∧ Below w.heap.size w wq) (fun i _ => 4 - (intOf i).toNat)
            case atStart => exact ⟨0, by omega, rfl, p1, p0, p2, px, p3, p4, pw⟩
            case round =>
              obtain ⟨c, hc, rfl, g1, g0, g2, gx, g3, g4, gw⟩ := hrel
              clear p1 p0 p2 px p3 p4 pw
              by_cases hc4 : c < 4
              · have d7 : (c : Int) < 4 := by omega
                go_wp2
                obtain ⟨wo3, hwo3⟩ : ∃ wo : World, wo = wr := ⟨_, rfl⟩
                clear hwo3
                go_loopw [12] (fun i wq => ∃ j : Nat, j ≤ 4 ∧ i = .int .i64 j ∧ Blk wq (w.heap.size + 1) 34 (ints .u8 (nn X0)) ∧ Blk wq w.heap.size 65 (ints .u32 (nn K)) ∧ Blk wq (w.heap.size + 1 + 1) 34 (ints .u8 (nn (zerN 16))) ∧ Blk wq bx 85 (ints .u8 (nn boxT)) ∧ Blk wq bX 34 (ints .u8 (nn X2)) ∧ Blk wq bY 34 (ints .u8 (nn (fillF (fMix X2) 16 (4 * c + j)))) ∧ Below w.heap.size w wq) (fun i _ => 4 - (intOf i).toNat)
                case atStart => exact ⟨0, by omega, rfl, g1, g0, g2, gx, g3, g4, gw⟩
                case round =>
                  obtain ⟨j, hj, rfl, g1, g0, g2, gx, g3, g4, gw⟩ := hrel
                  by_cases hj4 : j < 4
                  · have hset := fillF_set (fMix X2) 16 (4 * c + j) (by omega)
                    rw [HMX.out c j hc4 hj4] at hset
                    have h16 : 4 * c + j ≤ 16 := by omega
                    have hjj : j + 1 ≤ 4 := by omega
                    have hfz := fillF_len (fMix X2) 16 (4 * c + j) h16
                    have hfr := g4.free (4 * c + j)
                    have hmeas : 4 - (j + 1) < 4 - j := by omega
                    have HJ := Lib.hid hjj
                    have HM2 := Lib.hid hmeas
                    clear h16 hjj hmeas
                    obtain ⟨m1, m2, m3, e1, e2, e3, r0, r1, r2, r3, d8, d0, d1, d2, f1, a1, z1, b1, HP2⟩ := mix_idx c j hc4 hj4
                    rw [e1, e2, e3] at hset
                    have ca := g3.nat (j := 4 * c + j) (by rw [L2.out]; exact r0)
                    have cb := g3.nat (j := 4 * c + m1) (by rw [L2.out]; exact r1)
                    have cc := g3.nat (j := 4 * c + m2) (by rw [L2.out]; exact r2)
                    have cd := g3.nat (j := 4 * c + m3) (by rw [L2.out]; exact r3)
                    have va := B2.out (4 * c + j)
                    have vb := B2.out (4 * c + m1)
                    have vc := B2.out (4 * c + m2)
                    have vd := B2.out (4 * c + m3)
                    have ct := g4.nat (j := 4 * c + j) (by rw [hfz]; exact r0)
                    generalize X2.getD (4 * c + j) 0 = xa at *
                    generalize X2.getD (4 * c + m1) 0 = xb at *
                    generalize X2.getD (4 * c + m2) 0 = xc at *
                    generalize X2.getD (4 * c + m3) 0 = xd at *
                    have ma := mul_lt 2 va
                    have mb := mul_lt 3 vb
                    have tA : ∀ w, Calls Try.prog 49 #[.int .u8 (xa : Int), .int .u8 2] w fun e w' => e = .returned (.int .u8 (mul xa 2 : Nat)) ∧ w' = w := fun w => (r_Times xa 2 w va (by decide)).mono fun _ _ ⟨x, y⟩ => ⟨x, y.symm⟩
                    have tB : ∀ w, Calls Try.prog 49 #[.int .u8 (xb : Int), .int .u8 3] w fun e w' => e = .returned (.int .u8 (mul xb 3 : Nat)) ∧ w' = w := fun w => (r_Times xb 3 w vb (by decide)).mono fun _ _ ⟨x, y⟩ => ⟨x, y.symm⟩
                    have x1 := xor_byte (mul xa 2) (mul xb 3) ma mb
                    have x2 := xor_byte (mul xa 2 ^^^ mul xb 3) xc (xor_lt ma mb) vc
                    have x3 := xor_byte (mul xa 2 ^^^ mul xb 3 ^^^ xc) xd (xor_lt (xor_lt ma mb) vc) vd
                    have TA := Lib.hid tA
                    have TB := Lib.hid tB
                    have Hs := Lib.hid hset
                    clear hset tA tB ma mb
                    generalize mul xa 2 ^^^ mul xb 3 ^^^ xc ^^^ xd = y4 at *
                    generalize mul xa 2 ^^^ mul xb 3 ^^^ xc = y3 at *
                    generalize mul xa 2 ^^^ mul xb 3 = y2 at *
                    generalize mul xa 2 = ya at *
                    generalize mul xb 3 = yb at *
                    clear e1 e2 e3 r0 r1 r2 r3 hfz
                    go_wp2_with fail
                    clear f1 a1 z1 b1
                    obtain ⟨f2, f3, k2, k3, a2, a3, z2, z3, b2, b3, w0, w1, w2', w3', w4', w5', w6', w7'⟩ := HP2.out
                    refine wp_region_still_tail 28 mixedO (by kernel_rfl) ?_
                    simp only [List.take_succ_cons, List.take_zero, List.drop_succ_cons, List.drop_zero]
                    change wpStill _ _ (World.drew _) _ _ _
                    repeat (first | still_step | (refine wpStill_step (fun K hK => ?_); go_simp; (with_reducible refine ⟨_, TA.out _, hK _ ?_⟩); clear hK K) | (refine wpStill_step (fun K hK => ?_); go_simp; (with_reducible refine ⟨_, TB.out _, hK _ ?_⟩); clear hK K))
                    refine wpStill_nil ?_
                    change wpList _ _ _ _ _ (World.drew _)
                    clear f2 f3 k2 k3 a2 a3 z2 z3 b2 b3 w0 w1 w2' w3' w4' w5' w6' w7' ca cb cc cd va vb vc vd x1 x2 x3 TA TB
                    go_wp2
                    go_roundw
                    case rel =>
                      refine ⟨j + 1, HJ.out, by go_num, (g1.drew).other (by simp <;> omega) _, (g0.drew).other (by simp <;> omega) _, (g2.drew).other (by simp <;> omega) _, (gx.drew).other (by simp <;> omega) _, (g3.drew).other (by simp <;> omega) _, ?_, (below_drewN gw 1).setCell (by simp <;> omega) _⟩
                      rw [show 4 * c + (j + 1) = 4 * c + j + 1 by omega, ← Hs.out]
                      exact (g4.drew).setNat (4 * c + j) y4
                    case measure => simp [intOf]; omega
                  · obtain rfl : j = 4 := by omega
                    go_wp2
                    go_roundw
                    case rel => exact ⟨c + 1, by omega, by go_num, g1, g0, g2, gx, g3, by rw [show 4 * (c + 1) = 4 * c + 4 by omega]; exact g4, gw⟩
                    case measure => simp [intOf]; omega
              · obtain rfl : c = 4 := by omega
                rw [show 4 * 4 = 16 from rfl, fillF_full, HMF.out] at g4
                have lXX : (ints .u8 (nn X2)).length = (ints .u8 (nn X3)).length := by rw [ints_length, ints_length, nn_length, nn_length, L2.out, L3.out]
                have lYY : (ints .u8 (nn X3)).length = (ints .u8 (nn X2)).length := lXX.symm
                have t0 := g0.rowOther (show w.heap.size ≠ bX by omega) (ints .u8 (nn X3)).toArray
                have t1 := g1.rowOther (show w.heap.size + 1 ≠ bX by omega) (ints .u8 (nn X3)).toArray
                have t2 := g2.rowOther (show w.heap.size + 1 + 1 ≠ bX by omega) (ints .u8 (nn X3)).toArray
                have tx := gx.rowOther (show bx ≠ bX by omega) (ints .u8 (nn X3)).toArray
                have t3 := g3.row (ints .u8 (nn X3)) lYY
                have tw := below_setRow gw hw0 (ints .u8 (nn X3)).toArray
                go_wp2_with (first | (refine wpList_load_blk rfl 34 _ rfl _ rfl g4 Try.underlying34 rfl (by rw [size_r16, ints_length, nn_length, L3.out]) ?_) | (refine wpList_store_blk rfl 34 _ _ rfl bX (ints .u8 (nn X3)) rfl rfl g3 (by rw [size_r16, ints_length, nn_length, L3.out]) lXX (ints_one _ _) ?_) | (refine wpList_load_blk rfl 65 _ rfl _ rfl t0 Try.underlying65 rfl (by rw [size_r60, ints_length, nn_length, HK.out]) ?_) | (refine wpList_load_blk rfl 34 _ rfl _ rfl t3 Try.underlying34 rfl (by rw [size_r16, ints_length, nn_length, L3.out]) ?_))
                generalize World.setRow _ _ _ = w10 at *
                clear g0 g1 g2 gx g3 g4 gw t3
                refine (HAm.out _).mono ?_
                rw [X4e]
                rintro e w6 ⟨rfl, hb6⟩
                have i1 := t1.below hb6 t1.lt
                have i0 := t0.below hb6 t0.lt
                have i2 := t2.below hb6 t2.lt
                have ix := tx.below hb6 tx.lt
                have iw := tw.trans (hb6.mono tw.size)
                clear t1 t0 t2 tx tw hb6
                go_wp2_with (refine wpList_store_blk rfl 34 _ _ rfl _ (ints .u8 (nn X4)) rfl rfl i1 (by rw [size_r16, ints_length, nn_length, L4.out]) (by rw [ints_length, ints_length, nn_length, nn_length, HLen.out, L4.out]) (ints_one _ _) ?_)
                go_roundw
                case rel =>
                  refine ⟨n + 1, by omega, by first | rfl | go_num, ?_, ?_, ?_, ?_, ?_⟩
                  · rw [HX.out]; exact i1.row (ints .u8 (nn X4)) (by rw [ints_length, ints_length, nn_length, nn_length, HLen.out, L4.out])
                  · exact i0.rowOther (by omega) _
                  · exact i2.rowOther (by omega) _
                  · exact ix.rowOther (by omega) _
                  · exact below_setRow iw (by omega) _
                case measure => simp [intOf] <;> omega
          · obtain rfl : n = 13 := by omega
            have X4e := Q2.out h14
            go_wp2_with (first | (refine wpList_load_blk rfl 65 _ rfl _ rfl j0 Try.underlying65 rfl (by rw [size_r60, ints_length, nn_length, HK.out]) ?_) | (refine wpList_load_blk rfl 34 _ rfl _ rfl j3 Try.underlying34 rfl (by rw [size_r16, ints_length, nn_length, L2.out]) ?_))
            have t0 := j0
            have t1 := j1
            have t2 := j2
            have tx := jx
            have tw := jw
            clear j0 j1 j2 jx j3 jw
            refine (HAl.out _).mono ?_
            rw [X4e]
            rintro e w6 ⟨rfl, hb6⟩
            have i1 := t1.below hb6 t1.lt
            have i0 := t0.below hb6 t0.lt
            have i2 := t2.below hb6 t2.lt
            have ix := tx.below hb6 tx.lt
            have iw := tw.trans (hb6.mono tw.size)
            clear t1 t0 t2 tx tw hb6
            go_wp2_with (refine wpList_store_blk rfl 34 _ _ rfl _ (ints .u8 (nn X4)) rfl rfl i1 (by rw [size_r16, ints_length, nn_length, L4.out]) (by rw [ints_length, ints_length, nn_length, nn_length, HLen.out, L4.out]) (ints_one _ _) ?_)
            go_roundw
            case rel =>
              refine ⟨13 + 1, by omega, by first | rfl | go_num, ?_, ?_, ?_, ?_, ?_⟩
              · rw [HX.out]; exact i1.row (ints .u8 (nn X4)) (by rw [ints_length, ints_length, nn_length, nn_length, HLen.out, L4.out])
              · exact i0.rowOther (by omega) _
              · exact i2.rowOther (by omega) _
              · exact ix.rowOther (by omega) _
              · exact below_setRow iw (by omega) _
            case measure => simp [intOf] <;> omega
    · obtain rfl : n = 14 := by omega
      have hE : Blk wr (w.heap.size + 1) 34 (ints .u8 (nn L)) := by rw [← HL.out]; exact j1
      clear j1 hlen hbys
      go_wp2_with (first | (refine wpList_load_blk rfl 34 _ rfl _ rfl hE Try.underlying34 rfl (by rw [size_r16, ints_length, nn_length, HLL.out]) ?_) | (refine wpList_store_blk rfl 34 _ _ rfl _ _ rfl rfl j2 (by rw [size_r16, ints_length, nn_length, HLL.out]) (by rw [ints_length, ints_length, nn_length, nn_length, HLL.out, zerN_len]) (ints_one _ _) ?_))
      refine bodyPost_ret (v := .agg (ints .u8 (nn L)).toArray) (results_cell_blk rfl _ _ _ rfl (j2.row (ints .u8 (nn L)) (by rw [ints_length, ints_length, nn_length, nn_length, HLL.out, zerN_len])) Try.underlying34 rfl (by rw [size_r16, ints_length, nn_length, HLL.out])) rfl ⟨rfl, below_setRow jw (by omega) _⟩
end Go.Proofs.Ytleofmeejjikmaa
