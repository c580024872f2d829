/- A block's columns and their bytes: that each step of a round takes different blocks to different ones. -/
import Derived.Test.YtgagafefhmofjaaCipL
namespace Go.Proofs.Ytgagafefhmofjaa
set_option linter.unusedVariables false

theorem putL_getD (b : List Nat) (c w j : Nat) (hb : b.length = 16) (hc : c < 4) (hj : j < 16) : (putL b c w).getD j 0 = if j / 4 = c then w / 2 ^ (24 - 8 * (j % 4)) % 256 else b.getD j 0 := by
  unfold putL
  simp only [putP]
  rw [getD_set _ _ _ _ (by simp; omega), getD_set _ _ _ _ (by simp; omega), getD_set _ _ _ _ (by simp; omega), getD_set _ _ _ _ (by omega)]
  by_cases h : j / 4 = c
  · rw [if_pos h]
    have hm : j % 4 = 0 ∨ j % 4 = 1 ∨ j % 4 = 2 ∨ j % 4 = 3 := by omega
    rcases hm with hm | hm | hm | hm <;> rw [hm]
    · rw [if_neg (by omega), if_neg (by omega), if_neg (by omega), if_pos (by omega)]
    · rw [if_neg (by omega), if_neg (by omega), if_pos (by omega)]
    · rw [if_neg (by omega), if_pos (by omega)]
    · rw [if_pos (by omega)]
  · rw [if_neg h, if_neg (by omega), if_neg (by omega), if_neg (by omega), if_neg (by omega)]
theorem kw_eq (key : List Nat) (k : Nat) : kw key k = ((key.getD (4 * k) 0 * 256 + key.getD (4 * k + 1) 0) * 256 + key.getD (4 * k + 2) 0) * 256 + key.getD (4 * k + 3) 0 := by
  unfold kw
  simp only [wpre]
  rw [four_getD _ _ _ (by omega), four_getD _ _ _ (by omega), four_getD _ _ _ (by omega), four_getD _ _ _ (by omega)]
  simp
theorem kw_put_same (b : List Nat) (c w : Nat) (hb : b.length = 16) (hc : c < 4) (hw : w < 4294967296) : kw (putL b c w) c = w := by
  rw [kw_eq, putL_getD b c w _ hb hc (by omega), putL_getD b c w _ hb hc (by omega), putL_getD b c w _ hb hc (by omega), putL_getD b c w _ hb hc (by omega)]
  rw [if_pos (by omega), if_pos (by omega), if_pos (by omega), if_pos (by omega)]
  rw [show 4 * c % 4 = 0 by omega, show (4 * c + 1) % 4 = 1 by omega, show (4 * c + 2) % 4 = 2 by omega, show (4 * c + 3) % 4 = 3 by omega]
  simp only [Nat.reduceMul, Nat.reduceSub, Nat.reducePow]
  omega
theorem kw_put_other (b : List Nat) (c d w : Nat) (hb : b.length = 16) (hc : c < 4) (hd : d < 4) (hne : d ≠ c) : kw (putL b c w) d = kw b d := by
  rw [kw_eq, kw_eq, putL_getD b c w _ hb hc (by omega), putL_getD b c w _ hb hc (by omega), putL_getD b c w _ hb hc (by omega), putL_getD b c w _ hb hc (by omega)]
  rw [if_neg (by omega), if_neg (by omega), if_neg (by omega), if_neg (by omega)]
theorem cols4 : cols 4 = [⟨0, by omega⟩, ⟨1, by omega⟩, ⟨2, by omega⟩, ⟨3, by omega⟩] := by decide
theorem chAll_eq (g : Nat → Nat → Nat) (b : List Nat) : chAll g b = putL (putL (putL (putL b 0 (g 0 (kw b 0))) 1 (g 1 (kw b 1))) 2 (g 2 (kw b 2))) 3 (g 3 (kw b 3)) := by
  unfold chAll chL
  rw [cols4]
  simp only [List.foldl_cons, List.foldl_nil]
theorem kw_chAll (g : Nat → Nat → Nat) (b : List Nat) (hb : b.length = 16) (hg : ∀ c v, v < 4294967296 → g c v < 4294967296) (hby : Bys b) (c : Nat) (hc : c < 4) : kw (chAll g b) c = g c (kw b c) := by
  rw [chAll_eq]
  have k : ∀ c, g c (kw b c) < 4294967296 := fun c => hg c _ (kw_lt hby c)
  have l0 : (putL b 0 (g 0 (kw b 0))).length = 16 := by rw [putL_len, hb]
  have l1 : (putL (putL b 0 (g 0 (kw b 0))) 1 (g 1 (kw b 1))).length = 16 := by rw [putL_len, l0]
  have l2 : (putL (putL (putL b 0 (g 0 (kw b 0))) 1 (g 1 (kw b 1))) 2 (g 2 (kw b 2))).length = 16 := by rw [putL_len, l1]
  have h : c = 0 ∨ c = 1 ∨ c = 2 ∨ c = 3 := by omega
  rcases h with rfl | rfl | rfl | rfl
  · rw [kw_put_other _ 3 0 _ l2 (by omega) (by omega) (by omega), kw_put_other _ 2 0 _ l1 (by omega) (by omega) (by omega), kw_put_other _ 1 0 _ l0 (by omega) (by omega) (by omega), kw_put_same _ 0 _ hb (by omega) (k 0)]
  · rw [kw_put_other _ 3 1 _ l2 (by omega) (by omega) (by omega), kw_put_other _ 2 1 _ l1 (by omega) (by omega) (by omega), kw_put_same _ 1 _ l0 (by omega) (k 1)]
  · rw [kw_put_other _ 3 2 _ l2 (by omega) (by omega) (by omega), kw_put_same _ 2 _ l1 (by omega) (k 2)]
  · rw [kw_put_same _ 3 _ l2 (by omega) (k 3)]
/-- blocks of the same columns are the same -/
theorem block_ext {a b : List Nat} (la : a.length = 16) (lb : b.length = 16) (ha : Bys a) (hb : Bys b) (h : ∀ c, c < 4 → kw a c = kw b c) : a = b := by
  apply List.ext_getElem (la.trans lb.symm)
  intro j h1 h2
  have e := h (j / 4) (by omega)
  rw [kw_eq, kw_eq] at e
  have a0 := ha (4 * (j / 4)); have a1 := ha (4 * (j / 4) + 1); have a2 := ha (4 * (j / 4) + 2); have a3 := ha (4 * (j / 4) + 3)
  have b0 := hb (4 * (j / 4)); have b1 := hb (4 * (j / 4) + 1); have b2 := hb (4 * (j / 4) + 2); have b3 := hb (4 * (j / 4) + 3)
  have main : a.getD j 0 = b.getD j 0 := by
    have hj : j = 4 * (j / 4) ∨ j = 4 * (j / 4) + 1 ∨ j = 4 * (j / 4) + 2 ∨ j = 4 * (j / 4) + 3 := by omega
    rcases hj with hj | hj | hj | hj <;> rw [hj] <;> omega
  simpa [h1, h2] using main
theorem chAll_inj (g : Nat → Nat → Nat) (hg : ∀ c v, v < 4294967296 → g c v < 4294967296) (hi : ∀ c v w, v < 4294967296 → w < 4294967296 → g c v = g c w → v = w)
    {a b : List Nat} (la : a.length = 16) (lb : b.length = 16) (ha : Bys a) (hb : Bys b) (h : chAll g a = chAll g b) : a = b :=
  block_ext la lb ha hb fun c hc => hi c _ _ (kw_lt ha c) (kw_lt hb c) (by rw [← kw_chAll g a la hg ha c hc, ← kw_chAll g b lb hg hb c hc, h])

/-! ### the steps -/
theorem addG_lt {K : List Nat} (hK : Words K) (r c v : Nat) (h : v < 4294967296) : addG K r c v < 4294967296 := xor32_lt h (hK _)
theorem addG_inj (K : List Nat) (r c v w : Nat) (h : addG K r c v = addG K r c w) : v = w := by
  unfold addG at h
  have : (v ^^^ K.getD (4 * r + c) 0) ^^^ K.getD (4 * r + c) 0 = (w ^^^ K.getD (4 * r + c) 0) ^^^ K.getD (4 * r + c) 0 := by rw [h]
  rwa [Nat.xor_assoc, Nat.xor_self, Nat.xor_zero, Nat.xor_assoc, Nat.xor_self, Nat.xor_zero] at this
theorem eachN_eq (f : Nat → Nat) (w : Nat) : eachN f w = f (w % 256) + f (w / 256 % 256) * 256 + f (w / 65536 % 256) * 65536 + f (w / 16777216 % 256) * 16777216 := by
  simp [eachN, eachP]
theorem lookG_inj (v w : Nat) (hv : v < 4294967296) (hw : w < 4294967296) (h : eachN boxG v = eachN boxG w) : v = w := by
  rw [eachN_eq, eachN_eq] at h
  have m : ∀ x : Nat, x % 256 < 256 := fun x => Nat.mod_lt _ (by omega)
  have a0 := boxG_lt (m v); have a1 := boxG_lt (m (v / 256)); have a2 := boxG_lt (m (v / 65536)); have a3 := boxG_lt (m (v / 16777216))
  have b0 := boxG_lt (m w); have b1 := boxG_lt (m (w / 256)); have b2 := boxG_lt (m (w / 65536)); have b3 := boxG_lt (m (w / 16777216))
  have e0 := boxG_inj (m v) (m w) (by omega)
  have e1 := boxG_inj (m (v / 256)) (m (w / 256)) (by omega)
  have e2 := boxG_inj (m (v / 65536)) (m (w / 65536)) (by omega)
  have e3 := boxG_inj (m (v / 16777216)) (m (w / 16777216)) (by omega)
  omega
theorem turnAt_inj {a b : List Nat} (la : a.length = 16) (lb : b.length = 16) (h : turnL a = turnL b) : a = b := by
  have key : ∀ (l : List Nat), l.length = 16 → ∀ n, n ≤ 16 → ∀ i, (turnP l n).getD i 0 = if i < n then turnAt l i else l.getD i 0 := by
    intro l hl n
    induction n with
    | zero => intro _ i; simp [turnP]
    | succ n ih =>
      intro hn i
      show ((turnP l n).set n (turnAt l n)).getD i 0 = _
      rw [getD_set _ _ _ _ (by rw [turnP_len, hl]; omega), ih (by omega)]
      by_cases e : n = i
      · subst e; rw [if_pos rfl, if_pos (by omega)]
      · rw [if_neg e]
        by_cases h2 : i < n
        · rw [if_pos h2, if_pos (by omega)]
        · rw [if_neg h2, if_neg (by omega)]
  apply List.ext_getElem (la.trans lb.symm)
  intro j h1 h2
  have hj : j < 16 := by omega
  -- the place to which the byte j goes
  have hp : (((j / 4 + 4 - j % 4) % 4 * 4 + j % 4) / 4 + ((j / 4 + 4 - j % 4) % 4 * 4 + j % 4) % 4) % 4 * 4 + ((j / 4 + 4 - j % 4) % 4 * 4 + j % 4) % 4 = j := by omega
  have hl : (j / 4 + 4 - j % 4) % 4 * 4 + j % 4 < 16 := by omega
  have ea := key a la 16 (by omega) ((j / 4 + 4 - j % 4) % 4 * 4 + j % 4)
  have eb := key b lb 16 (by omega) ((j / 4 + 4 - j % 4) % 4 * 4 + j % 4)
  rw [if_pos hl] at ea eb
  unfold turnAt at ea eb
  rw [hp] at ea eb
  have main : a.getD j 0 = b.getD j 0 := by
    rw [← ea, ← eb]
    show (turnL a).getD _ 0 = (turnL b).getD _ 0
    rw [h]
  simpa [h1, h2] using main

/-! ### columns mixed -/
theorem byte_xor (x y i : Nat) : (x ^^^ y) / 2 ^ i % 256 = (x / 2 ^ i % 256) ^^^ (y / 2 ^ i % 256) := by
  have h1 := Nat.shiftRight_xor_distrib (a := x) (b := y) (i := i)
  simp only [Nat.shiftRight_eq_div_pow] at h1
  have h2 := Nat.xor_mod_two_pow (a := x / 2 ^ i) (b := y / 2 ^ i) (n := 8)
  rw [h1]
  exact h2
theorem rotl32_add (v k : Nat) (hk : k ≤ 32) (hv : v < 4294967296) : rotl32 v k = v * 2 ^ k % 4294967296 + v / 2 ^ (32 - k) := by
  unfold rotl32
  have h1 : v / 2 ^ (32 - k) < 2 ^ k := by
    rw [Nat.div_lt_iff_lt_mul (Nat.two_pow_pos _), ← Nat.pow_add, show k + (32 - k) = 32 by omega]
    exact hv
  have h2 : v * 2 ^ k % 4294967296 = (v % 2 ^ (32 - k)) * 2 ^ k := by
    rw [show (4294967296 : Nat) = 2 ^ (32 - k) * 2 ^ k by rw [← Nat.pow_add, show 32 - k + k = 32 by omega], Nat.mul_mod_mul_right]
  rw [h2, Nat.or_comm, or_add _ _ _ h1, Nat.add_comm]
theorem eachN_byte {f : Nat → Nat} (hf : Byf f) (v k : Nat) (hk : k < 4) : eachN f v / 2 ^ (8 * k) % 256 = f (v / 2 ^ (8 * k) % 256) := by
  rw [eachN_eq]
  have m : ∀ x : Nat, x % 256 < 256 := fun x => Nat.mod_lt _ (by omega)
  have a0 := hf _ (m v); have a1 := hf _ (m (v / 256)); have a2 := hf _ (m (v / 65536)); have a3 := hf _ (m (v / 16777216))
  have h : k = 0 ∨ k = 1 ∨ k = 2 ∨ k = 3 := by omega
  rcases h with rfl | rfl | rfl | rfl <;> simp only [Nat.reduceMul, Nat.reducePow, Nat.div_one]
  · generalize f (v % 256) = x at *; generalize f (v / 256 % 256) = y at *; generalize f (v / 65536 % 256) = z at *; generalize f (v / 16777216 % 256) = u at *; omega
  · generalize f (v % 256) = x at *; generalize f (v / 256 % 256) = y at *; generalize f (v / 65536 % 256) = z at *; generalize f (v / 16777216 % 256) = u at *; omega
  · generalize f (v % 256) = x at *; generalize f (v / 256 % 256) = y at *; generalize f (v / 65536 % 256) = z at *; generalize f (v / 16777216 % 256) = u at *; omega
  · generalize f (v % 256) = x at *; generalize f (v / 256 % 256) = y at *; generalize f (v / 65536 % 256) = z at *; generalize f (v / 16777216 % 256) = u at *; omega
def q4 (a b c d : Nat) : Nat := mul a 2 ^^^ mul b 3 ^^^ c ^^^ d
def p4 (w x y z : Nat) : Nat := mul w 14 ^^^ mul x 11 ^^^ mul y 13 ^^^ mul z 9
theorem mix_a {a : Nat} (h : a < 256) : mul (mul a 2) 14 ^^^ mul a 11 ^^^ mul a 13 ^^^ mul (mul a 3) 9 = a := by
  have h' : (List.range 256).all (fun a => Nat.beq (mul (mul a 2) 14 ^^^ mul a 11 ^^^ mul a 13 ^^^ mul (mul a 3) 9) a) = true := by decide +kernel
  exact Nat.eq_of_beq_eq_true (all256 h' h)
theorem mix_b {a : Nat} (h : a < 256) : mul (mul a 3) 14 ^^^ mul (mul a 2) 11 ^^^ mul a 13 ^^^ mul a 9 = 0 := by
  have h' : (List.range 256).all (fun a => Nat.beq (mul (mul a 3) 14 ^^^ mul (mul a 2) 11 ^^^ mul a 13 ^^^ mul a 9) 0) = true := by decide +kernel
  exact Nat.eq_of_beq_eq_true (all256 h' h)
theorem mix_c {a : Nat} (h : a < 256) : mul a 14 ^^^ mul (mul a 3) 11 ^^^ mul (mul a 2) 13 ^^^ mul a 9 = 0 := by
  have h' : (List.range 256).all (fun a => Nat.beq (mul a 14 ^^^ mul (mul a 3) 11 ^^^ mul (mul a 2) 13 ^^^ mul a 9) 0) = true := by decide +kernel
  exact Nat.eq_of_beq_eq_true (all256 h' h)
theorem mix_d {a : Nat} (h : a < 256) : mul a 14 ^^^ mul a 11 ^^^ mul (mul a 3) 13 ^^^ mul (mul a 2) 9 = 0 := by
  have h' : (List.range 256).all (fun a => Nat.beq (mul a 14 ^^^ mul a 11 ^^^ mul (mul a 3) 13 ^^^ mul (mul a 2) 9) 0) = true := by decide +kernel
  exact Nat.eq_of_beq_eq_true (all256 h' h)
theorem mul_q4 {a b c d : Nat} (k : Nat) (ha : a < 256) (hb : b < 256) (hc : c < 256) (hd : d < 256) : mul (q4 a b c d) k = mul (mul a 2) k ^^^ mul (mul b 3) k ^^^ mul c k ^^^ mul d k := by
  unfold q4
  have m2 := mul_lt 2 ha
  have m3 := mul_lt 3 hb
  rw [mul_xor_left k (xor_lt (xor_lt m2 m3) hc) hd, mul_xor_left k (xor_lt m2 m3) hc, mul_xor_left k m2 m3]
theorem xor16 (a1 a2 a3 a4 b1 b2 b3 b4 c1 c2 c3 c4 d1 d2 d3 d4 : Nat) :
    (a1 ^^^ b1 ^^^ c1 ^^^ d1) ^^^ (b2 ^^^ c2 ^^^ d2 ^^^ a2) ^^^ (c3 ^^^ d3 ^^^ a3 ^^^ b3) ^^^ (d4 ^^^ a4 ^^^ b4 ^^^ c4) = (a1 ^^^ a2 ^^^ a3 ^^^ a4) ^^^ (b1 ^^^ b2 ^^^ b3 ^^^ b4) ^^^ (c1 ^^^ c2 ^^^ c3 ^^^ c4) ^^^ (d1 ^^^ d2 ^^^ d3 ^^^ d4) := by ac_rfl
theorem mix_back {a b c d : Nat} (ha : a < 256) (hb : b < 256) (hc : c < 256) (hd : d < 256) : p4 (q4 a b c d) (q4 b c d a) (q4 c d a b) (q4 d a b c) = a := by
  unfold p4
  rw [mul_q4 14 ha hb hc hd, mul_q4 11 hb hc hd ha, mul_q4 13 hc hd ha hb, mul_q4 9 hd ha hb hc, xor16, mix_a ha, mix_b hb, mix_c hc, mix_d hd]
  simp
def dig (p q r s : Nat) : Nat := p * 16777216 + q * 65536 + r * 256 + s
theorem dig_bytes {p q r s : Nat} (hp : p < 256) (hq : q < 256) (hr : r < 256) (hs : s < 256) :
    dig p q r s / 2 ^ 24 % 256 = p ∧ dig p q r s / 2 ^ 16 % 256 = q ∧ dig p q r s / 2 ^ 8 % 256 = r ∧ dig p q r s / 2 ^ 0 % 256 = s := by
  unfold dig
  simp only [Nat.reducePow, Nat.div_one]
  have f1 : (p * 16777216 + q * 65536 + r * 256 + s) / 16777216 = p := by omega
  have f2 : (p * 16777216 + q * 65536 + r * 256 + s) / 65536 = p * 256 + q := by omega
  have f3 : (p * 16777216 + q * 65536 + r * 256 + s) / 256 = p * 65536 + q * 256 + r := by omega
  rw [f1, f2, f3]
  clear f1 f2 f3
  refine ⟨?_, ?_, ?_, ?_⟩ <;> omega
theorem dig_lt {p q r s : Nat} (hp : p < 256) (hq : q < 256) (hr : r < 256) (hs : s < 256) : dig p q r s < 4294967296 := by unfold dig; omega
theorem dig_of (v : Nat) (hv : v < 4294967296) : ∃ p q r s, p < 256 ∧ q < 256 ∧ r < 256 ∧ s < 256 ∧ v = dig p q r s :=
  ⟨v / 16777216, v / 65536 % 256, v / 256 % 256, v % 256, by omega, by omega, by omega, by omega, by unfold dig; omega⟩
theorem rot8_dig {p q r s : Nat} (hp : p < 256) (hq : q < 256) (hr : r < 256) (hs : s < 256) : rotl32 (dig p q r s) 8 = dig q r s p := by
  rw [rotl32_add _ 8 (by omega) (dig_lt hp hq hr hs)]
  unfold dig
  simp only [Nat.reduceSub, Nat.reducePow]
  rw [show (p * 16777216 + q * 65536 + r * 256 + s) * 256 = (q * 16777216 + r * 65536 + s * 256) + 4294967296 * p by omega, Nat.add_mul_mod_self_left, Nat.mod_eq_of_lt (by omega)]
  omega
theorem rot16_dig {p q r s : Nat} (hp : p < 256) (hq : q < 256) (hr : r < 256) (hs : s < 256) : rotl32 (dig p q r s) 16 = dig r s p q := by
  rw [rotl32_add _ 16 (by omega) (dig_lt hp hq hr hs)]
  unfold dig
  simp only [Nat.reduceSub, Nat.reducePow]
  rw [show (p * 16777216 + q * 65536 + r * 256 + s) * 65536 = (r * 16777216 + s * 65536) + 4294967296 * (p * 256 + q) by omega, Nat.add_mul_mod_self_left, Nat.mod_eq_of_lt (by omega)]
  omega
theorem rot24_dig {p q r s : Nat} (hp : p < 256) (hq : q < 256) (hr : r < 256) (hs : s < 256) : rotl32 (dig p q r s) 24 = dig s p q r := by
  rw [rotl32_add _ 24 (by omega) (dig_lt hp hq hr hs)]
  unfold dig
  simp only [Nat.reduceSub, Nat.reducePow]
  rw [show (p * 16777216 + q * 65536 + r * 256 + s) * 16777216 = (s * 16777216) + 4294967296 * (p * 65536 + q * 256 + r) by omega, Nat.add_mul_mod_self_left, Nat.mod_eq_of_lt (by omega)]
  omega
theorem rot_byte (v : Nat) (hv : v < 4294967296) :
    (rotl32 v 8 / 2 ^ 24 % 256 = v / 2 ^ 16 % 256 ∧ rotl32 v 8 / 2 ^ 16 % 256 = v / 2 ^ 8 % 256 ∧ rotl32 v 8 / 2 ^ 8 % 256 = v / 2 ^ 0 % 256 ∧ rotl32 v 8 / 2 ^ 0 % 256 = v / 2 ^ 24 % 256) ∧
    (rotl32 v 16 / 2 ^ 24 % 256 = v / 2 ^ 8 % 256 ∧ rotl32 v 16 / 2 ^ 16 % 256 = v / 2 ^ 0 % 256 ∧ rotl32 v 16 / 2 ^ 8 % 256 = v / 2 ^ 24 % 256 ∧ rotl32 v 16 / 2 ^ 0 % 256 = v / 2 ^ 16 % 256) ∧
    (rotl32 v 24 / 2 ^ 24 % 256 = v / 2 ^ 0 % 256 ∧ rotl32 v 24 / 2 ^ 16 % 256 = v / 2 ^ 24 % 256 ∧ rotl32 v 24 / 2 ^ 8 % 256 = v / 2 ^ 16 % 256 ∧ rotl32 v 24 / 2 ^ 0 % 256 = v / 2 ^ 8 % 256) := by
  obtain ⟨p, q, r, s, hp, hq, hr, hs, rfl⟩ := dig_of v hv
  obtain ⟨z1, z2, z3, z4⟩ := dig_bytes hp hq hr hs
  obtain ⟨a1, a2, a3, a4⟩ := dig_bytes hq hr hs hp
  obtain ⟨b1, b2, b3, b4⟩ := dig_bytes hr hs hp hq
  obtain ⟨c1, c2, c3, c4⟩ := dig_bytes hs hp hq hr
  rw [rot8_dig hp hq hr hs, rot16_dig hp hq hr hs, rot24_dig hp hq hr hs, z1, z2, z3, z4, a1, a2, a3, a4, b1, b2, b3, b4, c1, c2, c3, c4]
  exact ⟨⟨rfl, rfl, rfl, rfl⟩, ⟨rfl, rfl, rfl, rfl⟩, rfl, rfl, rfl, rfl⟩
theorem word_ext {v w : Nat} (hv : v < 4294967296) (hw : w < 4294967296) (x1 : v / 2 ^ 24 % 256 = w / 2 ^ 24 % 256) (x2 : v / 2 ^ 16 % 256 = w / 2 ^ 16 % 256) (x3 : v / 2 ^ 8 % 256 = w / 2 ^ 8 % 256) (x4 : v / 2 ^ 0 % 256 = w / 2 ^ 0 % 256) : v = w := by
  obtain ⟨p, q, r, s, hp, hq, hr, hs, rfl⟩ := dig_of v hv
  obtain ⟨p', q', r', s', hp', hq', hr', hs', rfl⟩ := dig_of w hw
  obtain ⟨z1, z2, z3, z4⟩ := dig_bytes hp hq hr hs
  obtain ⟨y1, y2, y3, y4⟩ := dig_bytes hp' hq' hr' hs'
  rw [z1, y1] at x1
  rw [z2, y2] at x2
  rw [z3, y3] at x3
  rw [z4, y4] at x4
  rw [x1, x2, x3, x4]
theorem mix_byte (c0 v i j k m : Nat) (hi : i = 24 ∨ i = 16 ∨ i = 8 ∨ i = 0) (h8 : rotl32 v 8 / 2 ^ i % 256 = v / 2 ^ j % 256) (h16 : rotl32 v 16 / 2 ^ i % 256 = v / 2 ^ k % 256) (h24 : rotl32 v 24 / 2 ^ i % 256 = v / 2 ^ m % 256) :
    mixG c0 v / 2 ^ i % 256 = q4 (v / 2 ^ i % 256) (v / 2 ^ j % 256) (v / 2 ^ k % 256) (v / 2 ^ m % 256) := by
  unfold mixG q4
  rw [byte_xor, byte_xor, byte_xor, h16, h24]
  obtain ⟨n, hn, rfl⟩ : ∃ n, n < 4 ∧ i = 8 * n := by
    rcases hi with rfl | rfl | rfl | rfl
    · exact ⟨3, by omega, rfl⟩
    · exact ⟨2, by omega, rfl⟩
    · exact ⟨1, by omega, rfl⟩
    · exact ⟨0, by omega, rfl⟩
  unfold two three
  rw [eachN_byte (mul_byte 2) v n hn, eachN_byte (mul_byte 3) (rotl32 v 8) n hn, h8]
theorem mixG_lt (c v : Nat) (h : v < 4294967296) : mixG c v < 4294967296 := xor32_lt (xor32_lt (xor32_lt (two_lt v) (three_lt _)) (rotl32_lt 16 h)) (rotl32_lt 24 h)
theorem mixG_inj (c v w : Nat) (hv : v < 4294967296) (hw : w < 4294967296) (h : mixG c v = mixG c w) : v = w := by
  obtain ⟨⟨a1, a2, a3, a4⟩, ⟨b1, b2, b3, b4⟩, c1, c2, c3, c4⟩ := rot_byte v hv
  obtain ⟨⟨d1, d2, d3, d4⟩, ⟨e1, e2, e3, e4⟩, f1, f2, f3, f4⟩ := rot_byte w hw
  have m : ∀ x : Nat, x % 256 < 256 := fun x => Nat.mod_lt _ (by omega)
  have o1 := mix_byte c v 24 16 8 0 (by omega) a1 b1 c1
  have o2 := mix_byte c v 16 8 0 24 (by omega) a2 b2 c2
  have o3 := mix_byte c v 8 0 24 16 (by omega) a3 b3 c3
  have o4 := mix_byte c v 0 24 16 8 (by omega) a4 b4 c4
  have u1 := mix_byte c w 24 16 8 0 (by omega) d1 e1 f1
  have u2 := mix_byte c w 16 8 0 24 (by omega) d2 e2 f2
  have u3 := mix_byte c w 8 0 24 16 (by omega) d3 e3 f3
  have u4 := mix_byte c w 0 24 16 8 (by omega) d4 e4 f4
  rw [h] at o1 o2 o3 o4
  rw [o1] at u1
  rw [o2] at u2
  rw [o3] at u3
  rw [o4] at u4
  have x1 := mix_back (m (v / 2 ^ 24)) (m (v / 2 ^ 16)) (m (v / 2 ^ 8)) (m (v / 2 ^ 0))
  have x2 := mix_back (m (v / 2 ^ 16)) (m (v / 2 ^ 8)) (m (v / 2 ^ 0)) (m (v / 2 ^ 24))
  have x3 := mix_back (m (v / 2 ^ 8)) (m (v / 2 ^ 0)) (m (v / 2 ^ 24)) (m (v / 2 ^ 16))
  have x4 := mix_back (m (v / 2 ^ 0)) (m (v / 2 ^ 24)) (m (v / 2 ^ 16)) (m (v / 2 ^ 8))
  rw [u1, u2, u3, u4, mix_back (m (w / 2 ^ 24)) (m (w / 2 ^ 16)) (m (w / 2 ^ 8)) (m (w / 2 ^ 0))] at x1
  rw [u1, u2, u3, u4, mix_back (m (w / 2 ^ 16)) (m (w / 2 ^ 8)) (m (w / 2 ^ 0)) (m (w / 2 ^ 24))] at x2
  rw [u1, u2, u3, u4, mix_back (m (w / 2 ^ 8)) (m (w / 2 ^ 0)) (m (w / 2 ^ 24)) (m (w / 2 ^ 16))] at x3
  rw [u1, u2, u3, u4, mix_back (m (w / 2 ^ 0)) (m (w / 2 ^ 24)) (m (w / 2 ^ 16)) (m (w / 2 ^ 8))] at x4
  exact (word_ext hw hv x1 x2 x3 x4).symm

theorem rnd_inj {K : List Nat} (hK : Words K) (r : Nat) {a b : List Nat} (la : a.length = 16) (lb : b.length = 16) (ha : Bys a) (hb : Bys b) (h : rnd K r a = rnd K r b) : a = b := by
  have l1 : (chAll lookG a).length = 16 := (chAll_len _ _).trans la
  have l2 : (chAll lookG b).length = 16 := (chAll_len _ _).trans lb
  have l3 : (turnL (chAll lookG a)).length = 16 := (turnL_len _).trans l1
  have l4 : (turnL (chAll lookG b)).length = 16 := (turnL_len _).trans l2
  have s1 : Bys (chAll lookG a) := chAll_bys _ ha
  have s2 : Bys (chAll lookG b) := chAll_bys _ hb
  have s3 := turnL_bys s1
  have s4 := turnL_bys s2
  have t1 : turnL (chAll lookG a) = turnL (chAll lookG b) := by
    unfold rnd at h
    by_cases hr : r < 14
    · rw [if_pos hr, if_pos hr] at h
      have h2 := chAll_inj (addG K r) (fun c v hv => addG_lt hK r c v hv) (fun c v w _ _ e => addG_inj K r c v w e) ((chAll_len _ _).trans l3) ((chAll_len _ _).trans l4) (chAll_bys _ s3) (chAll_bys _ s4) h
      exact chAll_inj mixG mixG_lt mixG_inj l3 l4 s3 s4 h2
    · rw [if_neg hr, if_neg hr] at h
      exact chAll_inj (addG K r) (fun c v hv => addG_lt hK r c v hv) (fun c v w _ _ e => addG_inj K r c v w e) l3 l4 s3 s4 h
  have t2 := turnAt_inj l1 l2 t1
  exact chAll_inj lookG (fun _ v _ => eachN_lt boxG_byte v) (fun _ v w hv hw e => lookG_inj v w hv hw e) la lb ha hb t2
theorem encN_inj {K : List Nat} (hK : Words K) {a b : List Nat} (la : a.length = 16) (lb : b.length = 16) (ha : Bys a) (hb : Bys b) : ∀ r, encN K a r = encN K b r → a = b := by
  intro r
  induction r with
  | zero =>
    intro h
    have h' : chAll (addG K 0) a = chAll (addG K 0) b := h
    exact chAll_inj (addG K 0) (fun c v hv => addG_lt hK 0 c v hv) (fun c v w _ _ e => addG_inj K 0 c v w e) la lb ha hb h'
  | succ r ih =>
    intro h
    have h' : rnd K (r + 1) (encN K a r) = rnd K (r + 1) (encN K b r) := h
    exact ih (rnd_inj hK (r + 1) ((encN_len _ _ _).trans la) ((encN_len _ _ _).trans lb) (encN_bys _ ha r) (encN_bys _ hb r) h')
end Go.Proofs.Ytgagafefhmofjaa
