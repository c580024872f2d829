/- Blocks as numbers of 128 bits, plain numbers. -/
import Derived.Test.YtgagafefhmofjaaCipF
namespace Go.Proofs.Ytgagafefhmofjaa
set_option linter.unusedVariables false

/-- the number of the first k bytes -/
def numP (c : List Nat) : Nat → Nat
  | 0 => 0
  | k + 1 => numP c k * 256 + c.getD k 0
def num (c : List Nat) : Nat := numP c 16
def dgt (N j : Nat) : Nat := N / 256 ^ (15 - j) % 256
def digL (N : Nat) : List Nat := (List.range 16).map (dgt N)
/-- c and n, round 2^128 -/
def nextL (c : List Nat) (n : Nat) : List Nat := digL (num c + n)

theorem dgt_lt (N j : Nat) : dgt N j < 256 := Nat.mod_lt _ (by omega)
theorem digL_len (N : Nat) : (digL N).length = 16 := by simp [digL]
theorem digL_getD (N j : Nat) (h : j < 16) : (digL N).getD j 0 = dgt N j := map_range_getD _ _ _ h
theorem digL_bys (N : Nat) : Bys (digL N) := by
  intro j
  by_cases h : j < 16
  · rw [digL_getD _ _ h]; exact dgt_lt _ _
  · rw [List.getD_eq_getElem?_getD, List.getElem?_eq_none (by rw [digL_len]; omega)]; decide
theorem nextL_len (c : List Nat) (n : Nat) : (nextL c n).length = 16 := digL_len _
theorem nextL_bys (c : List Nat) (n : Nat) : Bys (nextL c n) := digL_bys _

theorem numP_dgt {c : List Nat} (h : Bys c) : ∀ m k, k < m → numP c m / 256 ^ k % 256 = c.getD (m - 1 - k) 0 := by
  intro m
  induction m with
  | zero => intro k hk; omega
  | succ m ih =>
    intro k hk
    have hm := h m
    cases k with
    | zero =>
      show (numP c m * 256 + c.getD m 0) / 256 ^ 0 % 256 = c.getD m 0
      simp only [Nat.pow_zero, Nat.div_one]
      omega
    | succ k =>
      show (numP c m * 256 + c.getD m 0) / 256 ^ (k + 1) % 256 = _
      rw [Nat.pow_succ', ← Nat.div_div_eq_div_mul, show (numP c m * 256 + c.getD m 0) / 256 = numP c m by omega, ih k (by omega), show m + 1 - 1 - (k + 1) = m - 1 - k by omega]
theorem num_dgt {c : List Nat} (h : Bys c) (j : Nat) (hj : j < 16) : dgt (num c) j = c.getD j 0 := by
  have := numP_dgt h 16 (15 - j) (by omega)
  rw [show 16 - 1 - (15 - j) = j by omega] at this
  exact this
theorem digL_num {c : List Nat} (hl : c.length = 16) (h : Bys c) : digL (num c) = c :=
  getD_ext 16 (digL_len _) hl fun j hj => by rw [digL_getD _ _ hj, num_dgt h j hj]

theorem dgt_mod (N j : Nat) (hj : j < 16) : dgt (N % 256 ^ 16) j = dgt N j := by
  unfold dgt
  rw [show (256 : Nat) ^ 16 = 256 ^ (15 - j) * 256 ^ (j + 1) by rw [← Nat.pow_add]; congr 1; omega, Nat.mod_mul_right_div_self]
  exact Nat.mod_mod_of_dvd _ ⟨256 ^ j, by rw [Nat.pow_succ, Nat.mul_comm]⟩
theorem numP_digL (N : Nat) : ∀ m, m ≤ 16 → numP (digL N) m = N % 256 ^ 16 / 256 ^ (16 - m) := by
  intro m
  induction m with
  | zero =>
    intro _
    show 0 = _
    exact (Nat.div_eq_of_lt (Nat.mod_lt _ (Nat.pow_pos (by omega)))).symm
  | succ m ih =>
    intro hm
    show numP (digL N) m * 256 + (digL N).getD m 0 = _
    rw [ih (by omega), digL_getD _ _ (by omega), ← dgt_mod _ _ (by omega)]
    unfold dgt
    generalize N % 256 ^ 16 = X
    rw [show 16 - m = (15 - m) + 1 by omega, Nat.pow_succ, ← Nat.div_div_eq_div_mul, show 16 - (m + 1) = 15 - m by omega]
    generalize X / 256 ^ (15 - m) = y
    omega
theorem num_digL (N : Nat) : num (digL N) = N % 256 ^ 16 := by
  have := numP_digL N 16 (Nat.le_refl _)
  rw [Nat.sub_self, Nat.pow_zero, Nat.div_one] at this
  exact this
theorem digL_mod (N : Nat) : digL (N % 256 ^ 16) = digL N :=
  getD_ext 16 (digL_len _) (digL_len _) fun j hj => (digL_getD _ j hj).trans ((dgt_mod N j hj).trans (digL_getD N j hj).symm)
theorem nextL_nextL (c : List Nat) (a b : Nat) : nextL (nextL c a) b = nextL c (a + b) := by
  unfold nextL
  rw [num_digL, ← digL_mod, Nat.mod_add_mod, digL_mod, Nat.add_assoc]
theorem nextL_zero {c : List Nat} (hl : c.length = 16) (h : Bys c) : nextL c 0 = c := by
  unfold nextL
  rw [Nat.add_zero]
  exact digL_num hl h

/-- the block behind t steps, from its end on -/
def nxF (c : List Nat) (n t j : Nat) : Nat := if 16 - t ≤ j then dgt (num c + n) j else c.getD j 0
def nxP (c : List Nat) (n t : Nat) : List Nat := (List.range 16).map (nxF c n t)
theorem nxP_len (c : List Nat) (n t : Nat) : (nxP c n t).length = 16 := by simp [nxP]
theorem nxP_zero {c : List Nat} (hl : c.length = 16) (n : Nat) : nxP c n 0 = c :=
  getD_ext 16 (nxP_len _ _ _) hl fun j hj => by
    unfold nxP
    rw [map_range_getD _ _ _ hj]
    exact if_neg (by omega)
theorem nxP_all (c : List Nat) (n : Nat) : nxP c n 16 = nextL c n :=
  getD_ext 16 (nxP_len _ _ _) (nextL_len _ _) fun j hj => by
    unfold nxP nextL
    rw [map_range_getD _ _ _ hj, digL_getD _ _ hj]
    exact if_pos (by omega)
theorem nxP_at (c : List Nat) (n t : Nat) (ht : t < 16) : (nxP c n t).getD (15 - t) 0 = c.getD (15 - t) 0 := by
  unfold nxP
  rw [map_range_getD _ _ _ (by omega)]
  exact if_neg (by omega)
/-- what is carried to the step t -/
def cry (V n t : Nat) : Nat := (V % 256 ^ t + n % 256 ^ t) / 256 ^ t
theorem cry_le (V n t : Nat) : cry V n t ≤ 1 := by
  unfold cry
  have h1 : V % 256 ^ t < 256 ^ t := Nat.mod_lt _ (Nat.pow_pos (by omega))
  have h2 : n % 256 ^ t < 256 ^ t := Nat.mod_lt _ (Nat.pow_pos (by omega))
  have : (V % 256 ^ t + n % 256 ^ t) / 256 ^ t < 2 := Nat.div_lt_of_lt_mul (by omega)
  omega
theorem cry_zero (V n : Nat) : cry V n 0 = 0 := by simp [cry, Nat.mod_one]
/-- the sum at the step t -/
def sumN (c : List Nat) (n t : Nat) : Nat := c.getD (15 - t) 0 + n / 256 ^ t % 256 + cry (num c) n t
theorem sumN_lt {c : List Nat} (h : Bys c) (n t : Nat) : sumN c n t < 512 := by
  have := h (15 - t)
  have := cry_le (num c) n t
  unfold sumN
  omega
theorem add_div3 (V n P : Nat) (hP : 0 < P) : (V + n) / P = V / P + n / P + (V % P + n % P) / P := by
  have e1 := Nat.div_add_mod V P
  have e2 := Nat.div_add_mod n P
  calc (V + n) / P = (P * (V / P + n / P) + (V % P + n % P)) / P := by rw [Nat.mul_add]; congr 1; omega
    _ = _ := Nat.mul_add_div hP _ _
theorem sumN_dig {c : List Nat} (h : Bys c) (n t : Nat) (ht : t < 16) : sumN c n t % 256 = dgt (num c + n) (15 - t) := by
  unfold sumN dgt cry
  rw [← num_dgt h _ (show 15 - t < 16 by omega)]
  unfold dgt
  rw [show 15 - (15 - t) = t by omega, add_div3 (num c) n (256 ^ t) (Nat.pow_pos (by omega))]
  generalize num c / 256 ^ t = x
  generalize n / 256 ^ t = y
  generalize (num c % 256 ^ t + n % 256 ^ t) / 256 ^ t = z
  omega
theorem sumN_cry {c : List Nat} (h : Bys c) (n t : Nat) (ht : t < 16) : sumN c n t / 256 = cry (num c) n (t + 1) := by
  unfold sumN
  rw [← num_dgt h _ (show 15 - t < 16 by omega)]
  unfold dgt cry
  rw [show 15 - (15 - t) = t by omega]
  have hP : 0 < 256 ^ t := Nat.pow_pos (by omega)
  rw [Nat.pow_succ, Nat.mod_mul, Nat.mod_mul, ← Nat.div_div_eq_div_mul]
  generalize num c / 256 ^ t % 256 = x
  generalize n / 256 ^ t % 256 = y
  rw [show num c % 256 ^ t + 256 ^ t * x + (n % 256 ^ t + 256 ^ t * y) = 256 ^ t * (x + y) + (num c % 256 ^ t + n % 256 ^ t) by rw [Nat.mul_add]; omega, Nat.mul_add_div hP]
theorem nxP_succ {c : List Nat} (h : Bys c) (n t : Nat) (ht : t < 16) : nxP c n (t + 1) = (nxP c n t).set (15 - t) (sumN c n t % 256) :=
  getD_ext 16 (nxP_len _ _ _) (by rw [List.length_set, nxP_len]) fun j hj => by
    rw [getD_set _ _ _ _ (by rw [nxP_len]; omega)]
    unfold nxP
    rw [map_range_getD _ _ _ hj, map_range_getD _ _ _ hj]
    unfold nxF
    by_cases e : 15 - t = j
    · subst e
      rw [if_pos rfl, if_pos (by omega), sumN_dig h n t ht]
    · rw [if_neg e]
      by_cases h2 : 16 - t ≤ j
      · rw [if_pos h2, if_pos (by omega)]
      · rw [if_neg h2, if_neg (by omega)]
end Go.Proofs.Ytgagafefhmofjaa
