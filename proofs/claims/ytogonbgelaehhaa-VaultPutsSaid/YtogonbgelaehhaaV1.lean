/- Numbers by sevens of bits, and in so many bytes: what they are as bytes, and back; plain facts. -/
import Derived.Test.YtogonbgelaehhaaG1
import Derived.Test.YtogonbgelaehhaaG2
import Derived.IntWalk
namespace Go.Proofs.Ytogonbgelaehhaa
set_option linter.unusedVariables false

/-- the sevens of n, f at most, each with whether it is the last one -/
def sevF : Nat → Nat → List (Fin 128 × Bool)
  | 0, _ => []
  | f + 1, n => if h : n < 128 then [(⟨n, h⟩, true)] else (⟨n % 128, Nat.mod_lt _ (by decide)⟩, false) :: sevF f (n / 128)
def sevL (n : Nat) : List (Fin 128 × Bool) := sevF 10 n
def sevB (x : Fin 128 × Bool) : Nat := if x.2 then x.1.val else x.1.val + 128
theorem sevF_small (f n : Nat) (h : n < 128) : sevF (f + 1) n = [(⟨n, h⟩, true)] := by simp [sevF, h]
theorem sevF_big (f n : Nat) (h : ¬ n < 128) : sevF (f + 1) n = (⟨n % 128, Nat.mod_lt _ (by decide)⟩, false) :: sevF f (n / 128) := by simp [sevF, h]
def putF (f n : Nat) : List Nat := (sevF f n).map sevB
def putL (n : Nat) : List Nat := putF 10 n
theorem putF_small (f n : Nat) (h : n < 128) : putF (f + 1) n = [n] := by simp [putF, sevF, h, sevB]
theorem putF_big (f n : Nat) (h : ¬ n < 128) : putF (f + 1) n = (n % 128 + 128) :: putF f (n / 128) := by simp [putF, sevF, h, sevB]
theorem putF_fuel : ∀ f g n, n < 128 ^ f → f ≤ g → 0 < f → putF f n = putF g n
  | 0, _, _, _, _, h => by omega
  | f + 1, 0, _, _, h, _ => by omega
  | f + 1, g + 1, n, hn, hg, _ => by
    by_cases h : n < 128
    · rw [putF_small _ _ h, putF_small _ _ h]
    · rw [putF_big _ _ h, putF_big _ _ h]
      have h0 : 0 < f := by
        rcases Nat.eq_zero_or_pos f with rfl | h'
        · simp at hn; omega
        · exact h'
      rw [putF_fuel f g (n / 128) (by rw [Nat.pow_succ] at hn; omega) (by omega) h0]
theorem lt_128_10 {n : Nat} (h : n < 18446744073709551616) : n < 128 ^ 10 := by
  have : (128 : Nat) ^ 10 = 1180591620717411303424 := by decide
  omega
theorem put_small {n : Nat} (h : n < 128) : putL n = [n] := putF_small 9 n h
theorem put_big {n : Nat} (h : ¬ n < 128) (hn : n < 18446744073709551616) : putL n = (n % 128 + 128) :: putL (n / 128) := by
  have e : (128 : Nat) ^ 9 = 9223372036854775808 := by decide
  show putF 10 n = _
  rw [putF_big 9 n h, putF_fuel 9 10 (n / 128) (by omega) (by omega) (by omega)]
  rfl
/-- the bytes of a number: some of 128 or above, and one below -/
theorem putF_shape : ∀ f n, n < 128 ^ f → 0 < f → ∃ hi x, putF f n = hi ++ [x] ∧ (∀ y ∈ hi, 128 ≤ y ∧ y < 256) ∧ x < 128 ∧ hi.length < f
  | 0, _, _, h => by omega
  | f + 1, n, hn, _ => by
    by_cases h : n < 128
    · exact ⟨[], n, putF_small _ _ h, (fun y hy => (by cases hy)), h, by simp⟩
    · have h0 : 0 < f := by
        rcases Nat.eq_zero_or_pos f with rfl | h'
        · simp at hn; omega
        · exact h'
      obtain ⟨hi, x, e, h1, h2, h3⟩ := putF_shape f (n / 128) (by rw [Nat.pow_succ] at hn; omega) h0
      refine ⟨(n % 128 + 128) :: hi, x, by rw [putF_big _ _ h, e]; rfl, ?_, h2, by simp; omega⟩
      intro y hy
      rcases List.mem_cons.1 hy with rfl | hy
      · omega
      · exact h1 y hy
theorem put_shape {n : Nat} (hn : n < 18446744073709551616) : ∃ hi x, putL n = hi ++ [x] ∧ (∀ y ∈ hi, 128 ≤ y ∧ y < 256) ∧ x < 128 ∧ hi.length < 10 :=
  putF_shape 10 n (lt_128_10 hn) (by omega)
theorem put_bys {n : Nat} (hn : n < 18446744073709551616) : Bys (putL n) := by
  obtain ⟨hi, x, e, h1, h2, _⟩ := put_shape hn
  rw [e]
  refine Bys.of fun y hy => ?_
  rcases List.mem_append.1 hy with h | h
  · exact (h1 y h).2
  · simp at h; omega
theorem putF_len_mono : ∀ f a b, a ≤ b → (putF f a).length ≤ (putF f b).length
  | 0, _, _, _ => by simp [putF, sevF]
  | f + 1, a, b, h => by
    by_cases ha : a < 128
    · rw [putF_small _ _ ha]
      by_cases hb : b < 128
      · rw [putF_small _ _ hb]; simp
      · rw [putF_big _ _ hb]; simp
    · rw [putF_big _ _ ha, putF_big _ _ (by omega : ¬ b < 128)]
      have := putF_len_mono f (a / 128) (b / 128) (Nat.div_le_div_right h)
      simp; exact this
theorem putF_len_le : ∀ f a, (putF f a).length ≤ f
  | 0, _ => by simp [putF, sevF]
  | f + 1, a => by
    by_cases ha : a < 128
    · rw [putF_small _ _ ha]; simp
    · rw [putF_big _ _ ha]; have := putF_len_le f (a / 128); simp; exact this
theorem put_len_mono {a b : Nat} (h : a ≤ b) : (putL a).length ≤ (putL b).length := putF_len_mono _ _ _ h
theorem put_len_le (a : Nat) : (putL a).length ≤ 10 := putF_len_le _ _
theorem put_len_pos (a : Nat) : 1 ≤ (putL a).length := by
  unfold putL
  by_cases ha : a < 128
  · rw [putF_small _ _ ha]; simp
  · rw [putF_big _ _ ha]; simp
theorem put_len_pow (k : Nat) (h : k < 64) : (putL (2 ^ k)).length = k / 7 + 1 := by
  have h' : ∀ m : Fin 64, (putL (2 ^ m.val)).length = m.val / 7 + 1 := by decide +kernel
  exact h' ⟨k, h⟩

/-- what bytes come to, by their lowest seven bits, the first ones lowest -/
def valL : List Nat → Nat
  | [] => 0
  | b :: r => b % 128 + 128 * valL r
theorem val_app : ∀ (a b : List Nat), valL (a ++ b) = valL a + 128 ^ a.length * valL b
  | [], b => by simp [valL]
  | x :: a, b => by
    rw [List.cons_append, valL, valL, val_app a b, List.length_cons, Nat.pow_succ, Nat.mul_add, Nat.mul_comm (128 ^ a.length) 128, Nat.mul_assoc]
    omega
theorem val_lt : ∀ (a : List Nat), valL a < 128 ^ a.length
  | [] => by simp [valL]
  | x :: a => by
    have := val_lt a
    rw [valL, List.length_cons, Nat.pow_succ]
    omega
theorem val_putF : ∀ f n, n < 128 ^ f → valL (putF f n) = n
  | 0, n, h => by simp at h; subst h; rfl
  | f + 1, n, hn => by
    by_cases h : n < 128
    · rw [putF_small _ _ h]; simp [valL]; omega
    · rw [putF_big _ _ h, valL, val_putF f (n / 128) (by rw [Nat.pow_succ] at hn; omega)]
      omega
theorem val_put {n : Nat} (hn : n < 18446744073709551616) : valL (putL n) = n := val_putF 10 n (lt_128_10 hn)
/-- the number that is put together, byte by byte -/
def accN (l : List Nat) : Nat → Nat
  | 0 => 0
  | i + 1 => accN l i ||| (l.getD i 0 % 128 * 2 ^ (7 * i) % 18446744073709551616)
theorem accN_lt (l : List Nat) : ∀ i, accN l i < 18446744073709551616
  | 0 => by simp [accN]
  | i + 1 => Nat.or_lt_two_pow (n := 64) (accN_lt l i) (Nat.mod_lt _ (by decide))
theorem pow_7 (i : Nat) : (128 : Nat) ^ i = 2 ^ (7 * i) := by rw [Nat.pow_mul]
theorem acc_val (l : List Nat) : ∀ i, i ≤ l.length → valL (l.take i) < 18446744073709551616 → accN l i = valL (l.take i)
  | 0, _, _ => rfl
  | i + 1, hi, hv => by
    have e := take_snoc l i (by omega)
    have hl : (l.take i).length = i := by rw [List.length_take]; omega
    rw [e, val_app, hl] at hv ⊢
    have h1 : valL [l.getD i 0] = l.getD i 0 % 128 := by simp [valL]
    rw [h1, pow_7, Nat.mul_comm] at hv ⊢
    rw [accN, acc_val l i (by omega) (by omega), Nat.mod_eq_of_lt (by omega)]
    have h2 := val_lt (l.take i)
    rw [hl, pow_7] at h2
    exact or_add _ _ _ h2

/-- what Get tells of bytes, from place i on, f more at most: the number, how many bytes are read, the error -/
def getR (l : List Nat) : Nat → Nat → Nat × Nat × Nat
  | 0, _ => (0, l.length, 41)
  | f + 1, i => if l.length ≤ i then (0, l.length, 40) else
      if l.getD i 0 < 128 then (if putL (accN l (i + 1)) = l.take (i + 1) then (accN l (i + 1), i + 1, 0) else (0, l.length, 41)) else getR l f (i + 1)
def getL (l : List Nat) : Nat × Nat × Nat := getR l 10 0
theorem get_zero (l : List Nat) (i : Nat) : getR l 0 i = (0, l.length, 41) := rfl
theorem get_short (l : List Nat) (f i : Nat) (h : l.length ≤ i) : getR l (f + 1) i = (0, l.length, 40) := by simp [getR, h]
theorem get_more (l : List Nat) (f i : Nat) (h : i < l.length) (h2 : 128 ≤ l.getD i 0) : getR l (f + 1) i = getR l f (i + 1) := by
  rw [getR, if_neg (by omega), if_neg (by omega)]
theorem get_last (l : List Nat) (f i : Nat) (h : i < l.length) (h2 : l.getD i 0 < 128) (h3 : putL (accN l (i + 1)) = l.take (i + 1)) : getR l (f + 1) i = (accN l (i + 1), i + 1, 0) := by
  rw [getR, if_neg (by omega), if_pos h2, if_pos h3]
theorem get_long (l : List Nat) (f i : Nat) (h : i < l.length) (h2 : l.getD i 0 < 128) (h3 : ¬ putL (accN l (i + 1)) = l.take (i + 1)) : getR l (f + 1) i = (0, l.length, 41) := by
  rw [getR, if_neg (by omega), if_pos h2, if_neg h3]
theorem get_skip (l : List Nat) (f : Nat) : ∀ k, k ≤ f → k ≤ l.length → (∀ j, j < k → 128 ≤ l.getD j 0) → getR l f 0 = getR l (f - k) k
  | 0, _, _, _ => rfl
  | k + 1, hf, hl, h => by
    rw [get_skip l f k (by omega) (by omega) (fun j hj => h j (by omega)), show f - k = f - (k + 1) + 1 by omega, get_more l _ _ (by omega) (h k (by omega))]
theorem get_put {n : Nat} (hn : n < 18446744073709551616) (r : List Nat) : getL (putL n ++ r) = (n, (putL n).length, 0) := by
  obtain ⟨hi, x, e, h1, h2, h3⟩ := put_shape hn
  have hv := val_put hn
  have hl : (putL n).length = hi.length + 1 := by rw [e]; simp
  have ht : (putL n ++ r).take (hi.length + 1) = putL n := by rw [← hl]; simp
  have hx : (putL n ++ r).getD hi.length 0 = x := by
    rw [e, List.append_assoc, getD_app, if_neg (by omega)]; simp
  have hacc : accN (putL n ++ r) (hi.length + 1) = n := by
    rw [acc_val _ _ (by rw [List.length_append]; omega) (by rw [ht, hv]; exact hn), ht, hv]
  unfold getL
  rw [get_skip _ 10 hi.length (by omega) (by rw [List.length_append]; omega) (fun j hj => by
    rw [e, List.append_assoc, getD_app, if_pos hj]; exact (h1 _ (getD_mem _ _ hj)).1), show 10 - hi.length = (10 - hi.length - 1) + 1 by omega,
    get_last _ _ _ (by rw [List.length_append]; omega) (by rw [hx]; exact h2) (by rw [hacc, ht]), hacc, hl]
theorem get_high (l : List Nat) (h : ∀ j, j < l.length → 128 ≤ l.getD j 0) (hl : l.length < 10) : getL l = (0, l.length, 40) := by
  unfold getL
  rw [get_skip l 10 l.length (by omega) (Nat.le_refl _) h, show 10 - l.length = (10 - l.length - 1) + 1 by omega, get_short _ _ _ (Nat.le_refl _)]
theorem get_ten (l : List Nat) (h : ∀ j, j < 10 → 128 ≤ l.getD j 0) (hl : 10 ≤ l.length) : getL l = (0, l.length, 41) := by
  unfold getL
  rw [get_skip l 10 10 (by omega) hl h]
  rfl
/-- the ways that it may go -/
theorem getR_cases (l : List Nat) : ∀ f i, i + f = 10 → i ≤ l.length → (∀ j, j < i → 128 ≤ l.getD j 0) →
    (getR l f i = (0, l.length, 40) ∧ l.length < 10) ∨ getR l f i = (0, l.length, 41) ∨
    ∃ n k, getR l f i = (n, k, 0) ∧ n < 18446744073709551616 ∧ putL n = l.take k ∧ 1 ≤ k ∧ k ≤ 10 ∧ k ≤ l.length ∧ ∀ j, j + 1 < k → 128 ≤ l.getD j 0
  | 0, i, _, _, _ => .inr (.inl rfl)
  | f + 1, i, hi, hl, hh => by
    by_cases h : l.length ≤ i
    · exact .inl ⟨get_short l f i h, by omega⟩
    · by_cases h2 : l.getD i 0 < 128
      · by_cases h3 : putL (accN l (i + 1)) = l.take (i + 1)
        · exact .inr (.inr ⟨_, _, get_last l f i (by omega) h2 h3, accN_lt _ _, h3, by omega, by omega, by omega, fun j hj => hh j (by omega)⟩)
        · exact .inr (.inl (get_long l f i (by omega) h2 h3))
      · rw [get_more l f i (by omega) (by omega)]
        exact getR_cases l f (i + 1) (by omega) (by omega) (fun j hj => by
          by_cases e : j = i
          · subst e; omega
          · exact hh j (by omega))
theorem getL_cases (l : List Nat) :
    (getL l = (0, l.length, 40) ∧ l.length < 10) ∨ getL l = (0, l.length, 41) ∨
    ∃ n k, getL l = (n, k, 0) ∧ n < 18446744073709551616 ∧ putL n = l.take k ∧ 1 ≤ k ∧ k ≤ 10 ∧ k ≤ l.length ∧ ∀ j, j + 1 < k → 128 ≤ l.getD j 0 :=
  getR_cases l 10 0 (by omega) (by omega) (fun j hj => by omega)
theorem get_le (l : List Nat) : (getL l).2.1 ≤ l.length := by
  rcases getL_cases l with ⟨h, _⟩ | h | ⟨n, k, h, _, _, _, _, hk, _⟩
  · rw [h]; exact Nat.le_refl _
  · rw [h]; exact Nat.le_refl _
  · rw [h]; exact hk
theorem get_lt (l : List Nat) : (getL l).1 < 18446744073709551616 := by
  rcases getL_cases l with ⟨h, _⟩ | h | ⟨n, k, h, hn, _⟩
  · rw [h]; exact (by decide : 0 < 18446744073709551616)
  · rw [h]; exact (by decide : 0 < 18446744073709551616)
  · rw [h]; exact hn
/-- a byte more than there need be -/
theorem get_padded {n : Nat} (hn : n < 18446744073709551616) (hi : List Nat) (x : Nat) (e : putL n = hi ++ [x]) (h1 : ∀ y ∈ hi, 128 ≤ y ∧ y < 256) (h2 : x < 128) (h3 : hi.length < 10) (r : List Nat) :
    getL (hi ++ [x + 128] ++ [0] ++ r) = (0, (hi ++ [x + 128] ++ [0] ++ r).length, 41) := by
  have hv := val_put hn
  have hg : ∀ j, j < hi.length + 1 → 128 ≤ (hi ++ [x + 128] ++ [0] ++ r).getD j 0 := fun j hj => by
    rw [List.append_assoc, List.append_assoc, getD_app]
    split
    · rename_i h; exact (h1 _ (getD_mem _ _ h)).1
    · have : j - hi.length = 0 := by omega
      rw [this]; simp
  by_cases h9 : hi.length = 9
  · exact get_ten _ (fun j hj => hg j (by omega)) (by simp; omega)
  · have ht : (hi ++ [x + 128] ++ [0] ++ r).take (hi.length + 1 + 1) = hi ++ [x + 128] ++ [0] := List.take_left' (by simp)
    have hval : valL (hi ++ [x + 128] ++ [0]) = n := by
      rw [← hv, e, val_app, val_app, val_app]
      simp [valL]
    unfold getL
    rw [get_skip _ 10 (hi.length + 1) (by omega) (by simp) hg, show 10 - (hi.length + 1) = (10 - (hi.length + 1) - 1) + 1 by omega]
    refine get_long _ _ _ (by simp) ?_ ?_
    · rw [List.append_assoc, getD_app, if_neg (by simp)]; simp
    · rw [acc_val _ _ (by simp; omega) (by rw [ht, hval]; exact hn), ht, hval, e]
      intro h
      have := congrArg List.length h
      simp at this

/-! ### so many bytes -/
def bigL (n w : Nat) : List Nat := (List.range w).map fun j => n / 2 ^ (8 * (w - 1 - j)) % 256
theorem big_len (n w : Nat) : (bigL n w).length = w := by simp [bigL]
theorem big_getD (n w j : Nat) (h : j < w) : (bigL n w).getD j 0 = n / 2 ^ (8 * (w - 1 - j)) % 256 := by unfold bigL; exact map_range_getD _ _ _ h
theorem big_bys (n w : Nat) : Bys (bigL n w) := Bys.of fun x hx => by
  simp only [bigL, List.mem_map] at hx
  obtain ⟨j, _, rfl⟩ := hx
  exact Nat.mod_lt _ (by decide)
/-- the number that the first k make, the highest one first -/
def fixN (l : List Nat) : Nat → Nat
  | 0 => 0
  | k + 1 => fixN l k * 256 + l.getD k 0
theorem fix_lt {l : List Nat} (h : Bys l) : ∀ k, fixN l k < 2 ^ (8 * k)
  | 0 => by simp [fixN]
  | k + 1 => by
    have h1 := fix_lt h k
    have h2 := h k
    rw [fixN, show 8 * (k + 1) = 8 * k + 8 by omega, Nat.pow_add]
    omega
theorem fix_left (a b : List Nat) : ∀ k, k ≤ a.length → fixN (a ++ b) k = fixN a k
  | 0, _ => rfl
  | k + 1, h => by rw [fixN, fixN, fix_left a b k (by omega), getD_app, if_pos (by omega)]
theorem fix_big (n w : Nat) : ∀ k, k ≤ w → fixN (bigL n w) k = n / 2 ^ (8 * (w - k)) % 2 ^ (8 * k)
  | 0, _ => by simp [fixN, Nat.mod_one]
  | k + 1, h => by
    rw [fixN, fix_big n w k (by omega), big_getD _ _ _ (by omega), show w - 1 - k = w - (k + 1) by omega, show 8 * (w - k) = 8 * (w - (k + 1)) + 8 by omega, Nat.pow_add, ← Nat.div_div_eq_div_mul]
    generalize n / 2 ^ (8 * (w - (k + 1))) = m
    rw [show 8 * (k + 1) = 8 + 8 * k by omega, Nat.pow_add, Nat.mod_mul, show (2 : Nat) ^ 8 = 256 by decide]
    omega
theorem fix_put (n w : Nat) (r : List Nat) : fixN (bigL n w ++ r) w = n % 2 ^ (8 * w) := by
  rw [fix_left _ _ _ (by rw [big_len]; exact Nat.le_refl _), fix_big n w w (Nat.le_refl _)]
  simp
end Go.Proofs.Ytogonbgelaehhaa
namespace Go.Proofs.Ytogonbgelaehhaa
open Go.RowKit
set_option linter.unusedVariables false

end Go.Proofs.Ytogonbgelaehhaa
namespace Go.Proofs.Ytogonbgelaehhaa
open Go.RowKit Go.Shelf
set_option linter.unusedVariables false

attribute [local go_sem] Oper.semAt_some

theorem andNot_u8 (b : Nat) (h : b < 256) : bits .andNot .u8 (b : Int) 128 = ((b % 128 : Nat) : Int) := by
  have h' : ∀ m : Fin 256, bits .andNot .u8 (m.val : Int) 128 = ((m.val % 128 : Nat) : Int) := by decide +kernel
  exact h' ⟨b, h⟩
theorem andNot_u64 (n : Nat) (h : n < 18446744073709551616) : bits .andNot .u64 (n : Int) 128 % 256 = ((n % 128 : Nat) : Int) := by
  have ha : n % 2 ^ IntKind.u64.bits = n := Nat.mod_eq_of_lt h
  have hd : n &&& 18446744073709551487 < 2 ^ 64 := Nat.and_lt_two_pow _ (by decide)
  have he : (n &&& 18446744073709551487) % 2 ^ 8 = n % 128 := by
    rw [Nat.and_mod_two_pow, show 18446744073709551487 % 2 ^ 8 = 2 ^ 7 - 1 by decide, Nat.and_two_pow_sub_one_eq_mod]
    omega
  have hr : bits .andNot .u64 (n : Int) 128 = ((n &&& 18446744073709551487 : Nat) : Int) := by
    have e1 : (BitVec.ofInt IntKind.u64.bits (n : Int)).toNat = n := by
      rw [BitVec.ofInt_natCast, BitVec.toNat_ofNat, ha]
    show IntKind.u64.wrap (((BitVec.ofInt IntKind.u64.bits (n : Int) &&& ~~~(BitVec.ofInt IntKind.u64.bits 128)).toNat : Nat) : Int) = _
    rw [BitVec.toNat_and, e1, show (~~~(BitVec.ofInt IntKind.u64.bits 128)).toNat = 18446744073709551487 by decide]
    exact wraps_u64 _ (by omega) (by omega)
  rw [hr]
  omega
def sevM (l : Value) (x : Value) : Nat := match x with | .bool true => 0 | _ => (intOf l).toNat + 1
end Go.Proofs.Ytogonbgelaehhaa
namespace Go.Proofs.Ytogonbgelaehhaa
open Go.RowKit Go.Shelf
set_option linter.unusedVariables false

attribute [local go_sem] Oper.semAt_some

theorem make_10 (w : World) : (Instr.makeSlice 66 (.int .i64 0) (.int .i64 10)).run Try.prog w = .ok (.slice (some ⟨w.heap.size, 0, none⟩) 0 10) (w.alloc (.cells (ints .u8 (nn (zerN 10))).toArray 5)) := by kernel_rfl
theorem or_128 (r : Fin 128) : bits .or .u8 (r.val : Int) 128 = (r.val : Int) + 128 := by
  have h' : ∀ m : Fin 128, bits .or .u8 (m.val : Int) 128 = (m.val : Int) + 128 := by decide +kernel
  exact h' r
end Go.Proofs.Ytogonbgelaehhaa
namespace Go.Proofs.Ytogonbgelaehhaa
open Go.RowKit Go.Shelf
set_option linter.unusedVariables false

theorem acc_step (l : List Nat) (i : Nat) : bits .or .u64 ((accN l i : Nat) : Int) (IntKind.u64.wrap (((l.getD i 0 : Nat) : Int) % 128 * 2 ^ (7 * i))) = ((accN l (i + 1) : Nat) : Int) := by
  have h1 := accN_lt l i
  have h2 : l.getD i 0 % 128 * 2 ^ (7 * i) % 18446744073709551616 < 18446744073709551616 := Nat.mod_lt _ (by decide)
  have e : IntKind.u64.wrap (((l.getD i 0 : Nat) : Int) % 128 * 2 ^ (7 * i)) = ((l.getD i 0 % 128 * 2 ^ (7 * i) % 18446744073709551616 : Nat) : Int) := by rw [IntKind.wrap_u64]; simp
  rw [e, or_u64 _ _ h1 h2]
  rfl
theorem tx_nil : tx [] = ⟨#[]⟩ := rfl
end Go.Proofs.Ytogonbgelaehhaa
namespace Go.Proofs.Ytogonbgelaehhaa
open Go.RowKit Go.Shelf
set_option linter.unusedVariables false
/-- what Read tells of bytes: the text, what is behind, the error -/
def readL (l : List Nat) : List Nat × List Nat × Nat :=
  if (getL l).2.2 ≠ 0 then ([], [], (getL l).2.2) else if (l.drop (getL l).2.1).length < (getL l).1 then ([], [], 40) else ((l.drop (getL l).2.1).take (getL l).1, (l.drop (getL l).2.1).drop (getL l).1, 0)

end Go.Proofs.Ytogonbgelaehhaa
namespace Go.Proofs.Ytogonbgelaehhaa
open Go.RowKit Go.Shelf
set_option linter.unusedVariables false

/-- the bytes of n in w, the last j of them filled in -/
def bigP (n w : Nat) : Nat → List Nat
  | 0 => zerN w
  | j + 1 => (bigP n w j).set (w - 1 - j) (n / 2 ^ (8 * j) % 256)
theorem bigP_len (n w : Nat) : ∀ j, (bigP n w j).length = w
  | 0 => by simp [bigP, zerN]
  | j + 1 => by simp [bigP, bigP_len n w j]
theorem bigP_getD (n w : Nat) : ∀ j, j ≤ w → ∀ i, i < w → w - j ≤ i → (bigP n w j).getD i 0 = n / 2 ^ (8 * (w - 1 - i)) % 256
  | 0, _, i, h, h2 => by omega
  | j + 1, hj, i, h, h2 => by
    show ((bigP n w j).set (w - 1 - j) (n / 2 ^ (8 * j) % 256)).getD i 0 = _
    rw [getD_set _ _ _ _ (by rw [bigP_len]; omega)]
    by_cases e : w - 1 - j = i
    · rw [if_pos e, show w - 1 - i = j by omega]
    · rw [if_neg e]
      exact bigP_getD n w j (by omega) i h (by omega)
theorem bigP_full (n w : Nat) : bigP n w w = bigL n w := getD_ext w (bigP_len _ _ _) (big_len _ _) fun i hi => by
  rw [bigP_getD n w w (Nat.le_refl _) i hi (by omega), big_getD _ _ _ hi]
theorem make_w (k : Nat) (h1 : 1 ≤ k) (h2 : k ≤ 8) (w : World) : (Instr.makeSlice 66 (.int .i64 (k : Int)) (.int .i64 (k : Int))).run Try.prog w = .ok (.slice (some ⟨w.heap.size, 0, none⟩) k k) (w.alloc (.cells (ints .u8 (nn (zerN k))).toArray 5)) := by
  rcases (show k = 1 ∨ k = 2 ∨ k = 3 ∨ k = 4 ∨ k = 5 ∨ k = 6 ∨ k = 7 ∨ k = 8 by omega) with rfl | rfl | rfl | rfl | rfl | rfl | rfl | rfl <;> kernel_rfl
theorem shr_byte (n j : Nat) : (n : Int) / 2 ^ (8 * j) % 256 = ((n / 2 ^ (8 * j) % 256 : Nat) : Int) := by simp

end Go.Proofs.Ytogonbgelaehhaa
namespace Go.Proofs.Ytogonbgelaehhaa
open Go.RowKit Go.Shelf
set_option linter.unusedVariables false

theorem fix_step (F b : Nat) (hF : F < 72057594037927936) (hb : b < 256) : bits .or .u64 ((F : Int) * 256) (b : Int) = ((F * 256 + b : Nat) : Int) := by
  have e : (F : Int) * 256 = ((F * 256 : Nat) : Int) := by omega
  rw [e, or_u64 _ _ (by omega) (by omega), Nat.or_comm, Nat.add_comm]
  exact congrArg _ (or_add b F 8 hb)
theorem fix_small {l : List Nat} (h : Bys l) (j : Nat) (hj : j < 8) : fixN l j < 72057594037927936 := by
  have h1 := fix_lt h j
  have h2 : (2 : Nat) ^ (8 * j) ≤ 2 ^ 56 := Nat.pow_le_pow_right (by decide) (by omega)
  have h3 : (2 : Nat) ^ 56 = 72057594037927936 := by decide
  omega
end Go.Proofs.Ytogonbgelaehhaa
