/- Numbers by sevens of bits, and in so many bytes: what they are as bytes, and back; plain facts. -/
import Derived.Test.YtloogjdojojehaaG1
import Derived.Test.YtloogjdojojehaaG2
import Derived.IntWalk
namespace Go.Proofs.Ytloogjdojojehaa
set_option linter.unusedVariables false

/-- the sevens of n, f at most, each with whether it is the last one -/
def sevF : Nat → Nat → List (Fin 128 × Bool)
  | 0, _ => []
  | f + 1, n => if h : n < 128 then [(⟨n, h⟩, true)] else (⟨n % 128, Nat.mod_lt _ (by decide)⟩, false) :: sevF f (n / 128)
def sevL (n : Nat) : List (Fin 128 × Bool) := sevF 10 n
def sevB (x : Fin 128 × Bool) : Nat := if x.2 then x.1.val else x.1.val + 128
theorem sevF_small (f n : Nat) (h : n < 128) : sevF (f + 1) n = [(⟨n, h⟩, true)] := by simp [sevF, h]
theorem sevF_big (f n : Nat) (h : ¬ n < 128) : sevF (f + 1) n = (⟨n % 128, Nat.mod_lt _ (by decide)⟩, false) :: sevF f (n / 128) := by simp [sevF, h]
def putF (f n : Nat) : List Nat := (sevF f n).map sevB
def putL (n : Nat) : List Nat := putF 10 n
theorem putF_small (f n : Nat) (h : n < 128) : putF (f + 1) n = [n] := by simp [putF, sevF, h, sevB]
theorem putF_big (f n : Nat) (h : ¬ n < 128) : putF (f + 1) n = (n % 128 + 128) :: putF f (n / 128) := by simp [putF, sevF, h, sevB]
theorem putF_fuel : ∀ f g n, n < 128 ^ f → f ≤ g → 0 < f → putF f n = putF g n
  | 0, _, _, _, _, h => by omega
  | f + 1, 0, _, _, h, _ => by omega
  | f + 1, g + 1, n, hn, hg, _ => by
    by_cases h : n < 128
    · rw [putF_small _ _ h, putF_small _ _ h]
    · rw [putF_big _ _ h, putF_big _ _ h]
      have h0 : 0 < f := by
        rcases Nat.eq_zero_or_pos f with rfl | h'
        · simp at hn; omega
        · exact h'
      rw [putF_fuel f g (n / 128) (by rw [Nat.pow_succ] at hn; omega) (by omega) h0]
theorem lt_128_10 {n : Nat} (h : n < 18446744073709551616) : n < 128 ^ 10 := by
  have : (128 : Nat) ^ 10 = 1180591620717411303424 := by decide
  omega
theorem put_small {n : Nat} (h : n < 128) : putL n = [n] := putF_small 9 n h
theorem put_big {n : Nat} (h : ¬ n < 128) (hn : n < 18446744073709551616) : putL n = (n % 128 + 128) :: putL (n / 128) := by
  have e : (128 : Nat) ^ 9 = 9223372036854775808 := by decide
  show putF 10 n = _
  rw [putF_big 9 n h, putF_fuel 9 10 (n / 128) (by omega) (by omega) (by omega)]
  rfl
/-- the bytes of a number: some of 128 or above, and one below -/
theorem putF_shape : ∀ f n, n < 128 ^ f → 0 < f → ∃ hi x, putF f n = hi ++ [x] ∧ (∀ y ∈ hi, 128 ≤ y ∧ y < 256) ∧ x < 128 ∧ hi.length < f
  | 0, _, _, h => by omega
  | f + 1, n, hn, _ => by
    by_cases h : n < 128
    · exact ⟨[], n, putF_small _ _ h, (fun y hy => (by cases hy)), h, by simp⟩
    · have h0 : 0 < f := by
        rcases Nat.eq_zero_or_pos f with rfl | h'
        · simp at hn; omega
        · exact h'
      obtain ⟨hi, x, e, h1, h2, h3⟩ := putF_shape f (n / 128) (by rw [Nat.pow_succ] at hn; omega) h0
      refine ⟨(n % 128 + 128) :: hi, x, by rw [putF_big _ _ h, e]; rfl, ?_, h2, by simp; omega⟩
      intro y hy
      rcases List.mem_cons.1 hy with rfl | hy
      · omega
      · exact h1 y hy
theorem put_shape {n : Nat} (hn : n < 18446744073709551616) : ∃ hi x, putL n = hi ++ [x] ∧ (∀ y ∈ hi, 128 ≤ y ∧ y < 256) ∧ x < 128 ∧ hi.length < 10 :=
  putF_shape 10 n (lt_128_10 hn) (by omega)
theorem put_bys {n : Nat} (hn : n < 18446744073709551616) : Bys (putL n) := by
  obtain ⟨hi, x, e, h1, h2, _⟩ := put_shape hn
  rw [e]
  refine Bys.of fun y hy => ?_
  rcases List.mem_append.1 hy with h | h
  · exact (h1 y h).2
  · simp at h; omega
theorem putF_len_mono : ∀ f a b, a ≤ b → (putF f a).length ≤ (putF f b).length
  | 0, _, _, _ => by simp [putF, sevF]
  | f + 1, a, b, h => by
    by_cases ha : a < 128
    · rw [putF_small _ _ ha]
      by_cases hb : b < 128
      · rw [putF_small _ _ hb]; simp
      · rw [putF_big _ _ hb]; simp
    · rw [putF_big _ _ ha, putF_big _ _ (by omega : ¬ b < 128)]
      have := putF_len_mono f (a / 128) (b / 128) (Nat.div_le_div_right h)
      simp; exact this
theorem putF_len_le : ∀ f a, (putF f a).length ≤ f
  | 0, _ => by simp [putF, sevF]
  | f + 1, a => by
    by_cases ha : a < 128
    · rw [putF_small _ _ ha]; simp
    · rw [putF_big _ _ ha]; have := putF_len_le f (a / 128); simp; exact this
theorem put_len_mono {a b : Nat} (h : a ≤ b) : (putL a).length ≤ (putL b).length := putF_len_mono _ _ _ h
theorem put_len_le (a : Nat) : (putL a).length ≤ 10 := putF_len_le _ _
theorem put_len_pos (a : Nat) : 1 ≤ (putL a).length := by
  unfold putL
  by_cases ha : a < 128
  · rw [putF_small _ _ ha]; simp
  · rw [putF_big _ _ ha]; simp
theorem put_len_pow (k : Nat) (h : k < 64) : (putL (2 ^ k)).length = k / 7 + 1 := by
  have h' : ∀ m : Fin 64, (putL (2 ^ m.val)).length = m.val / 7 + 1 := by decide +kernel
  exact h' ⟨k, h⟩

/-- what bytes come to, by their lowest seven bits, the first ones lowest -/
def valL : List Nat → Nat
  | [] => 0
  | b :: r => b % 128 + 128 * valL r
theorem val_app : ∀ (a b : List Nat), valL (a ++ b) = valL a + 128 ^ a.length * valL b
  | [], b => by simp [valL]
  | x :: a, b => by
    rw [List.cons_append, valL, valL, val_app a b, List.length_cons, Nat.pow_succ, Nat.mul_add, Nat.mul_comm (128 ^ a.length) 128, Nat.mul_assoc]
    omega
theorem val_lt : ∀ (a : List Nat), valL a < 128 ^ a.length
  | [] => by simp [valL]
  | x :: a => by
    have := val_lt a
    rw [valL, List.length_cons, Nat.pow_succ]
    omega
theorem val_putF : ∀ f n, n < 128 ^ f → valL (putF f n) = n
  | 0, n, h => by simp at h; subst h; rfl
  | f + 1, n, hn => by
    by_cases h : n < 128
    · rw [putF_small _ _ h]; simp [valL]; omega
    · rw [putF_big _ _ h, valL, val_putF f (n / 128) (by rw [Nat.pow_succ] at hn; omega)]
      omega
theorem val_put {n : Nat} (hn : n < 18446744073709551616) : valL (putL n) = n := val_putF 10 n (lt_128_10 hn)
/-- the number that is put together, byte by byte -/
def accN (l : List Nat) : Nat → Nat
  | 0 => 0
  | i + 1 => accN l i ||| (l.getD i 0 % 128 * 2 ^ (7 * i) % 18446744073709551616)
theorem accN_lt (l : List Nat) : ∀ i, accN l i < 18446744073709551616
  | 0 => by simp [accN]
  | i + 1 => Nat.or_lt_two_pow (n := 64) (accN_lt l i) (Nat.mod_lt _ (by decide))
theorem pow_7 (i : Nat) : (128 : Nat) ^ i = 2 ^ (7 * i) := by rw [Nat.pow_mul]
theorem acc_val (l : List Nat) : ∀ i, i ≤ l.length → valL (l.take i) < 18446744073709551616 → accN l i = valL (l.take i)
  | 0, _, _ => rfl
  | i + 1, hi, hv => by
    have e := take_snoc l i (by omega)
    have hl : (l.take i).length = i := by rw [List.length_take]; omega
    rw [e, val_app, hl] at hv ⊢
    have h1 : valL [l.getD i 0] = l.getD i 0 % 128 := by simp [valL]
    rw [h1, pow_7, Nat.mul_comm] at hv ⊢
    rw [accN, acc_val l i (by omega) (by omega), Nat.mod_eq_of_lt (by omega)]
    have h2 := val_lt (l.take i)
    rw [hl, pow_7] at h2
    exact or_add _ _ _ h2

/-- what Get tells of bytes, from place i on, f more at most: the number, how many bytes are read, the error -/
def getR (l : List Nat) : Nat → Nat → Nat × Nat × Nat
  | 0, _ => (0, l.length, 41)
  | f + 1, i => if l.length ≤ i then (0, l.length, 40) else
      if l.getD i 0 < 128 then (if putL (accN l (i + 1)) = l.take (i + 1) then (accN l (i + 1), i + 1, 0) else (0, l.length, 41)) else getR l f (i + 1)
def getL (l : List Nat) : Nat × Nat × Nat := getR l 10 0
theorem get_zero (l : List Nat) (i : Nat) : getR l 0 i = (0, l.length, 41) := rfl
theorem get_short (l : List Nat) (f i : Nat) (h : l.length ≤ i) : getR l (f + 1) i = (0, l.length, 40) := by simp [getR, h]
theorem get_more (l : List Nat) (f i : Nat) (h : i < l.length) (h2 : 128 ≤ l.getD i 0) : getR l (f + 1) i = getR l f (i + 1) := by
  rw [getR, if_neg (by omega), if_neg (by omega)]
theorem get_last (l : List Nat) (f i : Nat) (h : i < l.length) (h2 : l.getD i 0 < 128) (h3 : putL (accN l (i + 1)) = l.take (i + 1)) : getR l (f + 1) i = (accN l (i + 1), i + 1, 0) := by
  rw [getR, if_neg (by omega), if_pos h2, if_pos h3]
theorem get_long (l : List Nat) (f i : Nat) (h : i < l.length) (h2 : l.getD i 0 < 128) (h3 : ¬ putL (accN l (i + 1)) = l.take (i + 1)) : getR l (f + 1) i = (0, l.length, 41) := by
  rw [getR, if_neg (by omega), if_pos h2, if_neg h3]
theorem get_skip (l : List Nat) (f : Nat) : ∀ k, k ≤ f → k ≤ l.length → (∀ j, j < k → 128 ≤ l.getD j 0) → getR l f 0 = getR l (f - k) k
  | 0, _, _, _ => rfl
  | k + 1, hf, hl, h => by
    rw [get_skip l f k (by omega) (by omega) (fun j hj => h j (by omega)), show f - k = f - (k + 1) + 1 by omega, get_more l _ _ (by omega) (h k (by omega))]
theorem get_put {n : Nat} (hn : n < 18446744073709551616) (r : List Nat) : getL (putL n ++ r) = (n, (putL n).length, 0) := by
  obtain ⟨hi, x, e, h1, h2, h3⟩ := put_shape hn
  have hv := val_put hn
  have hl : (putL n).length = hi.length + 1 := by rw [e]; simp
  have ht : (putL n ++ r).take (hi.length + 1) = putL n := by rw [← hl]; simp
  have hx : (putL n ++ r).getD hi.length 0 = x := by
    rw [e, List.append_assoc, getD_app, if_neg (by omega)]; simp
  have hacc : accN (putL n ++ r) (hi.length + 1) = n := by
    rw [acc_val _ _ (by rw [List.length_append]; omega) (by rw [ht, hv]; exact hn), ht, hv]
  unfold getL
  rw [get_skip _ 10 hi.length (by omega) (by rw [List.length_append]; omega) (fun j hj => by
    rw [e, List.append_assoc, getD_app, if_pos hj]; exact (h1 _ (getD_mem _ _ hj)).1), show 10 - hi.length = (10 - hi.length - 1) + 1 by omega,
    get_last _ _ _ (by rw [List.length_append]; omega) (by rw [hx]; exact h2) (by rw [hacc, ht]), hacc, hl]
theorem get_high (l : List Nat) (h : ∀ j, j < l.length → 128 ≤ l.getD j 0) (hl : l.length < 10) : getL l = (0, l.length, 40) := by
  unfold getL
  rw [get_skip l 10 l.length (by omega) (Nat.le_refl _) h, show 10 - l.length = (10 - l.length - 1) + 1 by omega, get_short _ _ _ (Nat.le_refl _)]
theorem get_ten (l : List Nat) (h : ∀ j, j < 10 → 128 ≤ l.getD j 0) (hl : 10 ≤ l.length) : getL l = (0, l.length, 41) := by
  unfold getL
  rw [get_skip l 10 10 (by omega) hl h]
  rfl
/-- the ways that it may go -/
theorem getR_cases (l : List Nat) : ∀ f i, i + f = 10 → i ≤ l.length → (∀ j, j < i → 128 ≤ l.getD j 0) →
    (getR l f i = (0, l.length, 40) ∧ l.length < 10) ∨ getR l f i = (0, l.length, 41) ∨
    ∃ n k, getR l f i = (n, k, 0) ∧ n < 18446744073709551616 ∧ putL n = l.take k ∧ 1 ≤ k ∧ k ≤ 10 ∧ k ≤ l.length ∧ ∀ j, j + 1 < k → 128 ≤ l.getD j 0
  | 0, i, _, _, _ => .inr (.inl rfl)
  | f + 1, i, hi, hl, hh => by
    by_cases h : l.length ≤ i
    · exact .inl ⟨get_short l f i h, by omega⟩
    · by_cases h2 : l.getD i 0 < 128
      · by_cases h3 : putL (accN l (i + 1)) = l.take (i + 1)
        · exact .inr (.inr ⟨_, _, get_last l f i (by omega) h2 h3, accN_lt _ _, h3, by omega, by omega, by omega, fun j hj => hh j (by omega)⟩)
        · exact .inr (.inl (get_long l f i (by omega) h2 h3))
      · rw [get_more l f i (by omega) (by omega)]
        exact getR_cases l f (i + 1) (by omega) (by omega) (fun j hj => by
          by_cases e : j = i
          · subst e; omega
          · exact hh j (by omega))
theorem getL_cases (l : List Nat) :
    (getL l = (0, l.length, 40) ∧ l.length < 10) ∨ getL l = (0, l.length, 41) ∨
    ∃ n k, getL l = (n, k, 0) ∧ n < 18446744073709551616 ∧ putL n = l.take k ∧ 1 ≤ k ∧ k ≤ 10 ∧ k ≤ l.length ∧ ∀ j, j + 1 < k → 128 ≤ l.getD j 0 :=
  getR_cases l 10 0 (by omega) (by omega) (fun j hj => by omega)
theorem get_le (l : List Nat) : (getL l).2.1 ≤ l.length := by
  rcases getL_cases l with ⟨h, _⟩ | h | ⟨n, k, h, _, _, _, _, hk, _⟩
  · rw [h]; exact Nat.le_refl _
  · rw [h]; exact Nat.le_refl _
  · rw [h]; exact hk
theorem get_lt (l : List Nat) : (getL l).1 < 18446744073709551616 := by
  rcases getL_cases l with ⟨h, _⟩ | h | ⟨n, k, h, hn, _⟩
  · rw [h]; exact (by decide : 0 < 18446744073709551616)
  · rw [h]; exact (by decide : 0 < 18446744073709551616)
  · rw [h]; exact hn
/-- a byte more than there need be -/
theorem get_padded {n : Nat} (hn : n < 18446744073709551616) (hi : List Nat) (x : Nat) (e : putL n = hi ++ [x]) (h1 : ∀ y ∈ hi, 128 ≤ y ∧ y < 256) (h2 : x < 128) (h3 : hi.length < 10) (r : List Nat) :
    getL (hi ++ [x + 128] ++ [0] ++ r) = (0, (hi ++ [x + 128] ++ [0] ++ r).length, 41) := by
  have hv := val_put hn
  have hg : ∀ j, j < hi.length + 1 → 128 ≤ (hi ++ [x + 128] ++ [0] ++ r).getD j 0 := fun j hj => by
    rw [List.append_assoc, List.append_assoc, getD_app]
    split
    · rename_i h; exact (h1 _ (getD_mem _ _ h)).1
    · have : j - hi.length = 0 := by omega
      rw [this]; simp
  by_cases h9 : hi.length = 9
  · exact get_ten _ (fun j hj => hg j (by omega)) (by simp; omega)
  · have ht : (hi ++ [x + 128] ++ [0] ++ r).take (hi.length + 1 + 1) = hi ++ [x + 128] ++ [0] := List.take_left' (by simp)
    have hval : valL (hi ++ [x + 128] ++ [0]) = n := by
      rw [← hv, e, val_app, val_app, val_app]
      simp [valL]
    unfold getL
    rw [get_skip _ 10 (hi.length + 1) (by omega) (by simp) hg, show 10 - (hi.length + 1) = (10 - (hi.length + 1) - 1) + 1 by omega]
    refine get_long _ _ _ (by simp) ?_ ?_
    · rw [List.append_assoc, getD_app, if_neg (by simp)]; simp
    · rw [acc_val _ _ (by simp; omega) (by rw [ht, hval]; exact hn), ht, hval, e]
      intro h
      have := congrArg List.length h
      simp at this

/-! ### so many bytes -/
def bigL (n w : Nat) : List Nat := (List.range w).map fun j => n / 2 ^ (8 * (w - 1 - j)) % 256
theorem big_len (n w : Nat) : (bigL n w).length = w := by simp [bigL]
theorem big_getD (n w j : Nat) (h : j < w) : (bigL n w).getD j 0 = n / 2 ^ (8 * (w - 1 - j)) % 256 := by unfold bigL; exact map_range_getD _ _ _ h
theorem big_bys (n w : Nat) : Bys (bigL n w) := Bys.of fun x hx => by
  simp only [bigL, List.mem_map] at hx
  obtain ⟨j, _, rfl⟩ := hx
  exact Nat.mod_lt _ (by decide)
/-- the number that the first k make, the highest one first -/
def fixN (l : List Nat) : Nat → Nat
  | 0 => 0
  | k + 1 => fixN l k * 256 + l.getD k 0
theorem fix_lt {l : List Nat} (h : Bys l) : ∀ k, fixN l k < 2 ^ (8 * k)
  | 0 => by simp [fixN]
  | k + 1 => by
    have h1 := fix_lt h k
    have h2 := h k
    rw [fixN, show 8 * (k + 1) = 8 * k + 8 by omega, Nat.pow_add]
    omega
theorem fix_left (a b : List Nat) : ∀ k, k ≤ a.length → fixN (a ++ b) k = fixN a k
  | 0, _ => rfl
  | k + 1, h => by rw [fixN, fixN, fix_left a b k (by omega), getD_app, if_pos (by omega)]
theorem fix_big (n w : Nat) : ∀ k, k ≤ w → fixN (bigL n w) k = n / 2 ^ (8 * (w - k)) % 2 ^ (8 * k)
  | 0, _ => by simp [fixN, Nat.mod_one]
  | k + 1, h => by
    rw [fixN, fix_big n w k (by omega), big_getD _ _ _ (by omega), show w - 1 - k = w - (k + 1) by omega, show 8 * (w - k) = 8 * (w - (k + 1)) + 8 by omega, Nat.pow_add, ← Nat.div_div_eq_div_mul]
    generalize n / 2 ^ (8 * (w - (k + 1))) = m
    rw [show 8 * (k + 1) = 8 + 8 * k by omega, Nat.pow_add, Nat.mod_mul, show (2 : Nat) ^ 8 = 256 by decide]
    omega
theorem fix_put (n w : Nat) (r : List Nat) : fixN (bigL n w ++ r) w = n % 2 ^ (8 * w) := by
  rw [fix_left _ _ _ (by rw [big_len]; exact Nat.le_refl _), fix_big n w w (Nat.le_refl _)]
  simp
end Go.Proofs.Ytloogjdojojehaa
namespace Go.Proofs.Ytloogjdojojehaa
open Go.RowKit
set_option linter.unusedVariables false

theorem v_reader (s : ByteArray) (w : World) :
    Calls Try.prog 81 #[.string s] w fun e w' => e = .returned (.func (.func 92) #[] #[.pointer (some ⟨w.heap.size + 1, 0, none⟩), .pointer (some ⟨w.heap.size, 0, none⟩)]) ∧ w' = (w.alloc (.cells #[.string s] 9)).alloc (.cells #[.int .i64 0] 3) := by
  go_enter Try.func81, Try.ntmps81
  go_wp2
  go_ret
  exact ⟨rfl, rfl⟩
theorem v_rd_some (A S i : Nat) (s : ByteArray) (w : World) (hA : Blk w A 3 [.int .i64 (i : Int)]) (hS : Blk w S 9 [.string s]) (hAS : A ≠ S) (hi : i < s.size) (hm : i < 65536) :
    Calls Try.prog 92 #[.pointer (some ⟨A, 0, none⟩), .pointer (some ⟨S, 0, none⟩)] w fun e w' => e = .returned (.tuple #[.int .u8 (((sl s).getD i 0 : Nat) : Int), .bool true]) ∧ w' = w.setCell ⟨A, 0, none⟩ (.int .i64 ((i : Int) + 1)) := by
  have c1 := hA.cell 0
  have c2 := hS.cell 0
  have f1 := hA.free 0
  simp only [List.getElem?_cons_zero] at c1 c2
  have hx := fun w => index_sl s .i64 i hi w
  have g1 : ((i : Int) == (s.size : Int)) = false := by simp; omega
  clear hA hS
  go_enter Try.func92, Try.ntmps92
  go_wp2
  go_ret2
  exact ⟨rfl, rfl⟩
theorem v_rd_none (A S i : Nat) (s : ByteArray) (w : World) (hA : Blk w A 3 [.int .i64 (i : Int)]) (hS : Blk w S 9 [.string s]) (hi : i = s.size) :
    Calls Try.prog 92 #[.pointer (some ⟨A, 0, none⟩), .pointer (some ⟨S, 0, none⟩)] w fun e w' => e = .returned (.tuple #[.int .u8 0, .bool false]) ∧ w = w' := by
  have c1 := hA.cell 0
  have c2 := hS.cell 0
  simp only [List.getElem?_cons_zero] at c1 c2
  have g1 : ((i : Int) == (s.size : Int)) = true := by simp; omega
  clear hA hS
  have H := Lib.hid hi
  clear hi
  go_enter Try.func92, Try.ntmps92
  go_wp2
  go_ret2
  exact ⟨rfl, rfl⟩
theorem v_width_yes (k : Nat) (w : World) (h1 : 1 ≤ k) (h2 : k ≤ 8) :
    Calls Try.prog 79 #[.int .i64 (k : Int)] w fun e w' => e = .returned (.bool true) ∧ w = w' := by
  have g1 : decide ((1 : Int) ≤ (k : Int)) = true := by simp; omega
  have g2 : decide ((k : Int) ≤ 8) = true := by simp; omega
  go_enter Try.func79, Try.ntmps79
  go_wp2
  go_ret
  exact ⟨rfl, rfl⟩
theorem v_width_no (k : Int) (w : World) (h : k < 1 ∨ 8 < k) :
    Calls Try.prog 79 #[.int .i64 k] w fun e w' => e = .returned (.bool false) ∧ w = w' := by
  rcases h with h | h
  · have g1 : decide ((1 : Int) ≤ k) = false := by simp; omega
    go_enter Try.func79, Try.ntmps79
    go_wp2
    go_ret
    exact ⟨rfl, rfl⟩
  · have g1 : decide ((1 : Int) ≤ k) = true := by simp; omega
    have g2 : decide (k ≤ 8) = false := by simp; omega
    go_enter Try.func79, Try.ntmps79
    go_wp2
    go_ret
    exact ⟨rfl, rfl⟩
theorem v_sevens (n : Nat) (w : World) :
    Calls Try.prog 88 #[.int .u64 (n : Int)] w fun e w' => e = .returned (.func (.func 105) #[] #[.pointer (some ⟨w.heap.size, 0, none⟩)]) ∧ w' = w.alloc (.cells #[.int .u64 (n : Int)] 104) := by
  go_enter Try.func88, Try.ntmps88
  go_wp2
  go_ret
  exact ⟨rfl, rfl⟩
end Go.Proofs.Ytloogjdojojehaa
namespace Go.Proofs.Ytloogjdojojehaa
open Go.RowKit Go.Shelf
set_option linter.unusedVariables false

attribute [local go_sem] Oper.semAt_some

theorem andNot_u8 (b : Nat) (h : b < 256) : bits .andNot .u8 (b : Int) 128 = ((b % 128 : Nat) : Int) := by
  have h' : ∀ m : Fin 256, bits .andNot .u8 (m.val : Int) 128 = ((m.val % 128 : Nat) : Int) := by decide +kernel
  exact h' ⟨b, h⟩
theorem andNot_u64 (n : Nat) (h : n < 18446744073709551616) : bits .andNot .u64 (n : Int) 128 % 256 = ((n % 128 : Nat) : Int) := by
  have ha : n % 2 ^ IntKind.u64.bits = n := Nat.mod_eq_of_lt h
  have hd : n &&& 18446744073709551487 < 2 ^ 64 := Nat.and_lt_two_pow _ (by decide)
  have he : (n &&& 18446744073709551487) % 2 ^ 8 = n % 128 := by
    rw [Nat.and_mod_two_pow, show 18446744073709551487 % 2 ^ 8 = 2 ^ 7 - 1 by decide, Nat.and_two_pow_sub_one_eq_mod]
    omega
  have hr : bits .andNot .u64 (n : Int) 128 = ((n &&& 18446744073709551487 : Nat) : Int) := by
    have e1 : (BitVec.ofInt IntKind.u64.bits (n : Int)).toNat = n := by
      rw [BitVec.ofInt_natCast, BitVec.toNat_ofNat, ha]
    show IntKind.u64.wrap (((BitVec.ofInt IntKind.u64.bits (n : Int) &&& ~~~(BitVec.ofInt IntKind.u64.bits 128)).toNat : Nat) : Int) = _
    rw [BitVec.toNat_and, e1, show (~~~(BitVec.ofInt IntKind.u64.bits 128)).toNat = 18446744073709551487 by decide]
    exact wraps_u64 _ (by omega) (by omega)
  rw [hr]
  omega
def sevM (l : Value) (x : Value) : Nat := match x with | .bool true => 0 | _ => (intOf l).toNat + 1
set_option maxRecDepth 100000 in
set_option maxHeartbeats 2000000 in
/-- the iterator, for every body that keeps its block -/
theorem v_sev_in (n l Bs m : Nat) (hm : m < 18446744073709551616) (J Jx : List (Fin 128 × Bool) → World → Prop) (hn : 2 ≤ n)
    (hY : ∀ pre x W, J pre W → pre.length < 10 → YieldAt Fence.wide (n - 1) Try.prog l #[.int .u8 ((x : Fin 128 × Bool).1.val : Int), .bool x.2] W fun e W' =>
      (e = .returned (.bool true) ∧ J (pre ++ [x]) W' ∧ (∀ o, W.heap[Bs]? = some o → W'.heap[Bs]? = some o)) ∨ (e = .returned (.bool false) ∧ Jx (pre ++ [x]) W'))
    (W : World) (hB : Blk W Bs 104 [.int .u64 (m : Int)]) (h0 : J [] W) :
    CallsIn Fence.wide n Try.prog 105 #[.func (.yield l) #[] #[], .pointer (some ⟨Bs, 0, none⟩)] W fun e W' => (∃ v, e = .returned v) ∧
      ((∃ ys, ys = sevL m ∧ J ys W') ∨ (∃ pre, True ∧ Jx pre W')) := by
  have c1 := hB.cell 0
  simp only [List.getElem?_cons_zero] at c1
  refine callsIn_of_wp Try.func105 rfl trivial ?_ rfl
  simp only [Try.ntmps105, List.size_toArray, List.length_cons, List.length_nil, Nat.reduceAdd, Nat.reduceSub, Array.replicate_succ, Array.replicate_zero, List.push_toArray, List.append_toArray, List.nil_append, List.cons_append]
  gi_wp2
  clear c1
  gi_loopw [3, 4] (fun u v wr => ∃ (L : Nat) (pre : List (Fin 128 × Bool)), u = .int .u64 (L : Int) ∧ L < 18446744073709551616 ∧ J pre wr ∧ Blk wr Bs 104 [.int .u64 (m : Int)] ∧
      ((v = .bool true ∧ sevL m = pre) ∨ (v = .bool false ∧ ∃ f, sevL m = pre ++ sevF (f + 1) L ∧ pre.length + (f + 1) = 10 ∧ L < 128 ^ (f + 1)))) (fun u v _ => sevM u v)
  case atStart => exact ⟨m, [], rfl, hm, h0, hB, .inr ⟨rfl, 9, rfl, rfl, lt_128_10 hm⟩⟩
  case round =>
    obtain ⟨L, pre, rfl, hL, hJ, hb, ⟨rfl, hE⟩ | ⟨rfl, f, hE, hl, hLf⟩⟩ := hrel
    · gi_wp2
      go_end0
      exact ⟨⟨_, rfl⟩, .inl ⟨_, hE.symm, hJ⟩⟩
    · have hx := andNot_u64 L hL
      by_cases h : L < 128
      · have hs := sevF_small f L h
        have g1 : decide ((L : Int) < 128) = true := by simp; omega
        obtain ⟨fn, tmps, assign, body, hy, hR⟩ := hY pre (⟨L, h⟩, true) wr hJ (by omega)
        dsimp only at hy
        rw [show L % 128 = L by omega] at hx
        gi_wp2
        first | refine hR.mono ?_ | refine ⟨fun _ => by omega, hR.mono ?_⟩
        rintro e W3 (⟨rfl, hJ3, hk3⟩ | ⟨rfl, hJx3⟩)
        · gi_wp2
          go_roundw
          case rel => exact ⟨L / 128, _, by go_num, by omega, hJ3, hk3 _ hb, .inl ⟨rfl, by rw [hE, hs]⟩⟩
          case measure => simp [sevM, intOf]
        · gi_wp2
          refine bodyPost_ret (results_none rfl _ _ _) rfl ?_
          exact ⟨⟨_, rfl⟩, .inr ⟨_, trivial, hJx3⟩⟩
      · have h0 : 0 < f := by
          rcases Nat.eq_zero_or_pos f with rfl | h'
          · simp at hLf; omega
          · exact h'
        obtain ⟨f, rfl⟩ : ∃ g, f = g + 1 := ⟨f - 1, by omega⟩
        have hs := sevF_big (f + 1) L h
        have hp : L / 128 < 128 ^ (f + 1) := by rw [Nat.pow_succ] at hLf; omega
        have g1 : decide ((L : Int) < 128) = false := by simp; omega
        obtain ⟨r, hr⟩ : ∃ r : Fin 128, (⟨L % 128, Nat.mod_lt _ (by decide)⟩ : Fin 128) = r := ⟨_, rfl⟩
        have hxr : bits .andNot .u64 (L : Int) 128 % 256 = (r.val : Int) := by rw [hx, ← hr]
        rw [hr] at hs
        obtain ⟨fn, tmps, assign, body, hy, hR⟩ := hY pre (r, false) wr hJ (by omega)
        dsimp only at hy
        clear hLf hx hr
        gi_wp2
        first | refine hR.mono ?_ | refine ⟨fun _ => by omega, hR.mono ?_⟩
        rintro e W3 (⟨rfl, hJ3, hk3⟩ | ⟨rfl, hJx3⟩)
        · gi_wp2
          go_roundw
          case rel => exact ⟨L / 128, _, by go_num, by omega, hJ3, hk3 _ hb, .inr ⟨rfl, f, by rw [hE, hs, List.append_assoc]; rfl, by simp; omega, hp⟩⟩
          case measure => simp [sevM, intOf]; omega
        · gi_wp2
          refine bodyPost_ret (results_none rfl _ _ _) rfl ?_
          exact ⟨⟨_, rfl⟩, .inr ⟨_, trivial, hJx3⟩⟩
theorem v_stops (n Bs m : Nat) (hm : m < 18446744073709551616) (hn : 2 ≤ n) (w : World) (hB : Blk w Bs 104 [.int .u64 (m : Int)]) :
    SeqStopsK Fence.wide n Try.prog 105 #[.pointer (some ⟨Bs, 0, none⟩)] (fun x : Fin 128 × Bool => #[Value.int .u8 (x.1.val : Int), Value.bool x.2]) (fun A B => ∀ o, A.heap[Bs]? = some o → B.heap[Bs]? = some o) (fun ys => ys = sevL m) (fun _ => True) 10 w := fun l J Jx W hW _ _ hY h0 =>
  v_sev_in n l Bs m hm J Jx hn hY W (hB.below hW hB.lt) h0
end Go.Proofs.Ytloogjdojojehaa
namespace Go.Proofs.Ytloogjdojojehaa
open Go.RowKit Go.Shelf
set_option linter.unusedVariables false

attribute [local go_sem] Oper.semAt_some

theorem make_10 (w : World) : (Instr.makeSlice 60 (.int .i64 0) (.int .i64 10)).run Try.prog w = .ok (.slice (some ⟨w.heap.size, 0, none⟩) 0 10) (w.alloc (.cells (ints .u8 (nn (zerN 10))).toArray 5)) := by kernel_rfl
theorem or_128 (r : Fin 128) : bits .or .u8 (r.val : Int) 128 = (r.val : Int) + 128 := by
  have h' : ∀ m : Fin 128, bits .or .u8 (m.val : Int) 128 = (m.val : Int) + 128 := by decide +kernel
  exact h' r
set_option maxRecDepth 100000 in
set_option maxHeartbeats 2000000 in
theorem v_Put (m : Nat) (w : World) (hm : m < 18446744073709551616) :
    Calls Try.prog 68 #[.int .u64 (m : Int)] w fun e w' => e = .returned (.string (tx (putL m))) ∧ Below w.heap.size w w' := by
  have hmk := make_10
  refine (callsIn_wide (n := 9)).1 (callsIn_of_wp_marks Try.func68 rfl trivial ?_ rfl)
  simp only [Try.ntmps68, List.size_toArray, List.length_cons, List.length_nil, Nat.reduceAdd, Nat.reduceSub, Array.replicate_succ, Array.replicate_zero, List.push_toArray, List.append_toArray, List.nil_append, List.cons_append]
  refine wpIn_wide.2 ?_
  go_wp2_with (go_at_call 88; (with_reducible refine (v_sevens _ _).mono ?_); rintro e w9 ⟨rfl, rfl⟩)
  have K1 : Blk (((w.alloc (.cells (ints .u8 (nn (zerN 10))).toArray 5)).alloc (.cells #[.slice (some ⟨w.heap.size, 0, none⟩) 0 10] 60)).alloc (.cells #[.int .u64 (m : Int)] 104)) (w.heap.size + 1) 60 [.slice (some ⟨w.heap.size, 0, none⟩) 0 10] := (Blk.new2 w _ 60 [.slice (some ⟨w.heap.size, 0, none⟩) 0 10] rfl).alloc _
  have K2 : Blk (((w.alloc (.cells (ints .u8 (nn (zerN 10))).toArray 5)).alloc (.cells #[.slice (some ⟨w.heap.size, 0, none⟩) 0 10] 60)).alloc (.cells #[.int .u64 (m : Int)] 104)) (w.heap.size + 1 + 1) 104 [.int .u64 (m : Int)] := by
    have := Blk.new2 (w.alloc (.cells (ints .u8 (nn (zerN 10))).toArray 5)) (.cells #[.slice (some ⟨w.heap.size, 0, none⟩) 0 10] 60) 104 [.int .u64 (m : Int)] rfl
    rw [World.size_alloc] at this
    exact this
  have K0 : OwnB (((w.alloc (.cells (ints .u8 (nn (zerN 10))).toArray 5)).alloc (.cells #[.slice (some ⟨w.heap.size, 0, none⟩) 0 10] 60)).alloc (.cells #[.int .u64 (m : Int)] 104)) w.heap.size 5 (.slice (some ⟨w.heap.size, 0, none⟩) 0 10) (nn []) :=
    ((OwnB.ofBlk (l := []) (nn (zerN 10)) (Blk.new' w 5 (ints .u8 ([] ++ nn (zerN 10))) rfl) (Nat.le_refl _) rfl (by decide)).alloc _).alloc _
  have Kb : Below w.heap.size w (((w.alloc (.cells (ints .u8 (nn (zerN 10))).toArray 5)).alloc (.cells #[.slice (some ⟨w.heap.size, 0, none⟩) 0 10] 60)).alloc (.cells #[.int .u64 (m : Int)] 104)) := (((Below.refl _ _).alloc (Nat.le_refl _) _).alloc (by simp) _).alloc (by simp; omega) _
  have Kn : (((w.alloc (.cells (ints .u8 (nn (zerN 10))).toArray 5)).alloc (.cells #[.slice (some ⟨w.heap.size, 0, none⟩) 0 10] 60)).alloc (.cells #[.int .u64 (m : Int)] 104)).heap.size = w.heap.size + 3 := by simp
  clear hmk
  generalize World.alloc (World.alloc (World.alloc w _) _) _ = w4 at *
  have hKb : ∀ (W : World) (l : Nat) (o o' : Obj), w4.heap.size ≤ l → W.heap[l]? = some o → o.isCells = false → o.isWalk = false → ∀ o2, W.heap[w.heap.size + 1 + 1]? = some o2 → (W.putObj l o').heap[w.heap.size + 1 + 1]? = some o2 := fun W l o o' hl _ _ _ o2 ho2 =>
    (World.putObj_heap_other (by omega)).trans ho2
  refine (wpIn_wide (n := 9)).1 ?_
  refine wpIn_rangeFunc_ownF (F := Fence.wide) (n := 9) rfl (by omega) (gf := 105) (lb := #[.pointer (some ⟨w.heap.size + 1 + 1, 0, none⟩)]) rfl trivial (enters_of Try.func105 (by kernel_rfl) rfl)
    (v_stops 8 (w.heap.size + 1 + 1) m hm (by omega) w4 K2) (fun h k o ho => k o (h o ho)) hKb (Below.refl _ _) (fun _ => rfl)
    (fun pre W => (Blk W (w.heap.size + 1) 60 [.slice (some ⟨w.heap.size, 0, none⟩) pre.length 10] ∧ OwnB W w.heap.size 5 (.slice (some ⟨w.heap.size, 0, none⟩) pre.length 10) (nn (pre.map sevB))) ∧ Below w.heap.size w W)
    (fun _ _ _ => False)
    (OwnFrom.and (Own.from (fun s A B row hs hg hr => ⟨hs.1.kept hg hr, hs.2.kept hg hr⟩) _) (ownFrom_below (Nat.le_refl _) (by omega)))
    (fun _ _ _ _ _ hs _ _ => hs)
    ⟨⟨K1, K0⟩, Kb⟩
    (fun x => { tmps := #[.int .u64 (m : Int), undef, .string ⟨#[]⟩, .pointer (some ⟨w.heap.size + 1, 0, none⟩), .int .u8 (x.1.val : Int), .bool x.2, .slice (some ⟨w.heap.size, 0, none⟩) 0 10, .int .u64 (m : Int), .func (.func 105) #[] #[.pointer (some ⟨w.heap.size + 1 + 1, 0, none⟩)], .int .u8 (x.1.val : Int), .bool x.2, undef, undef, undef, undef, undef, undef, undef, undef, undef, undef], defers := [] }) ?assign ?body ?done ?stop
  case assign =>
    intro l x W K hK
    gi_wp2
    exact hK
  case body =>
    rintro l pre ⟨r, b⟩ W ⟨⟨h1, h2⟩, hb⟩ hlt
    have hll : (nn (pre.map sevB)).length = pre.length := by rw [nn_length, List.length_map]
    have hrow : ∀ y : Int, (W.alloc (.cells #[.int .u8 y] 5)).ownsRow w.heap.size 5 1 (.slice (some ⟨w.heap.size, 0, none⟩) pre.length 10) pre.length (ints .u8 (nn (pre.map sevB))) := fun y => by
      have := h2.alloc (.cells #[.int .u8 y] 5)
      unfold OwnB at this
      rw [hll] at this
      exact this
    have hnew : ∀ y jj u, [Value.int .u8 y][jj]? = some u → (W.alloc (.cells #[.int .u8 y] 5)).cell? ((⟨W.heap.size, 0, none⟩ : Addr).add jj) = some u := fun y jj u h => by
      rw [Addr.add_mid]
      exact (Blk.new' W 5 [Value.int .u8 y] rfl).whole jj u h
    have hone : ∀ y : Int, ∀ u ∈ [Value.int .u8 y], u.oneCell' = true := by simp [Value.oneCell']
    have c1 := h1.cell 0
    have f1 := h1.free 0
    simp only [List.getElem?_cons_zero] at c1
    have hsn : (pre ++ [(r, b)]).map sevB = pre.map sevB ++ [sevB (r, b)] := by simp
    have k1 := fun y : Int => h1.alloc (.cells #[.int .u8 y] 5)
    have h128 := or_128 r
    have HRow := Lib.hid hrow
    have HNew := Lib.hid hnew
    have HOne := Lib.hid hone
    have HLL := Lib.hid hll
    have HSN := Lib.hid hsn
    have hfit : pre.length + 1 ≤ 10 := by omega
    have K1' := Lib.hid k1
    have hrowO := hrow
    clear hrow hnew hone hll hsn k1 K1 K2 K0 Kb
    have key : ∀ (y : Nat) (w5 : World), y = sevB (r, b) → w5.ownsRow w.heap.size 5 1 (.slice (some ⟨w.heap.size, 0, none⟩) (pre.length + 1) 10) (pre.length + 1) (ints .u8 (nn (pre.map sevB)) ++ [.int .u8 (y : Int)]) → (W.alloc (.cells #[.int .u8 (y : Int)] 5)).grownBy w5 (some w.heap.size) →
        KeepsOthers W (w5.setCell ⟨w.heap.size + 1, 0, none⟩ (.slice (some ⟨w.heap.size, 0, none⟩) (pre.length + 1) 10)) ∧ (∀ o, W.heap[w.heap.size + 1 + 1]? = some o → (w5.setCell ⟨w.heap.size + 1, 0, none⟩ (.slice (some ⟨w.heap.size, 0, none⟩) (pre.length + 1) 10)).heap[w.heap.size + 1 + 1]? = some o) ∧
        (Blk (w5.setCell ⟨w.heap.size + 1, 0, none⟩ (.slice (some ⟨w.heap.size, 0, none⟩) (pre.length + 1) 10)) (w.heap.size + 1) 60 [.slice (some ⟨w.heap.size, 0, none⟩) (pre ++ [(r, b)]).length 10] ∧ OwnB (w5.setCell ⟨w.heap.size + 1, 0, none⟩ (.slice (some ⟨w.heap.size, 0, none⟩) (pre.length + 1) 10)) w.heap.size 5 (.slice (some ⟨w.heap.size, 0, none⟩) (pre ++ [(r, b)]).length 10) (nn ((pre ++ [(r, b)]).map sevB))) ∧
        Below w.heap.size w (w5.setCell ⟨w.heap.size + 1, 0, none⟩ (.slice (some ⟨w.heap.size, 0, none⟩) (pre.length + 1) 10)) := by
      intro y w5 hy hown5 hg5
      have ow : OwnB w5 w.heap.size 5 (.slice (some ⟨w.heap.size, 0, none⟩) (pre.length + 1) 10) (nn ((pre ++ [(r, b)]).map sevB)) := by
        rw [HSN.out, ← hy, nn_app]
        unfold OwnB
        rw [List.length_append, HLL.out, ints_app]
        exact hown5
      have p1 := (K1'.out (y : Int)).grown hg5 (by omega)
      have s1 := p1.set 0 (.slice (some ⟨w.heap.size, 0, none⟩) (pre.length + 1) 10)
      have hcell : ∀ (j : Nat) (o : Obj), some w.heap.size = some j → (W.alloc (.cells #[.int .u8 (y : Int)] 5)).heap[j]? = some o → o.isCells = true := by
        intro j o hj ho
        cases hj
        rcases (hrowO y).2 with ⟨hv, _⟩ | ⟨g, cap, cur, hv, _, hh, _⟩
        · cases hv
        · cases hv
          rw [hh] at ho
          cases ho
          rfl
      refine ⟨(KeepsOthers.alloc W _).trans ((KeepsOthers.of_grownBy hg5 hcell).trans (KeepsOthers.setCell w5 _ _)), fun o ho => ?_, ⟨by rw [List.length_append]; exact s1, by rw [List.length_append]; exact ow.other (by omega) _⟩, ?_⟩
      · have hlt2 := (Array.getElem?_eq_some_iff.1 ho).1
        rw [(grownBy_setCell' w5 (w.heap.size + 1) (.slice (some ⟨w.heap.size, 0, none⟩) (pre.length + 1) 10)).block (w.heap.size + 1 + 1) (by have := hg5.size; simp at this; omega) (by simp), hg5.block (w.heap.size + 1 + 1) (by simp; omega) (by simp; omega), Below.heap_alloc W _ _ hlt2]
        exact ho
      exact ((hb.alloc hb.size (.cells #[.int .u8 (y : Int)] 5)).grown hg5 (by have := hb.size; simp; omega) (fun k e => by cases e; omega)).setCell (p := ⟨w.heap.size + 1, 0, none⟩) (show w.heap.size ≤ w.heap.size + 1 by omega) _
    have Key := Lib.hid key
    clear key hrowO h1 h2 hb
    obtain ⟨i0, hi0, hz0, hz1, hz2⟩ := info_parts info_u8
    cases b with
    | true =>
      gi_wp2_with (gi_at_builtin; refine wpListIn_append_fits _ rfl _ _ 60 rfl w.heap.size 5 i0 1 Try.underlying60 hi0 hz1 w.heap.size pre.length 10 _ rfl (HRow.out _) ⟨W.heap.size, 0, none⟩ 1 1 [.int .u8 (r.val : Int)] rfl rfl (HNew.out _) (HOne.out _) hfit ?_; intro w5 hown5 hg5; have p1 := (K1'.out (r.val : Int)).grown hg5 (by omega); have pc1 := p1.cell 0; have pf1 := p1.free 0; simp only [List.getElem?_cons_zero] at pc1)
      exact Key.out r.val w5 rfl hown5 hg5
    | false =>
      gi_wp2_with (gi_at_builtin; refine wpListIn_append_fits _ rfl _ _ 60 rfl w.heap.size 5 i0 1 Try.underlying60 hi0 hz1 w.heap.size pre.length 10 _ rfl (HRow.out _) ⟨W.heap.size, 0, none⟩ 1 1 [.int .u8 ((r.val : Int) + 128)] rfl rfl (HNew.out _) (HOne.out _) hfit ?_; intro w5 hown5 hg5; have p1 := (K1'.out ((r.val : Int) + 128)).grown hg5 (by omega); have pc1 := p1.cell 0; have pf1 := p1.free 0; simp only [List.getElem?_cons_zero] at pc1)
      exact Key.out (r.val + 128) w5 rfl hown5 hg5
  case done =>
    rintro D ys W hD rfl ⟨⟨h1, h2⟩, hb⟩ hK
    have c1 := h1.cell 0
    simp only [List.getElem?_cons_zero] at c1
    clear K1 K2 K0 Kb hKb
    go_wp2_with (refine wpList_string_own rfl 60 9 5 _ rfl w.heap.size _ _ rfl Try.underlying60 Try.underlying5 Try.underlying9 h2 ?_)
    refine ⟨by simp, .inl ⟨_, _, rfl, run_takeDeferred hK, ?_⟩⟩
    exact ⟨_, results_tmp rfl _ _ _, rfl, hb.trans (belowK_b (w := w) (Nat.le_refl _) _ D _ _ (by omega) hK rfl rfl)⟩
  case stop =>
    rintro D c pre W _ _ h _
    exact h.elim
end Go.Proofs.Ytloogjdojojehaa
namespace Go.Proofs.Ytloogjdojojehaa
open Go.RowKit Go.Shelf
set_option linter.unusedVariables false

theorem acc_step (l : List Nat) (i : Nat) : bits .or .u64 ((accN l i : Nat) : Int) (IntKind.u64.wrap (((l.getD i 0 : Nat) : Int) % 128 * 2 ^ (7 * i))) = ((accN l (i + 1) : Nat) : Int) := by
  have h1 := accN_lt l i
  have h2 : l.getD i 0 % 128 * 2 ^ (7 * i) % 18446744073709551616 < 18446744073709551616 := Nat.mod_lt _ (by decide)
  have e : IntKind.u64.wrap (((l.getD i 0 : Nat) : Int) % 128 * 2 ^ (7 * i)) = ((l.getD i 0 % 128 * 2 ^ (7 * i) % 18446744073709551616 : Nat) : Int) := by rw [IntKind.wrap_u64]; simp
  rw [e, or_u64 _ _ h1 h2]
  rfl
theorem tx_nil : tx [] = ⟨#[]⟩ := rfl
set_option maxRecDepth 100000 in
set_option maxHeartbeats 1000000 in
theorem v_Get (s : ByteArray) (w : World) (hs : s.size ≤ 65536) (n k er : Nat) (r : ByteArray) (hg : getL (sl s) = (n, k, er)) (hr : tx ((sl s).drop k) = r) :
    Calls Try.prog 89 #[.string s] w fun e w' => e = .returned (.tuple #[.int .u64 (n : Int), .string r, .int .i64 (er : Int)]) ∧ Below w.heap.size w w' := by
  have HG := Lib.hid hg
  have HR := Lib.hid hr
  clear hg hr
  have hsl := sl_len s
  have hsb := sl_bys s
  have HSL := Lib.hid hsl
  have HSB := Lib.hid hsb
  clear hsl hsb
  go_enter Try.func89, Try.ntmps89
  go_wp2_with (go_at_call 81; (with_reducible refine (v_reader _ _).mono ?_); rintro e w9 ⟨rfl, rfl⟩)
  have K0 : Blk ((w.alloc (.cells #[.string s] 9)).alloc (.cells #[.int .i64 0] 3)) w.heap.size 9 [.string s] := (Blk.new' w 9 [.string s] rfl).alloc _
  have K1 : Blk ((w.alloc (.cells #[.string s] 9)).alloc (.cells #[.int .i64 0] 3)) (w.heap.size + 1) 3 [.int .i64 ((0 : Nat) : Int)] := Blk.new2 w _ 3 [.int .i64 0] rfl
  have Kb : Below w.heap.size w ((w.alloc (.cells #[.string s] 9)).alloc (.cells #[.int .i64 0] 3)) := ((Below.refl _ _).alloc (Nat.le_refl _) _).alloc (by simp) _
  generalize World.alloc (World.alloc w _) _ = w4 at *
  go_loopw [6, 12] (fun u i wr => ∃ j : Nat, j ≤ 10 ∧ j ≤ s.size ∧ i = .int .i64 (j : Int) ∧ u = .int .u64 ((accN (sl s) j : Nat) : Int) ∧ getL (sl s) = getR (sl s) (10 - j) j ∧ Blk wr w.heap.size 9 [.string s] ∧ Blk wr (w.heap.size + 1) 3 [.int .i64 (j : Int)] ∧ Below w.heap.size w wr) (fun _ i _ => 10 - (intOf i).toNat)
  case atStart => exact ⟨0, by omega, by omega, rfl, rfl, rfl, K0, K1, Kb⟩
  case round =>
    obtain ⟨j, hj, hjs, rfl, rfl, hgl, g0, g1, gb⟩ := hrel
    clear K0 K1 Kb
    have HGL := Lib.hid hgl
    clear hgl
    by_cases h10 : j < 10
    · have d10 : (j : Int) < 10 := by omega
      by_cases hjl : j = s.size
      · have hE : (0, s.size, 40) = (n, k, er) := by
          rw [← HG.out, HGL.out, show 10 - j = (10 - j - 1) + 1 by omega, get_short _ _ _ (by rw [HSL.out]; omega), HSL.out]
        have hR : r = ⟨#[]⟩ := by
          rw [← HR.out, ← tx_nil, show k = s.size by simpa using (congrArg (fun x => x.2.1) hE).symm, List.drop_eq_nil_of_le (by rw [HSL.out]; exact Nat.le_refl _)]
        obtain ⟨rfl, rfl, rfl⟩ : n = 0 ∧ k = s.size ∧ er = 40 := by simpa [eq_comm] using hE
        subst hR
        clear hE
        have HJL := Lib.hid hjl
        clear hjl
        go_wp2_with (go_at_call 92; (with_reducible refine (v_rd_none _ _ _ _ _ g1 g0 HJL.out).mono ?_); rintro e w9 ⟨rfl, rfl⟩)
        go_ret3
        exact ⟨rfl, gb⟩
      · have hlt : j < s.size := by omega
        have hacc := acc_step (sl s) j
        have hbb := HSB.out j
        have han := andNot_u8 _ hbb
        have i1 : (7 * (j : Int)).toNat = 7 * j := by omega
        have i2 : (0 : Int) ≤ 7 * (j : Int) := by omega
        have i3 : 7 * (j : Int) < 100 := by omega
        have g1' := g1.set 0 (.int .i64 ((j : Int) + 1))
        have g0' := g0.other (a := ⟨w.heap.size + 1, 0, none⟩) (show w.heap.size + 1 ≠ w.heap.size by omega) (.int .i64 ((j : Int) + 1))
        have gb' := gb.setCell (p := ⟨w.heap.size + 1, 0, none⟩) (show w.heap.size ≤ w.heap.size + 1 by omega) (.int .i64 ((j : Int) + 1))
        have HACC := Lib.hid hacc
        have hC := v_rd_some _ _ _ s wr g1 g0 (by omega) hlt (by omega)
        have HC := Lib.hid hC
        clear hacc hC
        generalize hbe : (sl s).getD j 0 = b at *
        have HB := Lib.hid hbe
        clear hbe
        by_cases h128 : b < 128
        · have d1 : decide ((128 : Int) ≤ (b : Int)) = false := by simp; omega
          have hP : ∀ wx, Calls Try.prog 68 #[.int .u64 ((accN (sl s) (j + 1) : Nat) : Int)] wx fun e w' => e = .returned (.string (tx (putL (accN (sl s) (j + 1))))) ∧ Below wx.heap.size wx w' := fun wx => v_Put _ wx (accN_lt _ _)
          have HP := Lib.hid hP
          clear hP
          have HACC' := HACC.out
          have hw : (putL (accN (sl s) (j + 1)) = (sl s).take (j + 1) ∧ ((tx (putL (accN (sl s) (j + 1)))).toList == (s.extract 0 (j + 1)).toList) = true ∧ accN (sl s) (j + 1) = n ∧ er = 0 ∧ r = s.extract (j + 1) s.size) ∨
              (((tx (putL (accN (sl s) (j + 1)))).toList == (s.extract 0 (j + 1)).toList) = false ∧ n = 0 ∧ er = 41 ∧ r = ⟨#[]⟩) := by
            by_cases hP : putL (accN (sl s) (j + 1)) = (sl s).take (j + 1)
            · have hE : (accN (sl s) (j + 1), j + 1, 0) = (n, k, er) := by
                rw [← HG.out, HGL.out, show 10 - j = (10 - (j + 1)) + 1 by omega, get_last _ _ _ (by rw [HSL.out]; exact hlt) (by rw [HB.out]; exact h128) hP]
              obtain ⟨q1, q2, q3⟩ : n = accN (sl s) (j + 1) ∧ k = j + 1 ∧ er = 0 := by simpa [eq_comm] using hE
              exact .inl ⟨hP, txt_eq (by rw [hP, head_tx]), q1.symm, q3, by rw [← HR.out, q2, tail_tx]⟩
            · have hE : (0, s.size, 41) = (n, k, er) := by
                rw [← HG.out, HGL.out, show 10 - j = (10 - (j + 1)) + 1 by omega, get_long _ _ _ (by rw [HSL.out]; exact hlt) (by rw [HB.out]; exact h128) hP, HSL.out]
              obtain ⟨q1, q2, q3⟩ : n = 0 ∧ k = s.size ∧ er = 41 := by simpa [eq_comm] using hE
              refine .inr ⟨txt_ne (fun e => hP (tx_inj (put_bys (accN_lt _ _)) ((HSB.out).take _) (e.trans (head_tx _ _)))), q1, q3, ?_⟩
              rw [← HR.out, ← tx_nil, q2, List.drop_eq_nil_of_le (by rw [HSL.out]; exact Nat.le_refl _)]
          clear HG HR HGL
          generalize accN (sl s) (j + 1) = a1 at *
          generalize accN (sl s) j = a0 at *
          generalize putL a1 = p1 at *
          generalize tx p1 = t1 at *
          have e1 : IntKind.i64.wrap ((j : Int) + 1) = (j : Int) + 1 := IntWalk.i64_in _ (by omega)
          have e2 : ((j : Int) + 1).toNat = j + 1 := by omega
          have e3 : (0 : Int) ≤ (j : Int) + 1 := by omega
          have e4 : (j : Int) + 1 ≤ (s.size : Int) := by omega
          rcases hw with ⟨_, hx, rfl, rfl, rfl⟩ | ⟨hx, rfl, rfl, rfl⟩
          all_goals
            go_wp2_with (go_at_call 92; (with_reducible refine HC.out.mono ?_); rintro e w9 ⟨rfl, rfl⟩)
            generalize World.setCell wr _ _ = w5 at *
            have hP5 : ∀ wx, NewBut w5 wx → Calls Try.prog 68 #[.int .u64 ((a1 : Nat) : Int)] wx fun e w' => e = .returned (.string t1) ∧ NewBut w5 w' := fun wx h => (HP.out wx).mono fun _ _ ⟨q1, q2⟩ => ⟨q1, h.trans (q2.mono h.size)⟩
            have HP5 := Lib.hid hP5
            clear hP5
            refine region_quiet_tail (C := NewBut w5) 6 mixed (by kernel_rfl) (show Below _ _ _ from (Below.refl _ _).drew) ?_
            simp only [List.take_succ_cons, List.take_zero, List.drop_succ_cons, List.drop_zero]
            repeat (refine wpQuiet_step (fun K' hK' => ?_); go_simp; first | (refine ⟨_, fun _ _ => rfl, hK' _ ?_⟩; clear hK' K') | ((with_reducible refine ⟨_, fun wx hx => HP5.out wx hx, hK' _ ?_⟩); clear hK' K'))
            refine wpQuiet_nil ?_
            intro w6 hb6
            go_wp2
          · refine region_drew_tail 7 mixed (by kernel_rfl) ?_
            simp only [List.take_succ_cons, List.take_zero, List.drop_succ_cons, List.drop_zero]
            repeat (first | go_big_quiet_step (fail) | quiet_step (fail))
            refine wpQuiet_nil ?_
            rintro _ ⟨nq, rfl⟩
            go_wp2
            go_ret3
            exact ⟨rfl, below_drewN (gb'.trans (hb6.mono gb'.size)) nq⟩
          · go_ret3
            exact ⟨rfl, gb'.trans (hb6.mono gb'.size)⟩
        · have d1 : decide ((128 : Int) ≤ (b : Int)) = true := by simp; omega
          go_wp2_with (go_at_call 92; (with_reducible refine HC.out.mono ?_); rintro e w9 ⟨rfl, rfl⟩)
          go_roundw
          case rel => exact ⟨j + 1, by omega, by omega, by go_num, by rw [HACC.out], by rw [HGL.out, show 10 - j = (10 - (j + 1)) + 1 by omega, get_more _ _ _ (by rw [HSL.out]; exact hlt) (by rw [HB.out]; omega)], g0', g1', gb'⟩
          case measure => simp [intOf]; omega
    · obtain rfl : j = 10 := by omega
      have hE : (0, s.size, 41) = (n, k, er) := by
        rw [← HG.out, HGL.out, Nat.sub_self, get_zero, HSL.out]
      obtain ⟨q1, q2, q3⟩ : n = 0 ∧ k = s.size ∧ er = 41 := by simpa [eq_comm] using hE
      have hR : r = ⟨#[]⟩ := by rw [← HR.out, ← tx_nil, q2, List.drop_eq_nil_of_le (by rw [HSL.out]; exact Nat.le_refl _)]
      subst hR q1 q3
      clear hE
      go_wp2
      go_ret3
      exact ⟨rfl, gb⟩
end Go.Proofs.Ytloogjdojojehaa
namespace Go.Proofs.Ytloogjdojojehaa
open Go.RowKit Go.Shelf
set_option linter.unusedVariables false
/-- what Read tells of bytes: the text, what is behind, the error -/
def readL (l : List Nat) : List Nat × List Nat × Nat :=
  if (getL l).2.2 ≠ 0 then ([], [], (getL l).2.2) else if (l.drop (getL l).2.1).length < (getL l).1 then ([], [], 40) else ((l.drop (getL l).2.1).take (getL l).1, (l.drop (getL l).2.1).drop (getL l).1, 0)

set_option maxRecDepth 100000 in
set_option maxHeartbeats 400000 in
theorem v_Text (s : ByteArray) (w : World) (hs : s.size ≤ 65536) :
    Calls Try.prog 50 #[.string s] w fun e w' => e = .returned (.string (tx (putL s.size ++ sl s))) ∧ Below w.heap.size w w' := by
  have hP := fun w => v_Put s.size w (by omega)
  have hz : (tx (putL s.size)).size ≤ 10 := by rw [tx_size]; exact put_len_le _
  have hadd : ∀ w, (Op.stringOp .add (tx (putL s.size)) s).run Try.prog w = .ok (.string (tx (putL s.size ++ sl s))) w := fun w => by
    rw [run_string_add_sum _ _ _ (by omega), tx_app, tx_sl]
  generalize tx (putL s.size ++ sl s) = z at *
  generalize tx (putL s.size) = t at *
  have HP := Lib.hid hP
  clear hP
  go_enter Try.func50, Try.ntmps50
  go_wp2_with (go_at_call 68; (with_reducible refine (HP.out _).mono ?_); rintro e w1 ⟨rfl, hb1⟩)
  go_ret
  exact ⟨rfl, hb1⟩
set_option maxRecDepth 100000 in
set_option maxHeartbeats 1000000 in
theorem v_Read (s : ByteArray) (w : World) (hs : s.size ≤ 65536) (x y : List Nat) (er : Nat) (a b : ByteArray) (h : readL (sl s) = (x, y, er)) (ha : tx x = a) (hb : tx y = b) :
    Calls Try.prog 71 #[.string s] w fun e w' => e = .returned (.tuple #[.string a, .string b, .int .i64 (er : Int)]) ∧ Below w.heap.size w w' := by
  obtain ⟨n, k, g, hg⟩ : ∃ n k g, getL (sl s) = (n, k, g) := ⟨_, _, _, rfl⟩
  have hG := fun w => v_Get s w hs n k g _ hg rfl
  have hn : n < 18446744073709551616 := by have := get_lt (sl s); rwa [hg] at this
  have hsl : sl (tx ((sl s).drop k)) = (sl s).drop k := sl_tx ((sl_bys s).drop _)
  have hrz : (tx ((sl s).drop k)).size = ((sl s).drop k).length := tx_size _
  have hrl : ((sl s).drop k).length ≤ 65536 := by rw [List.length_drop, sl_len]; omega
  unfold readL at h
  rw [hg] at h
  dsimp only at h
  generalize tx ((sl s).drop k) = r at *
  generalize (sl s).drop k = R at *
  have HG := Lib.hid hG
  have HRZ := Lib.hid hrz
  clear hG hg
  by_cases h0 : g = 0
  · subst h0
    rw [if_neg (by decide)] at h
    by_cases hlt : R.length < n
    · rw [if_pos hlt] at h
      obtain ⟨rfl, rfl, rfl⟩ : x = [] ∧ y = [] ∧ er = 40 := by simpa [eq_comm] using h
      rw [tx_nil] at ha hb
      subst ha hb
      have d1 : (r.size : Int) < (n : Int) := by rw [HRZ.out]; omega
      clear hsl hrz h
      go_enter Try.func71, Try.ntmps71
      go_wp2_with (go_at_call 89; (with_reducible refine (HG.out _).mono ?_); rintro e w1 ⟨rfl, hb1⟩)
      go_ret3
      exact ⟨rfl, hb1⟩
    · rw [if_neg hlt] at h
      obtain ⟨rfl, rfl, rfl⟩ : x = R.take n ∧ y = R.drop n ∧ er = 0 := by simpa [eq_comm] using h
      have ea : a = r.extract 0 n := by rw [← ha, head_tx, hsl]
      have eb : b = r.extract n r.size := by rw [← hb, tail_tx, hsl]
      have d1 : ¬ (r.size : Int) < (n : Int) := by rw [HRZ.out]; omega
      have d2 : (n : Int) ≤ (r.size : Int) := by omega
      have d3 : r.size ≤ 65536 := by rw [HRZ.out]; omega
      clear hsl hrz h ha hb
      subst ea eb
      go_enter Try.func71, Try.ntmps71
      go_wp2_with (go_at_call 89; (with_reducible refine (HG.out _).mono ?_); rintro e w1 ⟨rfl, hb1⟩)
      refine region_drew_tail 8 mixed (by kernel_rfl) ?_
      simp only [List.take_succ_cons, List.take_zero, List.drop_succ_cons, List.drop_zero]
      repeat (first | go_big_quiet_step (fail) | quiet_step (fail))
      refine wpQuiet_nil ?_
      rintro _ ⟨nq, rfl⟩
      go_wp2
      go_ret3
      exact ⟨rfl, below_drewN hb1 nq⟩
  · rw [if_pos h0] at h
    obtain ⟨rfl, rfl, rfl⟩ : x = [] ∧ y = [] ∧ er = g := by simpa [eq_comm] using h
    rw [tx_nil] at ha hb
    subst ha hb
    have d1 : ((er : Int) == 0) = false := by simp; omega
    have d2 : ((er : Int) != 0) = true := by simp; omega
    clear hsl hrz h
    go_enter Try.func71, Try.ntmps71
    go_wp2_with (go_at_call 89; (with_reducible refine (HG.out _).mono ?_); rintro e w1 ⟨rfl, hb1⟩)
    go_ret3
    exact ⟨rfl, hb1⟩
end Go.Proofs.Ytloogjdojojehaa
namespace Go.Proofs.Ytloogjdojojehaa
open Go.RowKit Go.Shelf
set_option linter.unusedVariables false

/-- the bytes of n in w, the last j of them filled in -/
def bigP (n w : Nat) : Nat → List Nat
  | 0 => zerN w
  | j + 1 => (bigP n w j).set (w - 1 - j) (n / 2 ^ (8 * j) % 256)
theorem bigP_len (n w : Nat) : ∀ j, (bigP n w j).length = w
  | 0 => by simp [bigP, zerN]
  | j + 1 => by simp [bigP, bigP_len n w j]
theorem bigP_getD (n w : Nat) : ∀ j, j ≤ w → ∀ i, i < w → w - j ≤ i → (bigP n w j).getD i 0 = n / 2 ^ (8 * (w - 1 - i)) % 256
  | 0, _, i, h, h2 => by omega
  | j + 1, hj, i, h, h2 => by
    show ((bigP n w j).set (w - 1 - j) (n / 2 ^ (8 * j) % 256)).getD i 0 = _
    rw [getD_set _ _ _ _ (by rw [bigP_len]; omega)]
    by_cases e : w - 1 - j = i
    · rw [if_pos e, show w - 1 - i = j by omega]
    · rw [if_neg e]
      exact bigP_getD n w j (by omega) i h (by omega)
theorem bigP_full (n w : Nat) : bigP n w w = bigL n w := getD_ext w (bigP_len _ _ _) (big_len _ _) fun i hi => by
  rw [bigP_getD n w w (Nat.le_refl _) i hi (by omega), big_getD _ _ _ hi]
theorem make_w (k : Nat) (h1 : 1 ≤ k) (h2 : k ≤ 8) (w : World) : (Instr.makeSlice 60 (.int .i64 (k : Int)) (.int .i64 (k : Int))).run Try.prog w = .ok (.slice (some ⟨w.heap.size, 0, none⟩) k k) (w.alloc (.cells (ints .u8 (nn (zerN k))).toArray 5)) := by
  rcases (show k = 1 ∨ k = 2 ∨ k = 3 ∨ k = 4 ∨ k = 5 ∨ k = 6 ∨ k = 7 ∨ k = 8 by omega) with rfl | rfl | rfl | rfl | rfl | rfl | rfl | rfl <;> kernel_rfl
theorem shr_byte (n j : Nat) : (n : Int) / 2 ^ (8 * j) % 256 = ((n / 2 ^ (8 * j) % 256 : Nat) : Int) := by simp

set_option maxRecDepth 100000 in
set_option maxHeartbeats 1000000 in
theorem v_Big (n k : Nat) (w : World) (h1 : 1 ≤ k) (h2 : k ≤ 8) (hn : n < 18446744073709551616) :
    Calls Try.prog 60 #[.int .u64 (n : Int), .int .i64 (k : Int)] w fun e w' => e = .returned (.string (tx (bigL n k))) ∧ Below w.heap.size w w' := by
  have hW := fun w => v_width_yes k w h1 h2
  have HW := Lib.hid hW
  have hmk := make_w k h1 h2
  have hfull := bigP_full n k
  obtain ⟨L, hL⟩ : ∃ L, bigL n k = L := ⟨_, rfl⟩
  rw [hL] at hfull ⊢
  have HF := Lib.hid hfull
  have k8 : (k : Int) ≤ 8 := by omega
  have k1 : (1 : Int) ≤ (k : Int) := by omega
  clear hW hfull hL
  have q0 : Blk (w.alloc (.cells (ints .u8 (nn (zerN k))).toArray 5)) w.heap.size 5 (ints .u8 (nn (bigP n k 0))) := Blk.new' _ _ _ rfl
  have qb : Below w.heap.size w (w.alloc (.cells (ints .u8 (nn (zerN k))).toArray 5)) := (Below.refl _ _).alloc (Nat.le_refl _) _
  go_enter Try.func60, Try.ntmps60
  go_wp2_with (go_at_call 79; (with_reducible refine (HW.out _).mono ?_); rintro e w1 ⟨rfl, rfl⟩)
  clear hmk
  generalize World.alloc w _ = w3 at *
  go_loopw [14] (fun i wr => ∃ j : Nat, j ≤ k ∧ i = .int .i64 (j : Int) ∧ Blk wr w.heap.size 5 (ints .u8 (nn (bigP n k j))) ∧ Below w.heap.size w wr) (fun i _ => k - (intOf i).toNat)
  case atStart => exact ⟨0, by omega, rfl, q0, qb⟩
  case round =>
    obtain ⟨j, hj, rfl, g0, gb⟩ := hrel
    clear q0 qb
    have hl := bigP_len n k j
    by_cases hlt : j < k
    · have hs : bigP n k (j + 1) = (bigP n k j).set (k - 1 - j) (n / 2 ^ (8 * j) % 256) := rfl
      have hset := g0.setNat (k - 1 - j) (n / 2 ^ (8 * j) % 256)
      rw [← hs] at hset
      have hsb := gb.setCell (p := ⟨w.heap.size, k - 1 - j, none⟩) (Nat.le_refl _) (.int .u8 ((n / 2 ^ (8 * j) % 256 : Nat) : Int))
      have c0 := g0.nat (j := k - 1 - j) (by rw [hl]; omega)
      have f0 := g0.free (k - 1 - j)
      have i1 : (8 * (j : Int)).toNat = 8 * j := by omega
      have i2 : (0 : Int) ≤ 8 * (j : Int) := by omega
      have i3 : 8 * (j : Int) < 100 := by omega
      have i4 : (0 : Int) ≤ (k : Int) - 1 - (j : Int) := by omega
      have i5 : ((k : Int) - 1 - (j : Int)).toNat = k - 1 - j := by omega
      have i6 : (k : Int) - 1 - (j : Int) < (k : Int) := by omega
      have d1 : (j : Int) < (k : Int) := by omega
      have d2 : (j : Int) < 8 := by omega
      have hv := shr_byte n j
      have HS := Lib.hid hset
      have HB := Lib.hid hsb
      clear hs hset hsb hl
      generalize n / 2 ^ (8 * j) % 256 = y at *
      generalize (bigP n k j).getD (k - 1 - j) 0 = y0 at *
      go_wp2
      go_roundw
      case rel => exact ⟨j + 1, by omega, by go_num, HS.out, HB.out⟩
      case measure => simp [intOf]; omega
    · obtain rfl : j = k := by omega
      rw [HF.out] at g0
      rw [HF.out] at hl
      have HL := Lib.hid hl
      clear hl
      go_wp2_with (refine wpList_bytes_string rfl 60 9 5 _ rfl w.heap.size j j (nn L) rfl Try.underlying60 Try.underlying5 Try.underlying9 g0.whole (by rw [nn_length, HL.out]) ?_)
      go_ret
      exact ⟨rfl, gb⟩
theorem v_Big_no (n : Int) (k : Int) (w : World) (h : k < 1 ∨ 8 < k) :
    Calls Try.prog 60 #[.int .u64 n, .int .i64 k] w fun e w' => e = .returned (.string ⟨#[]⟩) ∧ Below w.heap.size w w' := by
  have hW := fun w => v_width_no k w h
  have HW := Lib.hid hW
  clear hW h
  go_enter Try.func60, Try.ntmps60
  go_wp2_with (go_at_call 79; (with_reducible refine (HW.out _).mono ?_); rintro e w1 ⟨rfl, rfl⟩)
  go_ret
  exact ⟨rfl, Below.refl _ _⟩
theorem v_Fixed_no (s : ByteArray) (k : Int) (w : World) (h : k < 1 ∨ 8 < k) :
    Calls Try.prog 62 #[.string s, .int .i64 k] w fun e w' => e = .returned (.tuple #[.int .u64 0, .string ⟨#[]⟩, .int .i64 1]) ∧ Below w.heap.size w w' := by
  have hW := fun w => v_width_no k w h
  have HW := Lib.hid hW
  clear hW h
  go_enter Try.func62, Try.ntmps62
  go_wp2_with (go_at_call 79; (with_reducible refine (HW.out _).mono ?_); rintro e w1 ⟨rfl, rfl⟩)
  go_ret3
  exact ⟨rfl, Below.refl _ _⟩
end Go.Proofs.Ytloogjdojojehaa
namespace Go.Proofs.Ytloogjdojojehaa
open Go.RowKit Go.Shelf
set_option linter.unusedVariables false

theorem fix_step (F b : Nat) (hF : F < 72057594037927936) (hb : b < 256) : bits .or .u64 ((F : Int) * 256) (b : Int) = ((F * 256 + b : Nat) : Int) := by
  have e : (F : Int) * 256 = ((F * 256 : Nat) : Int) := by omega
  rw [e, or_u64 _ _ (by omega) (by omega), Nat.or_comm, Nat.add_comm]
  exact congrArg _ (or_add b F 8 hb)
theorem fix_small {l : List Nat} (h : Bys l) (j : Nat) (hj : j < 8) : fixN l j < 72057594037927936 := by
  have h1 := fix_lt h j
  have h2 : (2 : Nat) ^ (8 * j) ≤ 2 ^ 56 := Nat.pow_le_pow_right (by decide) (by omega)
  have h3 : (2 : Nat) ^ 56 = 72057594037927936 := by decide
  omega
set_option maxRecDepth 100000 in
set_option maxHeartbeats 1000000 in
theorem v_Fixed (s : ByteArray) (k : Nat) (w : World) (h1 : 1 ≤ k) (h2 : k ≤ 8) (hs : s.size ≤ 65536) (n er : Nat) (r : ByteArray)
    (hw : (k ≤ s.size ∧ fixN (sl s) k = n ∧ s.extract k s.size = r ∧ er = 0) ∨ (s.size < k ∧ n = 0 ∧ r = ⟨#[]⟩ ∧ er = 40)) :
    Calls Try.prog 62 #[.string s, .int .i64 (k : Int)] w fun e w' => e = .returned (.tuple #[.int .u64 (n : Int), .string r, .int .i64 (er : Int)]) ∧ Below w.heap.size w w' := by
  have hW := fun w => v_width_yes k w h1 h2
  have HWd := Lib.hid hW
  have HW := Lib.hid hw
  have HSB := Lib.hid (sl_bys s)
  have k8 : (k : Int) ≤ 8 := by omega
  have k1 : (1 : Int) ≤ (k : Int) := by omega
  clear hW hw
  go_enter Try.func62, Try.ntmps62
  go_wp2_with (first | (go_at_call 79; (with_reducible refine (HWd.out _).mono ?_); rintro e w1 ⟨rfl, rfl⟩) | (go_at_call 81; (with_reducible refine (v_reader _ _).mono ?_); rintro e w9 ⟨rfl, rfl⟩))
  have K0 : Blk ((w.alloc (.cells #[.string s] 9)).alloc (.cells #[.int .i64 0] 3)) w.heap.size 9 [.string s] := (Blk.new' w 9 [.string s] rfl).alloc _
  have K1 : Blk ((w.alloc (.cells #[.string s] 9)).alloc (.cells #[.int .i64 0] 3)) (w.heap.size + 1) 3 [.int .i64 ((0 : Nat) : Int)] := Blk.new2 w _ 3 [.int .i64 0] rfl
  have Kb : Below w.heap.size w ((w.alloc (.cells #[.string s] 9)).alloc (.cells #[.int .i64 0] 3)) := ((Below.refl _ _).alloc (Nat.le_refl _) _).alloc (by simp) _
  generalize World.alloc (World.alloc w _) _ = w4 at *
  go_loopw [8, 17] (fun u i wr => ∃ j : Nat, j ≤ k ∧ j ≤ s.size ∧ i = .int .i64 (j : Int) ∧ u = .int .u64 ((fixN (sl s) j : Nat) : Int) ∧ Blk wr w.heap.size 9 [.string s] ∧ Blk wr (w.heap.size + 1) 3 [.int .i64 (j : Int)] ∧ Below w.heap.size w wr) (fun _ i _ => 8 - (intOf i).toNat)
  case atStart => exact ⟨0, by omega, by omega, rfl, rfl, K0, K1, Kb⟩
  case round =>
    obtain ⟨j, hj, hjs, rfl, rfl, g0, g1, gb⟩ := hrel
    clear K0 K1 Kb
    by_cases hlt : j < k
    · have d1 : (j : Int) < (k : Int) := by omega
      by_cases hjl : j = s.size
      · obtain ⟨q1, rfl, rfl, rfl⟩ : s.size < k ∧ n = 0 ∧ r = ⟨#[]⟩ ∧ er = 40 := by
          rcases HW.out with ⟨q, _⟩ | q
          · omega
          · exact q
        have HJL := Lib.hid hjl
        clear hjl
        go_wp2_with (go_at_call 92; (with_reducible refine (v_rd_none _ _ _ _ _ g1 g0 HJL.out).mono ?_); rintro e w9 ⟨rfl, rfl⟩)
        go_ret3
        exact ⟨rfl, gb⟩
      · have hst := fix_step (fixN (sl s) j) ((sl s).getD j 0) (fix_small HSB.out j (by omega)) (HSB.out j)
        have hfs := fix_small HSB.out j (by omega)
        have hbb := HSB.out j
        rw [show fixN (sl s) j * 256 + (sl s).getD j 0 = fixN (sl s) (j + 1) from rfl] at hst
        have g1' := g1.set 0 (.int .i64 ((j : Int) + 1))
        have g0' := g0.other (a := ⟨w.heap.size + 1, 0, none⟩) (show w.heap.size + 1 ≠ w.heap.size by omega) (.int .i64 ((j : Int) + 1))
        have gb' := gb.setCell (p := ⟨w.heap.size + 1, 0, none⟩) (show w.heap.size ≤ w.heap.size + 1 by omega) (.int .i64 ((j : Int) + 1))
        have hC := v_rd_some _ _ _ s wr g1 g0 (by omega) (by omega) (by omega)
        have HC := Lib.hid hC
        clear hC
        generalize hF1 : fixN (sl s) (j + 1) = F1 at *
        have HF1 := Lib.hid hF1
        clear hF1
        generalize fixN (sl s) j = F0 at *
        generalize (sl s).getD j 0 = b at *
        go_wp2_with (go_at_call 92; (with_reducible refine HC.out.mono ?_); rintro e w9 ⟨rfl, rfl⟩)
        go_roundw
        case rel => exact ⟨j + 1, by omega, by omega, by go_num, by rw [HF1.out], g0', g1', gb'⟩
        case measure => simp [intOf]; omega
    · obtain rfl : j = k := by omega
      obtain ⟨q1, rfl, rfl, rfl⟩ : j ≤ s.size ∧ fixN (sl s) j = n ∧ s.extract j s.size = r ∧ er = 0 := by
        rcases HW.out with q | ⟨q, _⟩
        · exact q
        · omega
      have d3 : (j : Int) ≤ (s.size : Int) := by omega
      clear HW
      go_wp2
      refine region_drew_tail 6 mixed (by kernel_rfl) ?_
      simp only [List.take_succ_cons, List.take_zero, List.drop_succ_cons, List.drop_zero]
      repeat (first | go_big_quiet_step (fail) | quiet_step (fail))
      refine wpQuiet_nil ?_
      rintro _ ⟨nq, rfl⟩
      go_wp2
      go_ret3
      exact ⟨rfl, below_drewN gb nq⟩
end Go.Proofs.Ytloogjdojojehaa
