/- Words counted by their lengths: how many there are, the first one of each length, which one bits are, by plain numbers. -/
import Derived.Test.YtpjihjbgihionaaN1
import Derived.Test.YtpjihjbgihionaaPA
import Derived.Test.YtpjihjbgihionaaPD
import Derived.Test.YtpjihjbgihionaaJ1
import Derived.WalkMore
namespace Go.Proofs.Ytpjihjbgihionaa
set_option linter.unusedVariables false

/-- how many of the first i are n -/
def rankN (L : List Nat) (n i : Nat) : Nat := ((L.take i).filter fun x => x == n).length
def cntN (L : List Nat) (n : Nat) : Nat := if n = 0 then 0 else rankN L n L.length
def cntL (L : List Nat) : List Nat := (List.range 16).map (cntN L)
theorem cntL_len (L : List Nat) : (cntL L).length = 16 := by simp [cntL]
theorem cntL_getD {L : List Nat} {n : Nat} (h : n < 16) : (cntL L).getD n 0 = cntN L n := map_range_getD _ _ _ h
theorem rankN_zero (L : List Nat) (n : Nat) : rankN L n 0 = 0 := by simp [rankN]
theorem rankN_step (L : List Nat) (n i : Nat) (h : i < L.length) : rankN L n (i + 1) = rankN L n i + if L.getD i 0 = n then 1 else 0 := by
  unfold rankN
  rw [take_snoc L i h, List.filter_append, List.length_append]
  by_cases e : L.getD i 0 = n
  · rw [if_pos e, List.filter_cons_of_pos (by simpa using e)]; rfl
  · rw [if_neg e, List.filter_cons_of_neg (by simpa using e)]; rfl
theorem rankN_le (L : List Nat) (n i : Nat) : rankN L n i ≤ i := by
  unfold rankN
  refine Nat.le_trans (List.length_filter_le _ _) ?_
  rw [List.length_take]
  omega
theorem rankN_mono (L : List Nat) (n : Nat) {i j : Nat} (h : i ≤ j) : rankN L n i ≤ rankN L n j := by
  unfold rankN
  refine List.Sublist.length_le ?_
  refine List.Sublist.filter _ ?_
  exact List.take_sublist_take_left h
theorem rankN_take (L : List Nat) (n i j : Nat) (h : i ≤ j) : rankN (L.take j) n i = rankN L n i := by
  unfold rankN
  rw [List.take_take, Nat.min_eq_left h]
theorem cntN_le (L : List Nat) (n : Nat) : cntN L n ≤ L.length := by
  unfold cntN
  split
  · omega
  · exact rankN_le _ _ _
theorem cntL_step (L : List Nat) (j : Nat) (hj : j < L.length) (h15 : L.getD j 0 ≤ 15) : cntL (L.take (j + 1)) = if L.getD j 0 = 0 then cntL (L.take j) else (cntL (L.take j)).set (L.getD j 0) ((cntL (L.take j)).getD (L.getD j 0) 0 + 1) := by
  have key : ∀ n, n ≠ 0 → cntN (L.take (j + 1)) n = cntN (L.take j) n + if L.getD j 0 = n then 1 else 0 := fun n hn => by
    unfold cntN
    rw [if_neg hn, if_neg hn]
    have l1 : (L.take (j + 1)).length = j + 1 := by rw [List.length_take]; omega
    have l2 : (L.take j).length = j := by rw [List.length_take]; omega
    rw [l1, l2, rankN_take _ _ _ _ (Nat.le_refl _), rankN_take _ _ _ _ (Nat.le_refl _), rankN_step _ _ _ hj]
  by_cases h0 : L.getD j 0 = 0
  · rw [if_pos h0]
    refine getD_ext 16 (cntL_len _) (cntL_len _) fun n hn => ?_
    rw [cntL_getD hn, cntL_getD hn]
    by_cases e : n = 0
    · subst e; rfl
    · rw [key n e, if_neg (by omega), Nat.add_zero]
  · rw [if_neg h0]
    refine getD_ext 16 (cntL_len _) (by rw [List.length_set, cntL_len]) fun n hn => ?_
    have hb : L.getD j 0 < 16 := by omega
    rw [getD_set _ _ _ _ (by rw [cntL_len]; exact hb), cntL_getD hn, cntL_getD hb, cntL_getD hn]
    by_cases e : n = 0
    · subst e; rw [if_neg h0]; rfl
    · rw [key n e]
      by_cases e2 : L.getD j 0 = n
      · rw [if_pos e2, if_pos e2, e2]
      · rw [if_neg e2, if_neg e2, Nat.add_zero]
theorem cntL_nil : cntL [] = zerN 16 := by decide
theorem posW_rank (L : List Nat) {n : Nat} (hn : 0 < n) : ∀ {i : Nat}, i ≤ L.length → posW L n i = posW L n 0 + rankN L n i * 2 ^ (15 - n)
  | 0, _ => by rw [rankN_zero]; omega
  | i + 1, h => by
    rw [posW_step L hn h, posW_rank L hn (i := i) (by omega), rankN_step L n i h]
    split
    · rw [Nat.add_mul]; omega
    · rfl
/-- the first word of a length -/
def fstN (L : List Nat) (n : Nat) : Nat := posW L n 0 / 2 ^ (15 - n)
theorem posW_zero (L : List Nat) (i : Nat) : posW L 0 i = 0 := sumW_none fun j _ h => by
  have h0 : L.getD j 0 = 0 := by have := of_decide_eq_true h; omega
  unfold wgtL wgt
  rw [h0]
  rfl
theorem fstN_zero (L : List Nat) : fstN L 0 = 0 := by unfold fstN; rw [posW_zero, Nat.zero_div]
theorem posW_cnt (L : List Nat) (n : Nat) : posW L (n + 1) 0 = posW L n 0 + cntN L n * 2 ^ (15 - n) := by
  rw [← posW_next]
  unfold cntN
  by_cases h : n = 0
  · subst h; rw [if_pos rfl, posW_zero, posW_zero, Nat.zero_mul]
  · rw [if_neg h, posW_rank L (by omega) (Nat.le_refl _)]
theorem fstN_mul (L : List Nat) {n : Nat} (h : n ≤ 15) : fstN L n * 2 ^ (15 - n) = posW L n 0 := Nat.div_mul_cancel (posW_dvd L 0 h)
theorem fstN_step (L : List Nat) {n : Nat} (h : n < 15) : fstN L (n + 1) = (fstN L n + cntN L n) * 2 := by
  have h1 := fstN_mul L (n := n) (by omega)
  have h2 := fstN_mul L (n := n + 1) (by omega)
  have h3 := posW_cnt L n
  have e : 2 ^ (15 - n) = 2 * 2 ^ (15 - (n + 1)) := by rw [← Nat.pow_succ']; congr 1; omega
  have hp := Nat.two_pow_pos (15 - (n + 1))
  rw [← h1, ← h2, e] at h3
  refine Nat.eq_of_mul_eq_mul_right hp ?_
  rw [h3, ← Nat.add_mul, Nat.mul_assoc]
def fstL (L : List Nat) : List Nat := (List.range 16).map (fstN L)
theorem fstL_len (L : List Nat) : (fstL L).length = 16 := by simp [fstL]
theorem fstL_getD {L : List Nat} {n : Nat} (h : n < 16) : (fstL L).getD n 0 = fstN L n := map_range_getD _ _ _ h
theorem fstN_le (L : List Nat) : ∀ {n : Nat}, n ≤ 15 → fstN L n ≤ L.length * (2 ^ (n + 1) - 2)
  | 0, _ => by rw [fstN_zero]; omega
  | n + 1, h => by
    rw [fstN_step L (by omega)]
    have h1 := fstN_le L (n := n) (by omega)
    have h2 := cntN_le L n
    have e : 2 ^ (n + 1 + 1) - 2 = 2 * (2 ^ (n + 1) - 2) + 2 := by
      have := Nat.pow_succ 2 (n + 1)
      have hp : 2 ≤ 2 ^ (n + 1) := by
        have := Nat.pow_le_pow_right (show 0 < 2 by decide) (show 1 ≤ n + 1 by omega)
        simpa using this
      omega
    rw [e, Nat.mul_add, ← Nat.mul_assoc, Nat.mul_comm L.length 2, Nat.mul_assoc]
    omega
/-- the next word of length n, ahead of symbol i -/
def nextN (L : List Nat) (n i : Nat) : Nat := posW L n i / 2 ^ (15 - n)
theorem nextN_zero (L : List Nat) (n : Nat) : nextN L n 0 = fstN L n := rfl
theorem nextN_step (L : List Nat) {n i : Nat} (hn : 0 < n) (h : i < L.length) : nextN L n (i + 1) = nextN L n i + if L.getD i 0 = n then 1 else 0 := by
  unfold nextN
  rw [posW_step L hn h]
  split
  · rw [Nat.add_div_right _ (Nat.two_pow_pos _)]
  · rfl
theorem nextN_rank (L : List Nat) {n i : Nat} (hn : 0 < n) (h : i ≤ L.length) : nextN L n i = fstN L n + rankN L n i := by
  unfold nextN fstN
  rw [posW_rank L hn h, Nat.add_mul_div_right _ _ (Nat.two_pow_pos _)]
theorem nextN_none (L : List Nat) (i : Nat) : nextN L 0 i = 0 := by unfold nextN; rw [posW_zero, Nat.zero_div]
theorem nextN_next (L : List Nat) {n : Nat} (h : n < 15) : nextN L (n + 1) 0 = nextN L n L.length * 2 := by
  rw [nextN_zero, fstN_step L h]
  by_cases hn : n = 0
  · subst hn
    rw [nextN_none, fstN_zero]
    rfl
  · rw [nextN_rank L (by omega) (Nat.le_refl _)]
    unfold cntN
    rw [if_neg hn]
theorem wordW_next (L : List Nat) (i : Nat) : wordW L i = nextN L (L.getD i 0) i := rfl
def nextLn (L : List Nat) (i : Nat) : List Nat := (List.range 16).map fun n => nextN L n i
theorem nextLn_len (L : List Nat) (i : Nat) : (nextLn L i).length = 16 := by simp [nextLn]
theorem nextL_getD {L : List Nat} {n i : Nat} (h : n < 16) : (nextLn L i).getD n 0 = nextN L n i := map_range_getD _ _ _ h
theorem nextLn_zero (L : List Nat) : nextLn L 0 = fstL L := rfl
theorem nextL_step (L : List Nat) {i : Nat} (h : i < L.length) (h15 : L.getD i 0 ≤ 15) : nextLn L (i + 1) = if L.getD i 0 = 0 then nextLn L i else (nextLn L i).set (L.getD i 0) ((nextLn L i).getD (L.getD i 0) 0 + 1) := by
  by_cases h0 : L.getD i 0 = 0
  · rw [if_pos h0]
    refine getD_ext 16 (nextLn_len _ _) (nextLn_len _ _) fun n hn => ?_
    rw [nextL_getD hn, nextL_getD hn]
    by_cases e : n = 0
    · subst e; rw [nextN_none, nextN_none]
    · rw [nextN_step L (by omega) h, if_neg (by omega), Nat.add_zero]
  · rw [if_neg h0]
    refine getD_ext 16 (nextLn_len _ _) (by rw [List.length_set, nextLn_len]) fun n hn => ?_
    rw [getD_set _ _ _ _ (by rw [nextLn_len]; omega), nextL_getD hn, nextL_getD (by omega), nextL_getD hn]
    by_cases e : n = 0
    · subst e; rw [nextN_none, if_neg h0, nextN_none]
    · rw [nextN_step L (by omega) h]
      by_cases e2 : L.getD i 0 = n
      · rw [if_pos e2, if_pos e2, e2]
      · rw [if_neg e2, if_neg e2, Nat.add_zero]
theorem posW_all {L : List Nat} (h : ∀ i, L.getD i 0 ≤ 15) : posW L 16 0 = kraftW L := sumW_congr fun j hj => by
  have := h j
  exact decide_eq_true (by omega)
/-! ### words turned round -/
theorem accB_head (b : Nat → Nat) : ∀ m, accB b (m + 1) = b 0 + 2 * accB (fun j => b (j + 1)) m
  | 0 => by simp [accB]
  | m + 1 => by
    have ih := accB_head b m
    have e1 : accB b (m + 1 + 1) = accB b (m + 1) + b (m + 1) * 2 ^ (m + 1) := rfl
    have e2 : accB (fun j => b (j + 1)) (m + 1) = accB (fun j => b (j + 1)) m + b (m + 1) * 2 ^ m := rfl
    rw [e1, ih, e2, Nat.pow_succ, Nat.mul_add, ← Nat.mul_assoc, Nat.mul_comm (b (m + 1) * 2 ^ m) 2]
    omega
theorem revN_succ (v t : Nat) : revN v (t + 1) = revN v t * 2 + v / 2 ^ t % 2 := by
  unfold revN
  rw [accB_head]
  have e : accB (fun j => v / 2 ^ (t + 1 - 1 - (j + 1)) % 2) t = accB (fun j => v / 2 ^ (t - 1 - j) % 2) t := accB_congr fun j hj => by
    rw [show t + 1 - 1 - (j + 1) = t - 1 - j by omega]
  rw [e, show t + 1 - 1 - 0 = t by omega]
  omega
theorem revN_zero (v : Nat) : revN v 0 = 0 := rfl
/-- what is 0 from bit t on -/
theorem revN_low {v t : Nat} (h : v / 2 ^ t = 0) : ∀ d, revN v (t + d) = revN v t * 2 ^ d
  | 0 => by simp
  | d + 1 => by
    rw [← Nat.add_assoc, revN_succ, revN_low h d, Nat.pow_add, ← Nat.div_div_eq_div_mul, h, Nat.zero_div, Nat.pow_succ, Nat.mul_assoc]
    omega
/-- turned twice -/
theorem revN_twice {v n : Nat} (h : v < 2 ^ n) : revN (revN v n) n = v := by
  conv => rhs; rw [← accB_bits v h]
  conv => lhs; unfold revN
  refine accB_congr fun j hj => ?_
  have := revN_bit (v := v) (n := n) (i := n - 1 - j) (by omega)
  rw [show n - 1 - (n - 1 - j) = j by omega] at this
  exact this
end Go.Proofs.Ytpjihjbgihionaa
namespace Go.Proofs.Ytpjihjbgihionaa
set_option linter.unusedVariables false

/-- how many words are as long as w, or longer -/
def lgN (L : List Nat) (w : Nat) : Nat := (L.filter fun x => decide (w ≤ x)).length
theorem lgN_split (L : List Nat) (w : Nat) : lgN L w = (L.filter fun x => x == w).length + lgN L (w + 1) := by
  unfold lgN
  induction L with
  | nil => rfl
  | cons x L ih =>
    rcases Nat.lt_trichotomy x w with h | h | h
    · rw [List.filter_cons_of_neg (by simp; omega), List.filter_cons_of_neg (by simp; omega), List.filter_cons_of_neg (by simp; omega)]
      exact ih
    · rw [List.filter_cons_of_pos (by simp; omega), List.filter_cons_of_pos (by simp; omega), List.filter_cons_of_neg (by simp; omega)]
      simp only [List.length_cons]
      omega
    · rw [List.filter_cons_of_pos (by simp; omega), List.filter_cons_of_neg (by simp; omega), List.filter_cons_of_pos (by simp; omega)]
      simp only [List.length_cons]
      omega
theorem cntN_filter (L : List Nat) {n : Nat} (h : 0 < n) : cntN L n = (L.filter fun x => x == n).length := by
  unfold cntN rankN
  rw [if_neg (by omega), List.take_length]
theorem lgN_cnt (L : List Nat) {w : Nat} (h : 0 < w) : lgN L w = cntN L w + lgN L (w + 1) := by rw [cntN_filter L h]; exact lgN_split L w
theorem lgN_pos {L : List Nat} {w : Nat} : 0 < lgN L w ↔ ∃ i, i < L.length ∧ w ≤ L.getD i 0 := by
  unfold lgN
  constructor
  · intro h
    obtain ⟨x, hx⟩ := List.exists_mem_of_length_pos h
    obtain ⟨h1, h2⟩ := List.mem_filter.1 hx
    obtain ⟨i, hi, rfl⟩ := mem_getD h1
    exact ⟨i, hi, of_decide_eq_true h2⟩
  · rintro ⟨i, hi, h⟩
    exact List.length_pos_of_mem (List.mem_filter.2 ⟨getD_mem L i hi, decide_eq_true h⟩)
theorem lgN_le (L : List Nat) (w : Nat) : lgN L w ≤ L.length := List.length_filter_le _ _
theorem lgN_end {L : List Nat} (h : ∀ i, L.getD i 0 ≤ 15) : lgN L 16 = 0 := by
  rcases Nat.eq_zero_or_pos (lgN L 16) with e | e
  · exact e
  · obtain ⟨i, _, h2⟩ := lgN_pos.1 e
    have := h i
    omega
/-- the sum of what is counted below j -/
def allK (L : List Nat) : Nat → Nat | 0 => 0 | j + 1 => allK L j + cntN L j
theorem allK_lg (L : List Nat) : ∀ j, allK L (j + 1) + lgN L (j + 1) = lgN L 1
  | 0 => by
    show 0 + cntN L 0 + lgN L 1 = _
    have : cntN L 0 = 0 := rfl
    omega
  | j + 1 => by
    have ih := allK_lg L j
    have h1 := lgN_cnt L (w := j + 1) (by omega)
    show allK L (j + 1) + cntN L (j + 1) + lgN L (j + 1 + 1) = _
    omega
theorem allK_all {L : List Nat} (h : ∀ i, L.getD i 0 ≤ 15) : allK L 16 = lgN L 1 := by
  have := allK_lg L 15
  rw [lgN_end h] at this
  exact this
theorem allK_le (L : List Nat) (j : Nat) : allK L j ≤ L.length := by
  cases j with
  | zero => exact Nat.zero_le _
  | succ j =>
    have := allK_lg L j
    have := lgN_le L 1
    omega
theorem posW_low (L : List Nat) : ∀ d, d ≤ 14 → posW L (d + 2) 0 + lgN L (d + 2) * 2 ^ 13 ≤ posW L 2 0 + lgN L 2 * 2 ^ 13
  | 0, _ => Nat.le_refl _
  | d + 1, h => by
    have ih := posW_low L d (by omega)
    have h1 := posW_cnt L (d + 2)
    have h2 := lgN_cnt L (w := d + 2) (by omega)
    have h3 : 2 ^ (15 - (d + 2)) ≤ 2 ^ 13 := Nat.pow_le_pow_right (by decide) (by omega)
    have h4 := Nat.mul_le_mul_left (cntN L (d + 2)) h3
    rw [h2, Nat.add_mul] at ih
    rw [show d + 1 + 2 = d + 2 + 1 by omega, h1]
    omega
theorem posW_high (L : List Nat) (h : lgN L 2 = 0) : ∀ d, posW L (d + 2) 0 = posW L 2 0
  | 0 => rfl
  | d + 1 => by
    have ih := posW_high L h d
    have h1 := posW_cnt L (d + 2)
    have hz : lgN L (d + 2) = 0 := by
      rcases Nat.eq_zero_or_pos (lgN L (d + 2)) with e | e
      · exact e
      · obtain ⟨i, hi, h2⟩ := lgN_pos.1 e
        have := lgN_pos.2 ⟨i, hi, show 2 ≤ L.getD i 0 by omega⟩
        omega
    have h2 := lgN_cnt L (w := d + 2) (by omega)
    have h3 : cntN L (d + 2) = 0 := by omega
    rw [show d + 1 + 2 = d + 2 + 1 by omega, h1, h3, ih]
    omega
/-- one word of one bit: by counts, or by the sum -/
theorem single_iff {L : List Nat} (h15 : ∀ i, L.getD i 0 ≤ 15) : (cntN L 1 = 1 ∧ lgN L 1 = 1) ↔ (lgN L 1 = 1 ∧ kraftW L = 16384) := by
  have hp := posW_all h15
  have h1 : posW L 2 0 = posW L 1 0 + cntN L 1 * 2 ^ (15 - 1) := posW_cnt L 1
  rw [posW_one] at h1
  have h2 : lgN L 1 = cntN L 1 + lgN L 2 := lgN_cnt L (w := 1) (by omega)
  constructor
  · rintro ⟨a, b⟩
    refine ⟨b, ?_⟩
    have := posW_high L (by omega) 14
    rw [← hp, this, h1, a]
  · rintro ⟨a, b⟩
    refine ⟨?_, a⟩
    rcases Nat.lt_or_ge 0 (cntN L 1) with h | h
    · omega
    · have h0 : cntN L 1 = 0 := by omega
      have := posW_low L 14 (by omega)
      rw [hp, b, h1, h0] at this
      have h3 : lgN L 2 = 1 := by omega
      rw [h3] at this
      omega
/-! ### which one it is -/
/-- the first w bits from p on, as a word -/
def VN (s : List Nat) (p : Nat) : Nat → Nat | 0 => 0 | w + 1 => VN s p w * 2 + bitAt s (p + w)
theorem VN_lt (s : List Nat) (p : Nat) : ∀ w, VN s p w < 2 ^ w
  | 0 => by simp [VN]
  | w + 1 => by
    have := VN_lt s p w
    have := bitAt_lt s (p + w)
    rw [VN, Nat.pow_succ]
    omega
theorem VN_div (s : List Nat) (p a : Nat) : ∀ b, VN s p (a + b) / 2 ^ b = VN s p a
  | 0 => by simp
  | b + 1 => by
    have := bitAt_lt s (p + (a + b))
    rw [← Nat.add_assoc, VN, Nat.pow_succ, Nat.mul_comm (2 ^ b) 2, ← Nat.div_div_eq_div_mul, show (VN s p (a + b) * 2 + bitAt s (p + (a + b))) / 2 = VN s p (a + b) by omega]
    exact VN_div s p a b
theorem VN_rev (s : List Nat) (p w : Nat) : revN (VN s p w) w = numB s p w := by
  unfold revN numB
  refine accB_congr fun j hj => ?_
  have h := VN_div s p (j + 1) (w - 1 - j)
  rw [show j + 1 + (w - 1 - j) = w by omega] at h
  rw [h, VN]
  have := bitAt_lt s (p + j)
  omega
theorem wordW_fst (L : List Nat) {i : Nat} (hi : i < L.length) (h0 : 0 < L.getD i 0) : wordW L i = fstN L (L.getD i 0) + rankN L (L.getD i 0) i := by
  rw [wordW_next, nextN_rank L h0 (by omega)]
theorem rank_lt (L : List Nat) {i : Nat} (hi : i < L.length) (h0 : 0 < L.getD i 0) : rankN L (L.getD i 0) i < cntN L (L.getD i 0) := by
  unfold cntN
  rw [if_neg (by omega)]
  have h1 := rankN_step L (L.getD i 0) i hi
  rw [if_pos rfl] at h1
  have := rankN_mono L (L.getD i 0) (show i + 1 ≤ L.length by omega)
  omega
/-- the symbol of a rank -/
theorem rank_some (L : List Nat) {n r : Nat} : ∀ {m : Nat}, m ≤ L.length → r < rankN L n m → ∃ i, i < m ∧ L.getD i 0 = n ∧ rankN L n i = r
  | 0, _, h => by rw [rankN_zero] at h; omega
  | m + 1, hm, h => by
    rw [rankN_step L n m (by omega)] at h
    rcases Nat.lt_or_ge r (rankN L n m) with h' | h'
    · obtain ⟨i, h1, h2, h3⟩ := rank_some L (m := m) (by omega) h'
      exact ⟨i, by omega, h2, h3⟩
    · split at h
      · rename_i e
        exact ⟨m, by omega, e, by omega⟩
      · omega
/-- a hit -/
theorem told_hit {L s : List Nat} {p : Nat} (h15 : ∀ i, L.getD i 0 ≤ 15) (hK : kraftW L ≤ 2 ^ 15) {i w d : Nat} (hi : i < L.length) (hw : 0 < w) (h1 : L.getD i 0 = w) (h2 : wordW L i = VN s p w) (hs : p + w ≤ 8 * s.length) : toldW L s p (d + 1) w = (i, 0, p + w) := by
  have hc : codeW L i = numB s p w := by unfold codeW; rw [h1, h2, VN_rev]
  unfold toldW
  rw [if_neg (by omega), hitW_some (i := i) hi h1 hc (fun k hk k1 k2 => codeW_inj L hi hk (by omega) (by rw [k1, h1]) (h15 i) hK (by rw [k2, hc]))]
theorem no_hit {L s : List Nat} {p : Nat} (h15 : ∀ i, L.getD i 0 ≤ 15) (hK : kraftW L ≤ 2 ^ 15) {w : Nat} (hw : 0 < w) (h : fstN L w + cntN L w ≤ VN s p w) : hitW L (numB s p w) w = none := by
  refine hitW_none fun k hk k1 k2 => ?_
  have h1 := wordW_fst L hk (by omega)
  have h2 := rank_lt L hk (by omega)
  have h3 := wordW_lt L hk (by omega) (h15 k) hK
  rw [k1] at h1 h2 h3
  have h4 : revN (wordW L k) w = revN (VN s p w) w := by
    rw [VN_rev, ← k2]
    unfold codeW
    rw [k1]
  have := revN_inj h3 (VN_lt s p w) h4
  omega
theorem no_more {L : List Nat} {w : Nat} (h : lgN L (w + 1) = 0) (n : Nat) : moreW L n w = false := by
  unfold moreW
  rw [List.any_eq_false]
  intro i hi
  rw [List.mem_range] at hi
  have : ¬ w < L.getD i 0 := fun h' => by
    have := lgN_pos.2 ⟨i, hi, show w + 1 ≤ L.getD i 0 by omega⟩
    omega
  rw [decide_eq_false this]
  simp
/-- whose place a number is -/
theorem findW {L : List Nat} (h15 : ∀ i, L.getD i 0 ≤ 15) {x : Nat} (hx : x < kraftW L) : ∀ d n, n + d = 16 → 0 < n → posW L n 0 ≤ x → ∃ i, i < L.length ∧ n ≤ L.getD i 0 ∧ posW L (L.getD i 0) i ≤ x ∧ x < posW L (L.getD i 0) i + 2 ^ (15 - L.getD i 0)
  | 0, n, hn, h0, h1 => by
    have : n = 16 := by omega
    subst this
    rw [posW_all h15] at h1
    omega
  | d + 1, n, hn, h0, h1 => by
    rcases Nat.lt_or_ge x (posW L (n + 1) 0) with h | h
    · have key : ∀ m, m ≤ L.length → x < posW L n m → ∃ i, i < m ∧ L.getD i 0 = n ∧ posW L n i ≤ x ∧ x < posW L n (i + 1) := by
        intro m
        induction m with
        | zero => intro _ h'; omega
        | succ m ih =>
          intro hm h'
          rcases Nat.lt_or_ge x (posW L n m) with h2 | h2
          · obtain ⟨i, q1, q2⟩ := ih (by omega) h2
            exact ⟨i, by omega, q2⟩
          · refine ⟨m, by omega, ?_, h2, h'⟩
            have := posW_step L h0 (i := m) (by omega)
            by_cases e : L.getD m 0 = n
            · exact e
            · rw [if_neg e] at this; omega
      rw [← posW_next] at h
      obtain ⟨i, q1, q2, q3, q4⟩ := key L.length (Nat.le_refl _) h
      have := posW_step L h0 (i := i) q1
      rw [if_pos q2] at this
      refine ⟨i, q1, by omega, ?_, ?_⟩
      · rw [q2]; exact q3
      · rw [q2]; omega
    · obtain ⟨i, q1, q2, q3⟩ := findW h15 hx d (n + 1) (by omega) (by omega) h
      exact ⟨i, q1, by omega, q3⟩
/-- in a whole code more comes wherever no word was hit -/
theorem more_whole {L s : List Nat} {p : Nat} (h15 : ∀ i, L.getD i 0 ≤ 15) (hW : kraftW L = 2 ^ 15) {w : Nat} (hw : 0 < w) (hw15 : w ≤ 15) (h : fstN L w + cntN L w ≤ VN s p w) : moreW L (numB s p w) w = true ∧ 0 < lgN L (w + 1) := by
  have hv := VN_lt s p w
  have e15 : 2 ^ 15 = 2 ^ w * 2 ^ (15 - w) := by rw [← Nat.pow_add]; congr 1; omega
  have hP := Nat.two_pow_pos (15 - w)
  have hx : VN s p w * 2 ^ (15 - w) < kraftW L := by rw [hW, e15]; exact Nat.mul_lt_mul_of_pos_right hv hP
  have hlow : posW L (w + 1) 0 ≤ VN s p w * 2 ^ (15 - w) := by
    rw [posW_cnt, ← fstN_mul L hw15, ← Nat.add_mul]
    exact Nat.mul_le_mul_right _ h
  obtain ⟨i, q1, q2, q3, q4⟩ := findW h15 hx (15 - w) (w + 1) (by omega) (by omega) hlow
  refine ⟨?_, lgN_pos.2 ⟨i, q1, q2⟩⟩
  have hpw := wordW_pos L (h15 i)
  have hp2 := Nat.two_pow_pos (15 - L.getD i 0)
  have e : 2 ^ (15 - w) = 2 ^ (L.getD i 0 - w) * 2 ^ (15 - L.getD i 0) := by
    have := h15 i
    rw [← Nat.pow_add]; congr 1; omega
  rw [← hpw] at q3 q4
  rw [e, ← Nat.mul_assoc] at q3 q4
  have h1 : wordW L i ≤ VN s p w * 2 ^ (L.getD i 0 - w) := Nat.le_of_mul_le_mul_right q3 hp2
  have h2 : VN s p w * 2 ^ (L.getD i 0 - w) < wordW L i + 1 := by
    refine Nat.lt_of_mul_lt_mul_right (a := 2 ^ (15 - L.getD i 0)) ?_
    rw [Nat.add_mul, Nat.one_mul]
    exact q4
  have h3 : wordW L i = VN s p w * 2 ^ (L.getD i 0 - w) := by omega
  unfold moreW
  rw [List.any_eq_true]
  refine ⟨i, List.mem_range.2 q1, ?_⟩
  rw [Bool.and_eq_true, decide_eq_true_eq, beq_iff_eq]
  refine ⟨by omega, ?_⟩
  unfold codeW
  rw [revN_mod (by omega), h3, Nat.mul_div_cancel _ (Nat.two_pow_pos _), VN_rev]
/-- lengths of a code -/
def RightN (L : List Nat) : Prop := L.length ≤ 300 ∧ (∀ i, L.getD i 0 ≤ 15) ∧ (kraftW L = 2 ^ 15 ∨ (cntN L 1 = 1 ∧ lgN L 1 = 1))
theorem RightN.le {L : List Nat} (h : RightN L) : kraftW L ≤ 2 ^ 15 := by
  obtain ⟨_, h15, h | h⟩ := h
  · omega
  · rw [((single_iff h15).1 h).2]; decide
/-- where no word was hit: the same by what is told, and by counts -/
theorem RightN.miss {L s : List Nat} {p w d : Nat} (h : RightN L) (hw : 0 < w) (hw15 : w ≤ 15) (hv : fstN L w + cntN L w ≤ VN s p w) (hs : p + w ≤ 8 * s.length) :
    (0 < lgN L (w + 1) ∧ w < 15 ∧ toldW L s p (d + 1) w = toldW L s p d (w + 1)) ∨ (lgN L (w + 1) = 0 ∧ toldW L s p (d + 1) w = (0, 70, p + w)) := by
  have hn := no_hit h.2.1 h.le hw hv
  have key : toldW L s p (d + 1) w = if moreW L (numB s p w) w then toldW L s p d (w + 1) else (0, 70, p + w) := by
    conv => lhs; unfold toldW
    rw [if_neg (by omega), hn]
  rw [key]
  rcases h.2.2 with hW | ⟨h1, h2⟩
  · obtain ⟨q1, q2⟩ := more_whole h.2.1 hW hw hw15 hv
    refine .inl ⟨q2, ?_, by rw [if_pos q1]⟩
    obtain ⟨i, _, hi⟩ := lgN_pos.1 q2
    have := h.2.1 i
    omega
  · have h3 : lgN L (w + 1) = 0 := by
      have h4 := lgN_cnt L (w := 1) (by omega)
      rcases Nat.eq_zero_or_pos (lgN L (w + 1)) with e | e
      · exact e
      · obtain ⟨i, hi, h5⟩ := lgN_pos.1 e
        have := lgN_pos.2 ⟨i, hi, show 1 + 1 ≤ L.getD i 0 by omega⟩
        omega
    exact .inr ⟨h3, by rw [no_more h3]; rfl⟩
end Go.Proofs.Ytpjihjbgihionaa
namespace Go.Proofs.Ytpjihjbgihionaa
open Go.RowKit
set_option linter.unusedVariables false

/-- the length of a word, or 0 -/
noncomputable def clN (x : Int) : Nat := if 1 ≤ x ∧ x ≤ 15 then x.toNat else 0
theorem clN_le (x : Int) : clN x ≤ 15 := by unfold clN; split <;> omega
noncomputable def clL (l : List Int) : List Nat := l.map clN
theorem clL_len (l : List Int) : (clL l).length = l.length := by simp [clL]
theorem clL_getD (l : List Int) (j : Nat) : (clL l).getD j 0 = clN (l.getD j 0) := by
  unfold clL
  rw [List.getD_eq_getElem?_getD, List.getD_eq_getElem?_getD, List.getElem?_map]
  cases l[j]? <;> rfl
theorem clL_le (l : List Int) (i : Nat) : (clL l).getD i 0 ≤ 15 := by rw [clL_getD]; exact clN_le _
theorem clL_nn {L : List Nat} (h : ∀ i, L.getD i 0 ≤ 15) : clL (nn L) = L := by
  refine getD_ext L.length (by rw [clL_len, nn_length]) rfl fun j hj => ?_
  rw [clL_getD, nn_getD]
  have := h j
  unfold clN
  split <;> omega
theorem alloc_cnts (w : World) : (Instr.alloc 109 true (.tuple #[])).run Try.prog w = .ok (.pointer (some ⟨w.heap.size, 0, none⟩)) (w.alloc (.cells (ints .i64 (nn (zerN 16))).toArray 109)) := by kernel_rfl
theorem size_cnts : (Try.prog.info? 109).map (·.size) = some 16 := by kernel_rfl
theorem ints16 {c : List Nat} (h : c.length = 16) : (Try.prog.info? 109).map (·.size) = some (ints .i64 (nn c)).length := by rw [size_cnts, ints_length, nn_length, h]
set_option maxRecDepth 100000 in
set_option maxHeartbeats 1000000 in
theorem p_count (l : List Int) (p : Option Addr) (cap : Nat) (w : World) (hl : l.length ≤ 1000000) (hS : Sl w 1 (.slice p l.length cap) (rowsI l)) :
    Calls Try.prog 65 #[.slice p l.length cap] w fun e w' => e = .returned (.agg (ints .i64 (nn (cntL (clL l)))).toArray) ∧ Below w.heap.size w w' := by
  have HS := Lib.hid hS
  have K0 := (Blk.new' w 109 (ints .i64 (nn (zerN 16))) rfl).alloc (.cells (ints .i64 (nn (zerN 16))).toArray 109)
  have K1 := Blk.new2 w (.cells (ints .i64 (nn (zerN 16))).toArray 109) 109 (ints .i64 (nn (zerN 16))) rfl
  have Kb := ((Below.refl w.heap.size w).alloc (Nat.le_refl _) (.cells (ints .i64 (nn (zerN 16))).toArray 109)).alloc (by simp) (.cells (ints .i64 (nn (zerN 16))).toArray 109)
  clear hS
  go_enter Try.func65, Try.ntmps65
  go_wp2_with (first | (refine wpList_alloc_n rfl 109 rfl w.heap.size rfl _ (alloc_cnts _) ?_) | (refine wpList_alloc_n rfl 109 rfl (w.heap.size + 1) (by simp) _ (alloc_cnts _) ?_))
  generalize World.alloc (World.alloc w _) _ = w2 at *
  have K0 := Lib.hid K0
  have K1 := Lib.hid K1
  have Kb := Lib.hid Kb
  go_wp2_with fail
  go_loopw [8] (fun i wr => ∃ j : Nat, j ≤ l.length ∧ i = .int .i64 (j : Int) ∧ Blk wr (w.heap.size + 1) 109 (ints .i64 (nn (cntL ((clL l).take j)))) ∧ Blk wr w.heap.size 109 (ints .i64 (nn (zerN 16))) ∧ Below w.heap.size w wr) (fun i _ => l.length - (intOf i).toNat)
  case atStart => exact ⟨0, by omega, rfl, by rw [List.take_zero, cntL_nil]; exact K1.out, K0.out, Kb.out⟩
  case round =>
    obtain ⟨j, hj, rfl, gB, gA, gb⟩ := hrel
    clear K0 K1 Kb
    by_cases hlt : j < l.length
    · have d1 : (j : Int) < (l.length : Int) := by omega
      obtain ⟨a, rfl, hc⟩ := SlI.cell (HS.out.below gb) hlt
      have hst := cntL_step (clL l) j (by rw [clL_len]; exact hlt) (clL_le l j)
      rw [clL_getD] at hst
      have hle := cntN_le ((clL l).take j)
      have hlen := cntL_len ((clL l).take j)
      have htl : ((clL l).take j).length ≤ 1000000 := by rw [List.length_take, clL_len]; omega
      obtain ⟨x, hx⟩ : ∃ x, l.getD j 0 = x := ⟨_, rfl⟩
      rw [hx] at hc hst
      by_cases h0 : x = 0
      · subst h0
        have hz : clN 0 = 0 := by unfold clN; rw [if_neg (by omega)]
        rw [hz, if_pos rfl] at hst
        rw [← hst] at gB
        have e1 : ((0 : Int) != 0) = false := rfl
        clear hst hx hz hle hlen htl
        go_wp2
        go_roundw
        case rel => exact ⟨j + 1, by omega, by go_num, gB, gA, gb⟩
        case measure => (simp [intOf]; try omega)
      · have e1 : (x != 0) = true := by rw [bne_iff_ne]; exact h0
        by_cases hv : NoLen x
        · have hz : clN x = 0 := by unfold NoLen at hv; unfold clN; rw [if_neg (by omega)]
          rw [hz, if_pos rfl] at hst
          rw [← hst] at gB
          have hC := p_noLen x true wr (.inl ⟨rfl, hv⟩)
          have HC := Lib.hid hC
          clear hst hx hz hle hlen htl hC hv h0
          go_wp2_with fail
          (with_reducible refine HC.out.mono ?_)
          rintro e w9 ⟨rfl, rfl⟩
          go_wp2
          go_roundw
          case rel => exact ⟨j + 1, by omega, by go_num, gB, gA, gb⟩
          case measure => (simp [intOf]; try omega)
        · have hC := p_noLen x false wr (.inr ⟨rfl, hv⟩)
          have HC := Lib.hid hC
          have hx1 : 1 ≤ x ∧ x ≤ 15 := by unfold NoLen at hv; omega
          obtain ⟨k, rfl⟩ : ∃ k : Nat, x = (k : Int) := ⟨x.toNat, by omega⟩
          have hz : clN (k : Int) = k := by unfold clN; rw [if_pos hx1]; omega
          rw [hz, if_neg (by omega)] at hst
          have hck := hle k
          rw [← cntL_getD (L := (clL l).take j) (n := k) (by omega)] at hck
          have c1 := gB.nat (j := k) (by rw [hlen]; omega)
          have f1 := gB.free k
          obtain ⟨c, hcc⟩ : ∃ c, (cntL ((clL l).take j)).getD k 0 = c := ⟨_, rfl⟩
          rw [hcc] at hck c1 hst
          have i1 : (k : Int) < 16 := by omega
          have i2 : (c : Int) ≤ 1000000 := by omega
          have T := gB.setNat k (c + 1)
          rw [← hst] at T
          have ec : ((c + 1 : Nat) : Int) = (c : Int) + 1 := by simp
          rw [ec] at T
          have T := Lib.hid T
          have GA := gA.other (a := ⟨w.heap.size + 1, k, none⟩) (by simp) (.int .i64 ((c : Int) + 1))
          have GB := gb.setCell (p := ⟨w.heap.size + 1, k, none⟩) (show w.heap.size ≤ w.heap.size + 1 by omega) (.int .i64 ((c : Int) + 1))
          have GA := Lib.hid GA
          have GB := Lib.hid GB
          clear hst hx hz hle hlen htl hC hv h0 gB gA gb hcc ec hck
          go_wp2_with fail
          (with_reducible refine HC.out.mono ?_)
          rintro e w9 ⟨rfl, rfl⟩
          go_wp2
          go_roundw
          case rel => exact ⟨j + 1, by omega, by go_num, T.out, GA.out, GB.out⟩
          case measure => (simp [intOf]; try omega)
    · obtain rfl : j = l.length := by omega
      have hall : (clL l).take l.length = clL l := List.take_of_length_le (by rw [clL_len]; exact Nat.le_refl _)
      rw [hall] at gB
      have hlen := cntL_len (clL l)
      obtain ⟨c, hc⟩ : ∃ c, cntL (clL l) = c := ⟨_, rfl⟩
      have HCC := Lib.hid hc
      rw [hc] at gB hlen
      have T := gA.row (ints .i64 (nn c)) (by rw [ints_length, ints_length, nn_length, nn_length, hlen, zerN_len])
      have GB := below_setRow gb (b := w.heap.size) (Nat.le_refl _) (ints .i64 (nn c)).toArray
      have T := Lib.hid T
      have GB := Lib.hid GB
      have HL := Lib.hid hlen
      clear hall hc hlen
      go_wp2_with (first | (refine wpList_load_blk rfl 109 _ rfl (w.heap.size + 1) rfl gB Try.underlying109 rfl (ints16 HL.out) ?_) | (refine wpList_store_blk rfl 109 _ _ rfl w.heap.size (ints .i64 (nn c)) rfl rfl gA (ints16 HL.out) (by rw [ints_length, ints_length, nn_length, nn_length, HL.out, zerN_len]) (ints_one _ _) ?_))
      refine bodyPost_ret (results_cell_blk rfl _ _ w.heap.size rfl T.out Try.underlying109 rfl (ints16 HL.out)) rfl ⟨by rw [HCC.out], GB.out⟩
theorem sumW_bound {g : Nat → Nat} {p : Nat → Bool} {B : Nat} (h : ∀ j, g j ≤ B) : ∀ m, sumW g p m ≤ m * B
  | 0 => by simp [sumW]
  | m + 1 => by
    have := sumW_bound (g := g) (p := p) h m
    have := h m
    rw [sumW, Nat.add_mul]
    split <;> omega
theorem wgtL_le (L : List Nat) (j : Nat) : wgtL L j ≤ 16384 := by
  unfold wgtL wgt
  split
  · omega
  · have : 2 ^ (15 - L.getD j 0) ≤ 2 ^ 14 := Nat.pow_le_pow_right (by decide) (by omega)
    omega
theorem posW_bound (L : List Nat) (n i : Nat) : posW L n i ≤ L.length * 16384 := sumW_bound (wgtL_le L) _
theorem index_cnts {c : List Nat} (hc : c.length = 16) (j : Nat) (hj : j < 16) (w : World) : (Instr.index 109 (.agg (ints .i64 (nn c)).toArray) (.int .i64 (j : Int))).run Try.prog w = .ok (.int .i64 ((c.getD j 0 : Nat) : Int)) w := by
  have := run_index_ints (P := Try.prog) 109 3 16 .i64 .i64 (nn c) j Try.underlying109 ⟨_, Try.underlying3, rfl⟩ (by kernel_rfl) (by rw [nn_length, hc]) hj w
  rw [nn_getD] at this
  exact this
set_option maxRecDepth 100000 in
set_option maxHeartbeats 1000000 in
theorem p_Kraft (l : List Int) (p : Option Addr) (cap : Nat) (w : World) (hl : l.length ≤ 310) (hS : Sl w 1 (.slice p l.length cap) (rowsI l)) :
    Calls Try.prog 85 #[.slice p l.length cap] w fun e w' => e = .returned (.int .i64 ((kraftW (clL l) : Nat) : Int)) ∧ Below w.heap.size w w' := by
  have hC := p_count l p cap w (by omega) hS
  have hk := posW_all (clL_le l)
  have hst := posW_cnt (clL l)
  have hbd := fun n => posW_bound (clL l) n 0
  rw [clL_len] at hbd
  have hcl := fun j => cntN_le (clL l) j
  rw [clL_len] at hcl
  have hix := fun (j : Nat) (hj : j < 16) (w : World) => index_cnts (cntL_len (clL l)) j hj w
  have hg := fun (j : Nat) (hj : j < 16) => cntL_getD (L := clL l) hj
  have HK := Lib.hid hk
  have HST := Lib.hid hst
  have HBD := Lib.hid hbd
  have HCL := Lib.hid hcl
  have HIX := Lib.hid hix
  have HG := Lib.hid hg
  have HC := Lib.hid hC
  clear hC hk hst hbd hcl hix hg hS
  go_enter Try.func85, Try.ntmps85
  go_wp2_with fail
  (with_reducible refine HC.out.mono ?_)
  rintro e w1 ⟨rfl, hb1⟩
  clear HC
  generalize hcc : cntL (clL l) = c at *
  have HCC := Lib.hid hcc
  clear hcc
  go_wp2_with fail
  go_loop [3, 8] (fun u i => ∃ j : Nat, j ≤ 16 ∧ i = .int .i64 (j : Int) ∧ u = .int .i64 ((posW (clL l) j 0 : Nat) : Int)) (fun _ i => 16 - (intOf i).toNat)
  case atStart => exact ⟨0, by omega, rfl, by rw [posW_zero]; rfl⟩
  case round =>
    obtain ⟨j, hj, rfl, rfl⟩ := hrel
    by_cases hlt : j < 16
    · have d1 : (j : Int) < 16 := by omega
      have hx := HIX.out j hlt
      have hgj := HG.out j hlt
      have hs := HST.out j
      have b1 := HBD.out j
      have b2 := HBD.out (j + 1)
      have b3 := HCL.out j
      rw [hgj] at hx
      generalize hp0 : posW (clL l) j 0 = s0 at *
      generalize hp1 : posW (clL l) (j + 1) 0 = s1 at *
      have HP1 := Lib.hid hp1
      obtain ⟨k, hk⟩ : ∃ k, 15 - j = k := ⟨_, rfl⟩
      rw [hk] at hs
      obtain ⟨y, hy⟩ : ∃ y, cntN (clL l) j = y := ⟨_, rfl⟩
      rw [hy] at hx hs b3
      obtain ⟨sh, hsh⟩ : ∃ sh, y * 2 ^ k = sh := ⟨_, rfl⟩
      rw [hsh] at hs
      have e1 : (15 : Int) - (j : Int) = (k : Int) := by omega
      have i2 : (k : Int).toNat = k := by omega
      have i3 : (0 : Int) ≤ (k : Int) := by omega
      have i4 : (k : Int) ≤ 15 := by omega
      have hs1 : (y : Int) * 2 ^ k = (sh : Int) := by rw [← hsh]; simp
      have hs2 : IntKind.i64.wrap (sh : Int) = (sh : Int) := IntWalk.i64_in _ (by omega)
      have i5 : (s0 : Int) ≤ 6000000 := by omega
      have i6 : (sh : Int) ≤ 6000000 := by omega
      have HS := Lib.hid hs
      clear hs hsh hk hp0 hp1 hgj b1 b2 b3 hy
      go_wp2
      go_round
      case rel => exact ⟨j + 1, by omega, by go_num, by rw [HP1.out, HS.out]; first | rfl | go_num⟩
      case measure => (simp [intOf]; try omega)
    · obtain rfl : j = 16 := by omega
      rw [HK.out]
      go_wp2
      go_ret
      exact ⟨rfl, hb1⟩
set_option maxRecDepth 100000 in
set_option maxHeartbeats 1000000 in
theorem p_all (L : List Nat) (w : World) (hl : L.length ≤ 310) (h15 : ∀ i, L.getD i 0 ≤ 15) :
    Calls Try.prog 86 #[.agg (ints .i64 (nn (cntL L))).toArray] w fun e w' => e = .returned (.int .i64 ((lgN L 1 : Nat) : Int)) ∧ Below w.heap.size w w' := by
  have hk := allK_all h15
  have hbd := fun n => allK_le L n
  have hcl := fun j => cntN_le L j
  have hlen := cntL_len L
  have hix := fun (j : Nat) (hj : j < 16) (w : World) => index_cnts (cntL_len L) j hj w
  have hg := fun (j : Nat) (hj : j < 16) => cntL_getD (L := L) hj
  have K0 := Blk.new' w 109 (ints .i64 (nn (cntL L))) rfl
  have Kb := (Below.refl w.heap.size w).alloc (Nat.le_refl _) (.cells (ints .i64 (nn (cntL L))).toArray 109)
  have HK := Lib.hid hk
  have HBD := Lib.hid hbd
  have HCL := Lib.hid hcl
  have HIX := Lib.hid hix
  have HG := Lib.hid hg
  have HLEN := Lib.hid hlen
  have K0 := Lib.hid K0
  have Kb := Lib.hid Kb
  clear hk hbd hcl hix hg hlen
  generalize hcc : cntL L = c at *
  have HCC := Lib.hid hcc
  clear hcc
  go_enter Try.func86, Try.ntmps86
  go_wp2_with (refine wpList_load_blk rfl 109 _ rfl w.heap.size rfl K0.out Try.underlying109 rfl (ints16 HLEN.out) ?_)
  generalize World.alloc w _ = w1 at *
  go_wp2_with fail
  go_loop [3, 7] (fun u i => ∃ j : Nat, j ≤ 16 ∧ i = .int .i64 (j : Int) ∧ u = .int .i64 ((allK L j : Nat) : Int)) (fun _ i => 16 - (intOf i).toNat)
  case atStart => exact ⟨0, by omega, rfl, rfl⟩
  case round =>
    obtain ⟨j, hj, rfl, rfl⟩ := hrel
    by_cases hlt : j < 16
    · have d1 : (j : Int) < 16 := by omega
      have hx := HIX.out j hlt
      have hgj := HG.out j hlt
      have b1 := HBD.out j
      have b3 := HCL.out j
      rw [hgj] at hx
      have hs : allK L (j + 1) = allK L j + cntN L j := rfl
      generalize hp0 : allK L j = s0 at *
      generalize hp1 : allK L (j + 1) = s1 at *
      have HP1 := Lib.hid hp1
      obtain ⟨y, hy⟩ : ∃ y, cntN L j = y := ⟨_, rfl⟩
      rw [hy] at hx hs b3
      have i5 : (s0 : Int) ≤ 6000000 := by omega
      have i6 : (y : Int) ≤ 6000000 := by omega
      have HS := Lib.hid hs
      clear hs hp0 hp1 hgj b1 b3 hy
      go_wp2
      go_round
      case rel => exact ⟨j + 1, by omega, by go_num, by rw [HP1.out, HS.out]; first | rfl | go_num⟩
      case measure => (simp [intOf]; try omega)
    · obtain rfl : j = 16 := by omega
      rw [HK.out]
      go_wp2
      go_ret
      exact ⟨rfl, Kb.out⟩
/-- the first words of the lengths below k -/
def fstP (L : List Nat) (k : Nat) : List Nat := (List.range 16).map fun n => if n < k then fstN L n else 0
theorem fstP_len (L : List Nat) (k : Nat) : (fstP L k).length = 16 := by simp [fstP]
theorem fstP_getD {L : List Nat} {k n : Nat} (h : n < 16) : (fstP L k).getD n 0 = if n < k then fstN L n else 0 := map_range_getD _ _ _ h
theorem fstP_one (L : List Nat) : fstP L 1 = zerN 16 := by
  refine getD_ext 16 (fstP_len _ _) (zerN_len _) fun n hn => ?_
  rw [fstP_getD hn, zerN_getD]
  split
  · rw [show n = 0 by omega, fstN_zero]
  · rfl
theorem fstP_step (L : List Nat) (k : Nat) (h : k < 16) : (fstP L k).set k (fstN L k) = fstP L (k + 1) := by
  refine getD_ext 16 (by rw [List.length_set, fstP_len]) (fstP_len _ _) fun n hn => ?_
  rw [getD_set _ _ _ _ (by rw [fstP_len]; exact h), fstP_getD hn, fstP_getD hn]
  by_cases e : k = n
  · subst e; rw [if_pos rfl, if_pos (by omega)]
  · rw [if_neg e]
    by_cases h' : n < k
    · rw [if_pos h', if_pos (by omega)]
    · rw [if_neg h', if_neg (by omega)]
theorem fstP_all (L : List Nat) : fstP L 16 = fstL L := by
  refine getD_ext 16 (fstP_len _ _) (fstL_len _) fun n hn => ?_
  rw [fstP_getD hn, fstL_getD hn, if_pos hn]
set_option maxRecDepth 100000 in
set_option maxHeartbeats 2000000 in
theorem p_firsts (L : List Nat) (w : World) (hl : L.length ≤ 310) :
    Calls Try.prog 66 #[.agg (ints .i64 (nn (cntL L))).toArray] w fun e w' => e = .returned (.agg (ints .i64 (nn (fstL L))).toArray) ∧ Below w.heap.size w w' := by
  have hlen := cntL_len L
  have hg := fun (j : Nat) (hj : j < 16) => cntL_getD (L := L) hj
  obtain ⟨w1, hw1⟩ : ∃ w1, ((w.alloc (.cells (ints .i64 (nn (cntL L))).toArray 109)).alloc (.cells (ints .i64 (nn (zerN 16))).toArray 109)).alloc (.cells (ints .i64 (nn (zerN 16))).toArray 109) = w1 := ⟨_, rfl⟩
  have K0 : Blk w1 w.heap.size 109 (ints .i64 (nn (cntL L))) := by rw [← hw1]; exact ((Blk.new' w 109 (ints .i64 (nn (cntL L))) rfl).alloc _).alloc _
  have K1 : Blk w1 (w.heap.size + 1) 109 (ints .i64 (nn (zerN 16))) := by rw [← hw1]; exact (Blk.new2 w _ 109 (ints .i64 (nn (zerN 16))) rfl).alloc _
  have K2 : Blk w1 (w.heap.size + 1 + 1) 109 (ints .i64 (nn (zerN 16))) := by rw [← hw1]; exact Blk.newAt _ _ (by simp) 109 (ints .i64 (nn (zerN 16))) rfl
  have Kb : Below w.heap.size w w1 := by rw [← hw1]; exact (((Below.refl w.heap.size w).alloc (Nat.le_refl _) _).alloc (by simp) _).alloc (by simp; omega) _
  have hst := fun (n : Nat) (h : n < 15) => fstN_step L h
  have hcl := fun j => cntN_le L j
  have hfl := fun (n : Nat) (h : n ≤ 15) => fstN_le L h
  have HLEN := Lib.hid hlen
  have HG := Lib.hid hg
  have HST := Lib.hid hst
  have HCL := Lib.hid hcl
  have HFL := Lib.hid hfl
  have HK0 := Lib.hid K0
  have HK1 := Lib.hid K1
  have HK2 := Lib.hid K2
  have HKb := Lib.hid Kb
  have HW1 := Lib.hid hw1
  generalize hcc : cntL L = c at *
  have HCC := Lib.hid hcc
  have z1 : (w.alloc (.cells (ints .i64 (nn c)).toArray 109)).heap.size = w.heap.size + 1 := by simp
  have z2 : ((w.alloc (.cells (ints .i64 (nn c)).toArray 109)).alloc (.cells (ints .i64 (nn (zerN 16))).toArray 109)).heap.size = w.heap.size + 1 + 1 := by simp
  have Z1 := Lib.hid z1
  have Z2 := Lib.hid z2
  clear z1 z2
  clear hlen hg hst hcl hfl K0 K1 K2 Kb hcc
  go_enter Try.func66, Try.ntmps66
  go_wp2_with (first | (refine wpList_alloc_n rfl 109 rfl (w.heap.size + 1) Z1.out _ (alloc_cnts _) ?_) | (refine wpList_alloc_n rfl 109 rfl (w.heap.size + 1 + 1) Z2.out _ (alloc_cnts _) ?_))
  first | rw [hw1] | skip
  clear hw1 HW1 Z1 Z2
  go_wp2_with fail
  go_loopw [4] (fun i wr => ∃ j : Nat, 1 ≤ j ∧ j ≤ 16 ∧ i = .int .i64 (j : Int) ∧ Blk wr (w.heap.size + 1 + 1) 109 (ints .i64 (nn (fstP L j))) ∧ Blk wr (w.heap.size + 1) 109 (ints .i64 (nn (zerN 16))) ∧ Blk wr w.heap.size 109 (ints .i64 (nn c)) ∧ Below w.heap.size w wr) (fun i _ => 16 - (intOf i).toNat)
  case atStart => exact ⟨1, by omega, by omega, rfl, by rw [fstP_one]; exact HK2.out, HK1.out, HK0.out, HKb.out⟩
  case round =>
    obtain ⟨j, hj1, hj, rfl, gF, gA, gC, gb⟩ := hrel
    clear HK0 HK1 HK2 HKb
    by_cases hlt : j < 16
    · obtain ⟨k, rfl⟩ : ∃ k, j = k + 1 := ⟨j - 1, by omega⟩
      have c1 := gF.nat (j := k) (by rw [fstP_len]; omega)
      rw [fstP_getD (by omega), if_pos (by omega)] at c1
      have c2 := gC.nat (j := k) (by rw [HLEN.out]; omega)
      rw [HG.out k (by omega)] at c2
      have c3 := gF.nat (j := k + 1) (by rw [fstP_len]; omega)
      have f3 := gF.free (k + 1)
      have hs := HST.out k (by omega)
      have b1 := HFL.out k (by omega)
      have b2 := HCL.out k
      have b3 : 2 ^ (k + 1) - 2 ≤ 32766 := by
        have : 2 ^ (k + 1) ≤ 2 ^ 15 := Nat.pow_le_pow_right (by decide) (by omega)
        omega
      have b4 := Nat.mul_le_mul hl b3
      have T := gF.setNat (k + 1) (fstN L (k + 1))
      rw [fstP_step L (k + 1) (by omega)] at T
      have GA := gA.other (a := ⟨w.heap.size + 1 + 1, k + 1, none⟩) (by simp) (.int .i64 ((fstN L (k + 1) : Nat) : Int))
      have GC := gC.other (a := ⟨w.heap.size + 1 + 1, k + 1, none⟩) (show w.heap.size + 1 + 1 ≠ w.heap.size by omega) (.int .i64 ((fstN L (k + 1) : Nat) : Int))
      have GB := gb.setCell (p := ⟨w.heap.size + 1 + 1, k + 1, none⟩) (show w.heap.size ≤ w.heap.size + 1 + 1 by omega) (.int .i64 ((fstN L (k + 1) : Nat) : Int))
      obtain ⟨x, hx⟩ : ∃ x, fstN L k = x := ⟨_, rfl⟩
      obtain ⟨y, hy⟩ : ∃ y, cntN L k = y := ⟨_, rfl⟩
      rw [hx] at c1 b1
      rw [hy] at c2 b2
      rw [hx, hy] at hs
      rw [hs] at T GA GC GB
      have hTQ : (((x + y) * 2 : Nat) : Int) = ((x : Int) + (y : Int)) * 2 := by simp
      rw [hTQ] at T GA GC GB
      have i1 : (x : Int) ≤ 12000000 := by have := Nat.le_trans b1 (Nat.le_trans b4 (show 310 * 32766 ≤ 12000000 by decide)); omega
      have i2 : (y : Int) ≤ 310 := by omega
      have ec : ((k + 1 : Nat) : Int) = (k : Int) + 1 := by simp
      obtain ⟨q, hq⟩ : ∃ q, k + 1 = q := ⟨_, rfl⟩
      have e1 : ((k : Int) + 1).toNat = q := by omega
      have i3 : (k : Int) + 1 < 16 := by omega
      have w1 : IntKind.i64.wrap ((k : Int) + 1) = (k : Int) + 1 := IntWalk.i64_in _ (by omega)
      have w2 : IntKind.i64.wrap (k : Int) = (k : Int) := IntWalk.i64_in _ (by omega)
      have w3 : IntKind.i64.wrap ((x : Int) + (y : Int)) = (x : Int) + (y : Int) := IntWalk.i64_in _ (by omega)
      have w4 : IntKind.i64.wrap (((x : Int) + (y : Int)) * 2) = ((x : Int) + (y : Int)) * 2 := IntWalk.i64_in _ (by omega)
      rw [ec]
      rw [hq] at c3 f3
      rw [hq] at T GA GC GB
      have T := Lib.hid T.drew
      have GA := Lib.hid GA.drew
      have GC := Lib.hid GC.drew
      have GB := Lib.hid GB.drew
      have HQ := Lib.hid hq
      clear hs b1 b2 b3 b4 hx hy gF gA gC gb ec hTQ hq
      go_wp2_with fail
      go_big_region
      all_goals go_wp2
      go_roundw
      case rel => exact ⟨q + 1, by omega, by omega, by rw [← HQ.out]; first | rfl | go_num | (congr 1; omega), T.out, GA.out, GC.out, GB.out⟩
      case measure => (simp [intOf]; try omega)
    · obtain rfl : j = 16 := by omega
      rw [fstP_all] at gF
      have hfl := fstL_len L
      obtain ⟨d, hd⟩ : ∃ d, fstL L = d := ⟨_, rfl⟩
      have HD := Lib.hid hd
      rw [hd] at gF hfl
      have T := gA.row (ints .i64 (nn d)) (by rw [ints_length, ints_length, nn_length, nn_length, hfl, zerN_len])
      have GB := below_setRow gb (b := w.heap.size + 1) (by omega) (ints .i64 (nn d)).toArray
      have T := Lib.hid T
      have GB := Lib.hid GB
      have HL := Lib.hid hfl
      clear hd hfl
      go_wp2_with (first | (refine wpList_load_blk rfl 109 _ rfl (w.heap.size + 1 + 1) rfl gF Try.underlying109 rfl (ints16 HL.out) ?_) | (refine wpList_store_blk rfl 109 _ _ rfl (w.heap.size + 1) (ints .i64 (nn d)) rfl rfl gA (ints16 HL.out) (by rw [ints_length, ints_length, nn_length, nn_length, HL.out, zerN_len]) (ints_one _ _) ?_))
      refine bodyPost_ret (results_cell_blk rfl _ _ (w.heap.size + 1) rfl T.out Try.underlying109 rfl (ints16 HL.out)) rfl ⟨by rw [HD.out], GB.out⟩
end Go.Proofs.Ytpjihjbgihionaa
namespace Go.Proofs.Ytpjihjbgihionaa
open Go.RowKit
set_option linter.unusedVariables false

section
variable {P : Program} {ops : Array Oper} {rest : List Oper} {o : Oper} {a : Act} {w : World} {Q : Exit → Act → World → Prop}
theorem wpList_load_blkH (hgd : Region.wanted o (yielded ops a.tmps) = true) (ty : TypeId) (x : Operand) (ho : o.op = .load ty x)
    (g : Nat) (hx : a.eval x = .pointer (some ⟨g, 0, none⟩)) {t : TypeId} {cs : List Value} {d : TypeDesc} (hg : Blk w g t cs)
    (hu : P.underlying ty = some d) (hd : (match d with | .struct _ | .array _ _ => true | _ => false) = true) (hi : (P.info? ty).map (·.size) = some cs.length)
    (h : wpList P ops Q rest (a.put o.dst (.agg cs.toArray)) w) : wpList P ops Q (o :: rest) a w := by
  unfold wpList
  rw [if_pos hgd]
  exact .inl (wp_load_row ty x ho g hx t cs.toArray (0, 0) d hg hu hd (by simpa using hi) h)
end
/-- lengths of a code -/
def RightI (l : List Int) : Prop := l.length ≤ 300 ∧ (∀ x ∈ l, ¬ NoLen x) ∧ (kraftW (clL l) = 2 ^ 15 ∨ (cntN (clL l) 1 = 1 ∧ lgN (clL l) 1 = 1))
theorem RightI.nat {l : List Int} (h : RightI l) : ∃ L : List Nat, l = nn L ∧ RightN L := by
  obtain ⟨h1, h2, h3⟩ := h
  have e : l = nn (clL l) := by
    unfold nn clL
    rw [List.map_map]
    conv => lhs; rw [← List.map_id l]
    refine List.map_congr_left fun x hx => ?_
    have := h2 x hx
    unfold NoLen at this
    show x = ((clN x : Nat) : Int)
    unfold clN
    split <;> omega
  exact ⟨clL l, e, by rw [clL_len]; exact h1, clL_le l, h3⟩
theorem RightN.int {L : List Nat} (h : RightN L) : RightI (nn L) := by
  obtain ⟨h1, h2, h3⟩ := h
  refine ⟨by rw [nn_length]; exact h1, fun x hx => ?_, by rw [clL_nn h2]; exact h3⟩
  obtain ⟨n, hn, rfl⟩ := List.mem_map.1 hx
  obtain ⟨i, hi, rfl⟩ := mem_getD hn
  have := h2 i
  unfold NoLen
  omega
set_option maxRecDepth 100000 in
set_option maxHeartbeats 2000000 in
theorem p_areCode (l : List Int) (p : Option Addr) (cap : Nat) (w : World) (hl : l.length ≤ 310) (hS : Sl w 1 (.slice p l.length cap) (rowsI l)) (b : Bool) (hb : (b = true ∧ RightI l) ∨ (b = false ∧ ¬ RightI l)) :
    Calls Try.prog 64 #[.slice p l.length cap] w fun e w' => e = .returned (.bool b) ∧ Below w.heap.size w w' := by
  have HBB := Lib.hid hb
  by_cases hlen : l.length ≤ 300
  · have d0 : decide (300 < l.length) = false := decide_eq_false (by omega)
    have d0' : decide ((300 : Int) < (l.length : Int)) = false := decide_eq_false (by omega)
    by_cases hv : ∀ x ∈ l, ¬ NoLen x
    · have hH := pn_Has l p cap w (by omega) hS false (.inr ⟨rfl, hv⟩)
      have hC := p_count l p cap w (by omega) hS
      have hK := fun w1 (h : Below w.heap.size w w1) => p_Kraft l p cap w1 hl (hS.below h)
      have hclen := cntL_len (clL l)
      have hA := fun w1 => p_all (clL l) w1 (by rw [clL_len]; exact hl) (clL_le l)
      have hg1 : (cntL (clL l)).getD 1 0 = cntN (clL l) 1 := cntL_getD (by omega)
      have HH := Lib.hid hH
      have HC := Lib.hid hC
      have HKR := Lib.hid hK
      have HCL := Lib.hid hclen
      have HA := Lib.hid hA
      have HG1 := Lib.hid hg1
      obtain ⟨c, hcc⟩ : ∃ c, cntL (clL l) = c := ⟨_, rfl⟩
      rw [hcc] at HC HCL HG1
      have HA' : Hid (∀ w1, Calls Try.prog 86 #[.agg (ints .i64 (nn c)).toArray] w1 fun e w' => e = .returned (.int .i64 ((lgN (clL l) 1 : Nat) : Int)) ∧ Below w1.heap.size w1 w') := Lib.hid (fun w1 => by rw [← hcc]; exact HA.out w1)
      clear hH hC hK hclen hA hg1 HA hcc hS hb
      go_enter Try.func64, Try.ntmps64
      go_wp2_with fail
      (with_reducible refine HH.out.mono ?_)
      rintro e w9 ⟨rfl, rfl⟩
      go_wp2_with fail
      (with_reducible refine HC.out.mono ?_)
      rintro e w1 ⟨rfl, hb1⟩
      obtain ⟨m, hm⟩ : ∃ m, w1.heap.size = m := ⟨_, rfl⟩
      obtain ⟨w2, hw2⟩ : ∃ w2, (w1.alloc (.cells (ints .i64 (nn (zerN 16))).toArray 109)).setRow w1.heap.size (ints .i64 (nn c)).toArray = w2 := ⟨_, rfl⟩
      have KZ := Blk.new' w1 109 (ints .i64 (nn (zerN 16))) rfl
      have K2 : Blk w2 w1.heap.size 109 (ints .i64 (nn c)) := by rw [← hw2]; exact KZ.row _ (by rw [ints_length, ints_length, nn_length, nn_length, HCL.out, zerN_len])
      have Kb : Below w.heap.size w w2 := by rw [← hw2]; exact below_setRow (hb1.alloc hb1.size _) hb1.size _
      have hKR := HKR.out w2 Kb
      have HK := Lib.hid hKR
      have KZ := Lib.hid KZ
      have HK2 := Lib.hid K2
      have HKb := Lib.hid Kb
      have HW2 := Lib.hid hw2
      clear hKR K2 Kb HC HH hb1 HKR hm hw2
      go_wp2_with (first | (refine wpList_alloc_n rfl 109 rfl w1.heap.size rfl _ (alloc_cnts _) ?_) | (refine wpList_store_blk rfl 109 _ _ rfl w1.heap.size (ints .i64 (nn c)) rfl rfl KZ.out (ints16 HCL.out) (by rw [ints_length, ints_length, nn_length, nn_length, HCL.out, zerN_len]) (ints_one _ _) ?_))
      rw [HW2.out]
      clear KZ HW2
      generalize w1.heap.size = g at *
      (with_reducible refine HK.out.mono ?_)
      rintro e w3 ⟨rfl, hb3⟩
      have K3 := HK2.out.below hb3 HK2.out.lt
      have Kb3 := HKb.out.trans (hb3.mono HKb.out.size)
      have c1 := K3.nat (j := 1) (by rw [HCL.out]; omega)
      rw [HG1.out] at c1
      have hA := HA'.out w3
      have HA := Lib.hid hA
      have K3 := Lib.hid K3
      have Kb3 := Lib.hid Kb3
      obtain ⟨kr, hkr⟩ : ∃ x, kraftW (clL l) = x := ⟨_, rfl⟩
      obtain ⟨c1v, hc1v⟩ : ∃ x, cntN (clL l) 1 = x := ⟨_, rfl⟩
      obtain ⟨al, hal⟩ : ∃ x, lgN (clL l) 1 = x := ⟨_, rfl⟩
      rw [hc1v] at c1
      rw [hal] at HA
      rw [hkr]
      have hR : (b = true ∧ (kr = 32768 ∨ (c1v = 1 ∧ al = 1))) ∨ (b = false ∧ ¬ (kr = 32768 ∨ (c1v = 1 ∧ al = 1))) := by
        rcases HBB.out with ⟨h, h1, h2, h3⟩ | ⟨h, hn⟩
        · rw [hkr, hc1v, hal] at h3
          exact .inl ⟨h, h3⟩
        · refine .inr ⟨h, fun h' => hn ⟨hlen, hv, ?_⟩⟩
          rw [hkr, hc1v, hal]
          exact h'
      have HR := Lib.hid hR
      clear hR hkr hc1v hal hA hb3 HK HK2 HKb HBB HA' HG1 hv
      by_cases k1 : kr = 32768
      · have e1 : ((kr : Int) == 32768) = true := by rw [beq_iff_eq]; omega
        obtain rfl : b = true := by rcases HR.out with ⟨h, _⟩ | ⟨_, h⟩; exact h; exact absurd (.inl k1) h
        clear k1
        go_wp2
        go_ret
        exact ⟨rfl, Kb3.out⟩
      · have e1 : ((kr : Int) == 32768) = false := by rw [beq_eq_false_iff_ne]; omega
        by_cases k2 : c1v = 1
        · have e2 : ((c1v : Int) == 1) = true := by rw [beq_iff_eq]; omega
          have hkk : b = decide (al = 1) := by
            rcases HR.out with ⟨h, h2⟩ | ⟨h, h2⟩
            · rw [h, decide_eq_true]; rcases h2 with h2 | h2; exact absurd h2 k1; exact h2.2
            · rw [h, decide_eq_false]; exact fun h3 => h2 (.inr ⟨k2, h3⟩)
          have e3 : ((al : Int) == 1) = b := by
            rw [hkk]
            by_cases h : al = 1
            · rw [decide_eq_true h, beq_iff_eq]; omega
            · rw [decide_eq_false h, beq_eq_false_iff_ne]; omega
          clear k1 k2 hkk
          go_wp2_with (refine wpList_load_blkH rfl 109 _ rfl g rfl K3.out Try.underlying109 rfl (ints16 HCL.out) ?_)
          (with_reducible refine HA.out.mono ?_)
          rintro e w4 ⟨rfl, hb4⟩
          go_wp2
          have Kb4 := Kb3.out.trans (hb4.mono Kb3.out.size)
          go_ret
          exact ⟨rfl, Kb4⟩
        · have e2 : ((c1v : Int) == 1) = false := by rw [beq_eq_false_iff_ne]; omega
          obtain rfl : b = false := by
            rcases HR.out with ⟨_, h⟩ | ⟨h, _⟩
            · rcases h with h | h
              · exact absurd h k1
              · exact absurd h.1 k2
            · exact h
          clear k1 k2
          go_wp2
          go_ret
          exact ⟨rfl, Kb3.out⟩
    · obtain rfl : b = false := by
        rcases HBB.out with ⟨_, h⟩ | ⟨h, _⟩
        · exact absurd h.2.1 hv
        · exact h
      have hex : ∃ x ∈ l, NoLen x := by
        obtain ⟨d, hd⟩ := Classical.not_forall.1 hv
        obtain ⟨hd1, hd2⟩ := Classical.not_imp.1 hd
        exact ⟨d, hd1, Classical.not_not.1 hd2⟩
      have hH := pn_Has l p cap w (by omega) hS true (.inl ⟨rfl, hex⟩)
      have HH := Lib.hid hH
      clear hH hS hb hv hex
      go_enter Try.func64, Try.ntmps64
      go_wp2_with fail
      (with_reducible refine HH.out.mono ?_)
      rintro e w9 ⟨rfl, rfl⟩
      go_wp2
      go_ret
      exact ⟨rfl, Below.refl _ _⟩
  · obtain rfl : b = false := by
      rcases HBB.out with ⟨_, h⟩ | ⟨h, _⟩
      · exact absurd h.1 hlen
      · exact h
    have d0 : decide (300 < l.length) = true := decide_eq_true (by omega)
    have d0' : decide ((300 : Int) < (l.length : Int)) = true := decide_eq_true (by omega)
    clear hb hS
    go_enter Try.func64, Try.ntmps64
    go_wp2
    go_ret
    exact ⟨rfl, Below.refl _ _⟩
theorem and_one_i64 (b : Nat) (h : b < 9223372036854775808) : bits .and .i64 (b : Int) 1 = ((b % 2 : Nat) : Int) := by
  have := (bits_nat .i64 63 (by decide) (fun n h0 h1 => by rw [IntKind.wrap_i64]; omega) b 1 (by omega) (by decide)).1
  rw [Nat.and_one_is_mod] at this
  exact this
/-- what is turned round by then -/
theorem turn_or {a y i : Nat} (h : 2 ^ i ∣ a) (hy : y < 2 ^ i) : a ||| y = a + y := by
  obtain ⟨q, rfl⟩ := h
  rw [Nat.or_comm, Nat.mul_comm, or_add y q i hy, Nat.add_comm]
set_option maxRecDepth 100000 in
set_option maxHeartbeats 1000000 in
theorem p_turned (v n : Nat) (w : World) (hn : 1 ≤ n) (hn15 : n ≤ 15) (hv : v < 2 ^ n) :
    Calls Try.prog 67 #[.int .i64 (v : Int), .int .i64 (n : Int)] w fun e w' => e = .returned (.int .u32 ((revN v n : Nat) : Int)) ∧ w = w' := by
  have hpn : 2 ^ n ≤ 2 ^ 15 := Nat.pow_le_pow_right (by decide) hn15
  have hv15 : v < 32768 := by omega
  have HV := Lib.hid hv
  clear hv hpn
  go_enter Try.func67, Try.ntmps67
  go_wp2
  go_step3
  go_wp2
  go_step3
  go_wp2
  go_loop [0, 5, 6, 11, 14] (fun x m t _ _ => ∃ j : Nat, j ≤ n ∧ x = .int .i64 ((v / 2 ^ j : Nat) : Int) ∧ m = .int .u32 ((revN v j * 2 ^ (n - j) : Nat) : Int) ∧ t = .int .i64 ((n : Int) - 1 - (j : Int))) (fun _ _ t _ _ => (intOf t + 1).toNat)
  case atStart => exact ⟨0, by omega, by simp, by rw [revN_zero, Nat.zero_mul]; rfl, by simp⟩
  case round =>
    obtain ⟨j, hj, rfl, rfl, rfl⟩ := hrel
    obtain ⟨x, hx⟩ : ∃ x, v / 2 ^ j = x := ⟨_, rfl⟩
    have hx15 : x < 32768 := by rw [← hx]; exact Nat.lt_of_le_of_lt (Nat.div_le_self _ _) hv15
    by_cases h0 : x = 0
    · have hlow := revN_low (v := v) (t := j) (by rw [hx]; exact h0) (n - j)
      rw [show j + (n - j) = n by omega] at hlow
      have HLOW := Lib.hid hlow
      have e1 : ((x : Int) == 0) = true := by rw [beq_iff_eq]; omega
      rw [hx]
      clear hlow hx h0
      go_wp2
      go_ret
      exact ⟨by rw [HLOW.out]; rfl, rfl⟩
    · have hjn : j < n := by
        rcases Nat.lt_or_ge j n with h | h
        · exact h
        · have : j = n := by omega
          subst this
          have := Nat.div_eq_of_lt HV.out
          omega
      have hsu := revN_succ v j
      rw [hx] at hsu
      have hdj : v / 2 ^ (j + 1) = x / 2 := by rw [Nat.pow_succ, ← Nat.div_div_eq_div_mul, hx]
      have e1 : ((x : Int) == 0) = false := by rw [beq_eq_false_iff_ne]; omega
      have e2 : bits .and .i64 (x : Int) 1 = (x : Int) % 2 := by rw [and_one_i64 x (by omega)]; omega
      have e3 : (x : Int).fdiv (2 ^ min (Int.toNat 1) IntKind.i64.bits) = ((x / 2 : Nat) : Int) := by
        rw [show ((2 : Int) ^ min (Int.toNat 1) IntKind.i64.bits) = 2 from rfl, Int.fdiv_eq_ediv_of_nonneg _ (by omega)]
        omega
      obtain ⟨k, hk⟩ : ∃ k, n - 1 - j = k := ⟨_, rfl⟩
      have e4 : (n : Int) - 1 - (j : Int) = (k : Int) := by omega
      have e5 : n - j = k + 1 := by omega
      have e6 : n - (j + 1) = k := by omega
      have i2 : (k : Int).toNat = k := by omega
      have i3 : (0 : Int) ≤ (k : Int) := by omega
      have hk15 : k ≤ 14 := by omega
      have hpk : 2 ^ k ≤ 2 ^ 14 := Nat.pow_le_pow_right (by decide) hk15
      have hmade := Nat.mul_le_mul (show revN v j ≤ 2 ^ j from Nat.le_of_lt (revN_lt v j)) (Nat.le_refl (2 ^ (k + 1)))
      rw [← Nat.pow_add] at hmade
      have hmd : 2 ^ (j + (k + 1)) ≤ 2 ^ 15 := Nat.pow_le_pow_right (by decide) (by omega)
      rw [hx, e5, e4]
      have hmm : revN v j * 2 ^ (k + 1) + 2 ^ k ≤ 100000 := by omega
      by_cases hb : x % 2 = 1
      · have hor := turn_or (a := revN v j * 2 ^ (k + 1)) (y := 2 ^ k) (i := k + 1) (Nat.dvd_mul_left _ _) (Nat.pow_lt_pow_right (by decide) (by omega))
        have hnew : revN v j * 2 ^ (k + 1) + 2 ^ k = revN v (j + 1) * 2 ^ k := by
          rw [hsu, hb, Nat.pow_succ, Nat.add_mul, Nat.one_mul, Nat.mul_assoc, Nat.mul_comm 2 (2 ^ k)]
        rw [hnew] at hor hmm
        obtain ⟨a, ha⟩ : ∃ a, revN v j * 2 ^ (k + 1) = a := ⟨_, rfl⟩
        obtain ⟨b, hb'⟩ : ∃ b, revN v (j + 1) * 2 ^ k = b := ⟨_, rfl⟩
        obtain ⟨q, hq⟩ : ∃ q, 2 ^ k = q := ⟨_, rfl⟩
        have hp2 : (2 : Int) ^ k = (q : Int) := by rw [← hq]; simp
        rw [ha, hb', hq] at hor
        rw [hb'] at hmm
        rw [ha] at hmade hnew ⊢
        rw [hb', hq] at hnew
        have hw : IntKind.u32.wrap (q : Int) = (q : Int) := wrapsJ_u32 _ (by omega) (by omega)
        have hor2 : bits .or .u32 (a : Int) (q : Int) = (b : Int) := by rw [or_u32 _ _ (by omega) (by omega), hor]
        have e7 : ((x : Int) % 2 == 1) = true := by rw [beq_iff_eq]; omega
        have HB := Lib.hid hb'
        have HDJ := Lib.hid hdj
        have HE6 := Lib.hid e6
        have i4 : (k : Int) ≤ 14 := by omega
        clear hsu hdj hor hnew ha hb' hq hmm hmade hmd hpk hb hx h0 hk e5 e6
        go_wp2
        go_round
        case rel => exact ⟨j + 1, by omega, by rw [HDJ.out]; simp, by rw [HE6.out, HB.out], by first | rfl | go_num | (congr 1; omega)⟩
        case measure => (simp [intOf]; try omega)
      · have hb0 : x % 2 = 0 := by omega
        have hnew : revN v j * 2 ^ (k + 1) = revN v (j + 1) * 2 ^ k := by
          rw [hsu, hb0, Nat.pow_succ, Nat.add_zero, Nat.mul_assoc, Nat.mul_comm 2 (2 ^ k)]
        rw [hnew]
        have e7 : ((x : Int) % 2 == 1) = false := by rw [beq_eq_false_iff_ne]; omega
        have HDJ := Lib.hid hdj
        have HE6 := Lib.hid e6
        have i4 : (k : Int) ≤ 14 := by omega
        clear hsu hdj hnew hmm hmade hmd hpk hb hb0 hx h0 hk e5 e6
        go_wp2
        go_round
        case rel => exact ⟨j + 1, by omega, by rw [HDJ.out]; simp, by rw [HE6.out], by first | rfl | go_num | (congr 1; omega)⟩
        case measure => (simp [intOf]; try omega)
end Go.Proofs.Ytpjihjbgihionaa
namespace Go.Proofs.Ytpjihjbgihionaa
open Go.RowKit
set_option linter.unusedVariables false

theorem made_two (a b : Value) (n : Nat) : (madeCells #[a, b] (n * 2)).toList = (List.replicate n [a, b]).flatten := by
  have hk : ∀ r ∈ List.replicate n [a, b], r.length = 2 := fun r hr => by rw [(List.mem_replicate.1 hr).2]; rfl
  apply List.ext_getElem?
  intro j
  by_cases hj : j < n * 2
  · have h1 : (List.replicate n [a, b])[j / 2]? = some [a, b] := by rw [List.getElem?_replicate, if_pos (by omega)]
    have h2 : ([a, b] : List Value)[j % 2]? = some (if j % 2 = 0 then a else b) := by
      rcases (show j % 2 = 0 ∨ j % 2 = 1 by omega) with e | e <;> rw [e] <;> rfl
    have h3 := flat_at hk h1 h2
    rw [show j / 2 * 2 + j % 2 = j by omega] at h3
    rw [h3]
    have h4 : (madeCells #[a, b] (n * 2)).toList[j]? = some ((#[a, b] : Array Value)[j % 2]!) := by
      simp [madeCells, hj]
    rw [h4]
    rcases (show j % 2 = 0 ∨ j % 2 = 1 by omega) with e | e <;> rw [e] <;> rfl
  · rw [List.getElem?_eq_none (by simp [madeCells]; omega), List.getElem?_eq_none (by rw [flat_len hk, List.length_replicate]; omega)]
theorem info_piece : (Try.prog.info? 70).map (fun i => (i.zero, i.size, i.bytes)) = some (some (.agg #[.int .u32 0, .int .i64 0]), 2, 16) := by kernel_rfl
theorem make_pieces (n : Nat) (h : n ≤ 1000000) (w : World) : (Instr.makeSlice 45 (.int .i64 (n : Int)) (.int .i64 (n : Int))).run Try.prog w = .ok (.slice (some ⟨w.heap.size, 0, none⟩) n n) (w.alloc (.cells (rowsP (List.replicate n (0, 0))).flatten.toArray 70)) := by
  obtain ⟨i0, hi0, hz0, hz1, hz2⟩ := info_parts2 info_piece
  have hr := run_make (P := Try.prog) w 45 70 i0 (.agg #[.int .u32 0, .int .i64 0]) Try.underlying45 hi0 hz0 .i64 .i64 n n (by omega) (Int.le_refl _) (by rw [hz2]; omega) (by omega)
  simp only [Int.toNat_natCast, hz1] at hr
  have e : madeCells (Value.agg #[.int .u32 0, .int .i64 0]).cells (n * 2) = (rowsP (List.replicate n (0, 0))).flatten.toArray := by
    apply Array.ext'
    rw [show (Value.agg #[.int .u32 0, .int .i64 0]).cells = #[.int .u32 0, .int .i64 0] from rfl, made_two]
    unfold rowsP
    rw [List.map_replicate]
    rfl
  rw [hr, e]
/-- the pieces of the first i symbols -/
def pcP (L : List Nat) (i : Nat) : List (Nat × Int) := (List.range L.length).map fun k => if k < i then (codeW L k, ((L.getD k 0 : Nat) : Int)) else (0, 0)
/-- the symbols' pieces -/
def pcW (L : List Nat) : List (Nat × Int) := (List.range L.length).map fun k => (codeW L k, ((L.getD k 0 : Nat) : Int))
theorem pcP_len (L : List Nat) (i : Nat) : (pcP L i).length = L.length := by simp [pcP]
theorem pcW_len (L : List Nat) : (pcW L).length = L.length := by simp [pcW]
theorem pcP_zero (L : List Nat) : pcP L 0 = List.replicate L.length (0, 0) := by
  unfold pcP
  refine List.eq_replicate_iff.2 ⟨by simp, fun b hb => ?_⟩
  obtain ⟨k, _, rfl⟩ := List.mem_map.1 hb
  exact if_neg (by omega)
theorem pcP_all (L : List Nat) : pcP L L.length = pcW L := by
  unfold pcP pcW
  refine List.map_congr_left fun k hk => ?_
  rw [if_pos (List.mem_range.1 hk)]
theorem pcP_get (L : List Nat) {i k : Nat} (h : k < L.length) : (pcP L i)[k]? = some (if k < i then (codeW L k, ((L.getD k 0 : Nat) : Int)) else (0, 0)) := by
  unfold pcP
  rw [List.getElem?_map, List.getElem?_range h]
  rfl
theorem codeW_none {L : List Nat} {i : Nat} (h : L.getD i 0 = 0) : codeW L i = 0 := by
  unfold codeW
  rw [h]
  rfl
theorem pcP_step (L : List Nat) {i : Nat} (h : i < L.length) : pcP L (i + 1) = (pcP L i).set i (codeW L i, ((L.getD i 0 : Nat) : Int)) := by
  apply List.ext_getElem?
  intro k
  by_cases hk : k < L.length
  · rw [pcP_get L hk, List.getElem?_set]
    by_cases e : i = k
    · subst e
      rw [if_pos (by omega), if_pos rfl, if_pos (by rw [pcP_len]; exact h)]
    · rw [if_neg e, pcP_get L hk]
      by_cases h' : k < i
      · rw [if_pos h', if_pos (by omega)]
      · rw [if_neg h', if_neg (by omega)]
  · rw [List.getElem?_eq_none (by rw [pcP_len]; omega), List.getElem?_eq_none (by rw [List.length_set, pcP_len]; omega)]
theorem pcP_same (L : List Nat) {i : Nat} (h : i < L.length) (h0 : L.getD i 0 = 0) : pcP L (i + 1) = pcP L i := by
  rw [pcP_step L h, codeW_none h0, h0]
  apply List.ext_getElem?
  intro k
  rw [List.getElem?_set]
  by_cases e : i = k
  · subst e
    rw [if_pos rfl, if_pos (by rw [pcP_len]; exact h), pcP_get L h, if_neg (by omega)]
    rfl
  · rw [if_neg e]
/-- one row of many -/
theorem rows_split (l : List (Nat × Int)) {i : Nat} (h : i < l.length) : (rowsP l).flatten = (rowsP (l.take i)).flatten ++ (rowP l[i] ++ (rowsP (l.drop (i + 1))).flatten) := by
  have e : l = l.take i ++ (l[i] :: l.drop (i + 1)) := by
    rw [← List.drop_eq_getElem_cons h, List.take_append_drop]
  conv => lhs; rw [e]
  unfold rowsP
  rw [List.map_append, List.flatten_append, List.map_cons, List.flatten_cons]
theorem rows_set (l : List (Nat × Int)) {i : Nat} (h : i < l.length) (q : Nat × Int) : (rowsP (l.set i q)).flatten = (rowsP (l.take i)).flatten ++ (rowP q ++ (rowsP (l.drop (i + 1))).flatten) := by
  have hl : i < (l.set i q).length := by rw [List.length_set]; exact h
  rw [rows_split _ hl, List.take_set_of_le (Nat.le_refl _), List.drop_set_of_lt (by omega), List.getElem_set_self]
theorem rowsP_flen (l : List (Nat × Int)) : (rowsP l).flatten.length = l.length * 2 := by
  rw [flat_len (k := 2) (fun r hr => by
    simp only [rowsP, List.mem_map] at hr
    obtain ⟨q, _, rfl⟩ := hr
    rfl), rowsP_len]
theorem rows_at (l : List (Nat × Int)) {i : Nat} (h : i < l.length) : ∃ X Y Z : List Value, (rowsP l).flatten = X ++ (Y ++ Z) ∧ X.length = i * 2 ∧ Y.length = 2 ∧ ∀ q, (rowsP (l.set i q)).flatten = X ++ (rowP q ++ Z) :=
  ⟨_, _, _, rows_split l h, by rw [rowsP_flen, List.length_take]; omega, rfl, fun q => rows_set l h q⟩
/-- pieces and an error -/
def PcRet (L : List Nat) (w : World) (e : Ending) (w' : World) : Prop := ∃ g, e = .returned (.tuple #[.slice (some ⟨g, 0, none⟩) L.length L.length, .int .i64 0]) ∧ Blk w' g 70 (rowsP (pcW L)).flatten ∧ w.heap.size ≤ g ∧ Below w.heap.size w w'
theorem p_Codes_no (l : List Int) (p : Option Addr) (cap : Nat) (w : World) (hl : l.length ≤ 310) (hS : Sl w 1 (.slice p l.length cap) (rowsI l)) (hno : ¬ RightI l) :
    Calls Try.prog 33 #[.slice p l.length cap] w fun e w' => e = .returned (.tuple #[.slice none 0 0, .int .i64 70]) ∧ Below w.heap.size w w' := by
  have hC := p_areCode l p cap w hl hS false (.inr ⟨rfl, hno⟩)
  have HC := Lib.hid hC
  clear hC hS hno
  go_enter Try.func33, Try.ntmps33
  go_wp2_with fail
  (with_reducible refine HC.out.mono ?_)
  rintro e w1 ⟨rfl, hb1⟩
  go_wp2
  go_ret2
  exact ⟨rfl, hb1⟩
set_option maxRecDepth 100000 in
set_option maxHeartbeats 2000000 in
theorem p_Codes_yes (L : List Nat) (p : Option Addr) (cap : Nat) (w : World) (hR : RightN L) (hS : Sl w 1 (.slice p L.length cap) (rowsN L)) :
    Calls Try.prog 33 #[.slice p L.length cap] w (PcRet L w) := by
  have hl := hR.1
  have hS' := hS
  rw [← rowsI_nn] at hS'
  have hC1 := p_areCode (nn L) p cap w (by rw [nn_length]; omega) (by rw [nn_length]; exact hS') true (.inl ⟨rfl, hR.int⟩)
  rw [nn_length] at hC1
  have hC2 := fun w1 (h : Below w.heap.size w w1) => p_count (nn L) p cap w1 (by rw [nn_length]; omega) (by rw [nn_length]; exact hS'.below h)
  rw [clL_nn hR.2.1, nn_length] at hC2
  have hC3 := fun w1 => p_firsts L w1 (by omega)
  have hfl := fstL_len L
  have hTU := fun (i : Nat) (hi : i < L.length) (h0 : 0 < L.getD i 0) (w1 : World) => p_turned (wordW L i) (L.getD i 0) w1 h0 (hR.2.1 i) (wordW_lt L hi h0 (hR.2.1 i) hR.le)
  have hword := fun (i : Nat) (hi : i < L.length) (h0 : 0 < L.getD i 0) => wordW_lt L hi h0 (hR.2.1 i) hR.le
  have h15 := hR.2.1
  have hmk := fun w => make_pieces L.length (by omega) w
  obtain ⟨n, hn⟩ : ∃ n, L.length = n := ⟨_, rfl⟩
  have HNN := Lib.hid hn
  have HC1 := Lib.hid hC1
  have HC2 := Lib.hid hC2
  have HC3 := Lib.hid hC3
  have HFL := Lib.hid hfl
  have HTU := Lib.hid hTU
  have HWD := Lib.hid hword
  have H15 := Lib.hid h15
  have HMK := Lib.hid hmk
  have HS := Lib.hid hS
  have HMK2 : Hid (∀ w1 : World, (Instr.makeSlice 45 (.int .i64 (n : Int)) (.int .i64 (n : Int))).run Try.prog w1 = .ok (.slice (some ⟨w1.heap.size, 0, none⟩) n n) (w1.alloc (.cells (rowsP (pcP L 0)).flatten.toArray 70))) := Lib.hid (fun w1 => by rw [pcP_zero, HNN.out]; have := HMK.out w1; rw [HNN.out] at this; exact this)
  rw [hn] at HC1 HC2 HS hl ⊢
  clear hS hS' hC1 hC2 hC3 hfl hTU hword h15 hmk HMK hn hR
  go_enter Try.func33, Try.ntmps33
  go_wp2_with fail
  (with_reducible refine HC1.out.mono ?_)
  rintro e w1 ⟨rfl, hb1⟩
  have hC2 := HC2.out w1 hb1
  have hC2 := Lib.hid hC2
  clear HC1 HC2
  go_wp2_with fail
  (with_reducible refine hC2.out.mono ?_)
  rintro e w2 ⟨rfl, hb2⟩
  have hb02 := hb1.trans (hb2.mono hb1.size)
  have hC3 := HC3.out w2
  have hC3 := Lib.hid hC3
  clear hC2 HC3 hb1 hb2
  go_wp2_with fail
  (with_reducible refine hC3.out.mono ?_)
  rintro e w3 ⟨rfl, hb3⟩
  have hb03 := hb02.trans (hb3.mono hb02.size)
  clear hC3 hb02 hb3
  generalize hff : fstL L = f at *
  have HFF := Lib.hid hff
  clear hff
  have KZ := Blk.new' w3 109 (ints .i64 (nn (zerN 16))) rfl
  have K4 : Blk ((w3.alloc (.cells (ints .i64 (nn (zerN 16))).toArray 109)).setRow w3.heap.size (ints .i64 (nn f)).toArray) w3.heap.size 109 (ints .i64 (nn f)) := KZ.row _ (by rw [ints_length, ints_length, nn_length, nn_length, HFL.out, zerN_len])
  have Kb4 : Below w.heap.size w ((w3.alloc (.cells (ints .i64 (nn (zerN 16))).toArray 109)).setRow w3.heap.size (ints .i64 (nn f)).toArray) := below_setRow (hb03.alloc hb03.size _) hb03.size _
  obtain ⟨w5, hw5⟩ : ∃ w5, ((w3.alloc (.cells (ints .i64 (nn (zerN 16))).toArray 109)).setRow w3.heap.size (ints .i64 (nn f)).toArray).alloc (.cells (rowsP (pcP L 0)).flatten.toArray 70) = w5 := ⟨_, rfl⟩
  obtain ⟨F, hF⟩ : ∃ F, w3.heap.size = F := ⟨_, rfl⟩
  have K5 : Blk w5 (F + 1) 70 (rowsP (pcP L 0)).flatten := by rw [← hw5, ← hF]; exact Blk.newAt _ _ (by simp) _ _ rfl
  have K5f : Blk w5 F 109 (ints .i64 (nn (nextLn L 0))) := by rw [← hw5, nextLn_zero, HFF.out, ← hF]; exact K4.alloc _
  have Kb5 : Below w.heap.size w w5 := by rw [← hw5]; exact Kb4.alloc Kb4.size _
  obtain ⟨g, hg⟩ : ∃ g, F + 1 = g := ⟨_, rfl⟩
  rw [hg] at K5
  have hFg : F < g := by omega
  have hwF : w.heap.size ≤ F := by have := hb03.size; omega
  have hgw : w.heap.size ≤ g := by omega
  have KZ := Lib.hid KZ
  have HK5 := Lib.hid K5
  have HK5f := Lib.hid K5f
  have HKb5 := Lib.hid Kb5
  have HW5 := Lib.hid hw5
  have HF := Lib.hid hF
  have HG := Lib.hid hg
  have hmk := HMK2.out
  clear K4 Kb4 K5 K5f Kb5 hw5 hF hg hb03 HMK2
  go_wp2_with (first | (refine wpList_alloc_n rfl 109 rfl w3.heap.size rfl _ (alloc_cnts _) ?_) | (refine wpList_store_blk rfl 109 _ _ rfl w3.heap.size (ints .i64 (nn f)) rfl rfl KZ.out (ints16 HFL.out) (by rw [ints_length, ints_length, nn_length, nn_length, HFL.out, zerN_len]) (ints_one _ _) ?_))
  rw [HW5.out, HF.out, HG.out]
  clear KZ HW5 hmk HFF HFL HF
  go_loopw [19] (fun i wr => ∃ j : Nat, j ≤ n ∧ i = .int .i64 (j : Int) ∧ Blk wr g 70 (rowsP (pcP L j)).flatten ∧ Blk wr F 109 (ints .i64 (nn (nextLn L j))) ∧ Below w.heap.size w wr) (fun i _ => n - (intOf i).toNat)
  case atStart => exact ⟨0, by omega, rfl, HK5.out, HK5f.out, HKb5.out⟩
  case round =>
    obtain ⟨j, hj, rfl, gP, gF, gb⟩ := hrel
    clear HK5 HK5f HKb5
    by_cases hlt : j < n
    · have d1 : (j : Int) < (n : Int) := by omega
      have hjL : j < L.length := by rw [HNN.out]; exact hlt
      obtain ⟨a, rfl, hc⟩ := SlN.cell (HS.out.below gb) hjL
      have hns := nextL_step L hjL (H15.out j)
      have hx15 := H15.out j
      by_cases h0 : L.getD j 0 = 0
      · rw [if_pos h0] at hns
        rw [← hns] at gF
        rw [← pcP_same L hjL h0] at gP
        rw [h0] at hc
        have hc' : wr.cell? (a.add j) = some (.int .i64 0) := hc
        clear hns hc h0 hjL
        go_wp2
        go_roundw
        case rel => exact ⟨j + 1, by omega, by go_num, gP, gF, gb⟩
        case measure => (simp [intOf]; try omega)
      · rw [if_neg h0] at hns
        have hpos : 0 < L.getD j 0 := by omega
        have hT := HTU.out j hjL hpos wr
        have hwd := HWD.out j hjL hpos
        have hps := pcP_step L hjL
        obtain ⟨X, Y, Z, hsp, htl, rl, hrs⟩ := rows_at (pcP L j) (i := j) (by rw [pcP_len]; exact hjL)
        have hrs := hrs (codeW L j, ((L.getD j 0 : Nat) : Int))
        rw [← hps] at hrs
        have hcw : codeW L j = revN (wordW L j) (L.getD j 0) := rfl
        have hc1 : ∀ w6, Blk w6 F 109 (ints .i64 (nn (nextLn L j))) → w6.cell? ⟨F, L.getD j 0, none⟩ = some (.int .i64 (((nextLn L j).getD (L.getD j 0) 0 : Nat) : Int)) := fun w6 k => k.nat (j := L.getD j 0) (by rw [nextLn_len]; omega)
        have hcv : (nextLn L j).getD (L.getD j 0) 0 = wordW L j := by rw [nextL_getD (by omega), wordW_next]
        rw [hcv] at hc1 hns
        rw [hsp] at gP
        rw [hcw] at hrs
        obtain ⟨x, hx⟩ : ∃ x, L.getD j 0 = x := ⟨_, rfl⟩
        obtain ⟨v, hv⟩ : ∃ v, wordW L j = v := ⟨_, rfl⟩
        rw [hx, hv] at hT hwd hrs hc1 hns
        rw [hx] at hc hpos hx15
        obtain ⟨cw, hcw2⟩ : ∃ cw, revN v x = cw := ⟨_, rfl⟩
        rw [hcw2] at hT hrs
        have hv15 : v < 32768 := by have : 2 ^ x ≤ 2 ^ 15 := Nat.pow_le_pow_right (by decide) hx15; omega
        have ev : ((v + 1 : Nat) : Int) = (v : Int) + 1 := by simp
        have i1 : (x : Int) < 16 := by omega
        have i2 : (v : Int) ≤ 32768 := by omega
        have e1 : ((x : Int) == 0) = false := by rw [beq_eq_false_iff_ne]; omega
        have hneF : F ≠ g := by omega
        have hc1' := hc1 wr gF
        have HC1 := Lib.hid hc1
        have HRS := Lib.hid hrs
        have HNS := Lib.hid hns
        have HT := Lib.hid hT
        have GP := Lib.hid gP
        have HTL := Lib.hid htl
        have GF := Lib.hid gF
        have GB := Lib.hid gb
        have HNE := Lib.hid hneF
        clear hc1 hrs hns hT hps hsp htl hcw hcv hx hv hcw2 gP h0 hwd hv15 gF gb hneF hjL
        go_wp2_with fail
        (with_reducible refine HT.out.mono ?_)
        rintro e w9 ⟨rfl, rfl⟩
        have hP6 : ∀ w6, Blk w6 g 70 (X ++ (rowP (cw, (x : Int)) ++ Z)) → Below g wr w6 → Blk w6 F 109 (ints .i64 (nn (nextLn L j))) ∧ Below w.heap.size w w6 := fun w6 _ hb6 => ⟨GF.out.below hb6 hFg, GB.out.trans (hb6.mono hgw)⟩
        have HP6 := Lib.hid hP6
        clear hP6
        have HFX : ∀ w6, Blk w6 F 109 (ints .i64 (nn (nextLn L j))) → w6.cell? ⟨F, x, none⟩ = some (.int .i64 (v : Int)) ∧ w6.frozen? ⟨F, x, none⟩ = false ∧ Blk (w6.setCell ⟨F, x, none⟩ (.int .i64 ((v : Int) + 1))) F 109 (ints .i64 (nn (nextLn L (j + 1)))) := fun w6 k => by
          have h1 := HC1.out w6 k
          have h2 := k.setNat x (v + 1)
          rw [← HNS.out, ev] at h2
          exact ⟨h1, k.free x, h2⟩
        have HFX := Lib.hid HFX
        go_wp2_with (refine wpList_store_part rfl 70 _ _ rfl g (j * 2) rfl (rowP (cw, (x : Int))) rfl X Y Z GP.out HTL.out.symm rl (by rw [size_piece]; rfl) (rowP_one _) ?_; intro w6 hB6 hb6 hw6; clear hw6; obtain ⟨gF6, gb6⟩ := HP6.out w6 hB6 hb6; obtain ⟨k1, k2, k3⟩ := HFX.out w6 gF6)
        have K3 := Lib.hid k3
        have kP := hB6.other (a := ⟨F, x, none⟩) (show F ≠ g from HNE.out) (.int .i64 ((v : Int) + 1))
        have kb := gb6.setCell (p := ⟨F, x, none⟩) hwF (.int .i64 ((v : Int) + 1))
        have KP := Lib.hid kP
        have KB := Lib.hid kb
        clear k3 kP kb hB6 hb6 gF6 gb6 GP GF GB
        go_wp2
        go_roundw
        case rel => exact ⟨j + 1, by omega, by go_num, by rw [HRS.out]; exact KP.out, K3.out, KB.out⟩
        case measure => (simp [intOf]; try omega)
    · obtain rfl : j = n := by omega
      have e1 : pcP L j = pcW L := by rw [← HNN.out]; exact pcP_all L
      rw [e1] at gP
      clear e1
      go_wp2
      go_ret2
      exact ⟨g, by rw [HNN.out]; rfl, gP, hgw, gb⟩
end Go.Proofs.Ytpjihjbgihionaa
namespace Go.Proofs.Ytpjihjbgihionaa
open Go.RowKit
set_option linter.unusedVariables false

theorem SlN.turned {w w' : World} {p : Option Addr} {n cap : Nat} {l : List Nat} {R : Nat} {t : TypeId} {vs : List Value} (h : Sl w 1 (.slice p n cap) (rowsN l)) (ht : Turned w w' R t vs) (hne : ∀ a, p = some a → a.block ≠ R) : Sl w' 1 (.slice p n cap) (rowsN l) := by
  obtain ⟨h1, p', cap', e, h3⟩ := h
  cases e
  refine ⟨h1, p, cap, rfl, fun i r hr => ?_⟩
  obtain ⟨a, rfl, q2, q3⟩ := h3 i r hr
  have hb := ht.1.block a.block q2 (by simp; exact hne a rfl)
  refine ⟨a, rfl, Nat.lt_of_lt_of_le q2 ht.1.size, fun j x hx => ?_⟩
  rw [← q3 j x hx]
  exact World.cell?_of_block (by rw [add_block]; exact hb)
set_option maxRecDepth 100000 in
set_option maxHeartbeats 1000000 in
theorem p_symbolOf (L : List Nat) (p : Option Addr) (cap wd r i0 : Nat) (w : World) (hl : L.length ≤ 310) (h15 : ∀ i, L.getD i 0 ≤ 15) (hS : Sl w 1 (.slice p L.length cap) (rowsN L)) (hi : i0 < L.length) (hw : L.getD i0 0 = wd) (hr : rankN L wd i0 = r) :
    Calls Try.prog 87 #[.slice p L.length cap, .int .i64 (wd : Int), .int .i64 (r : Int)] w fun e w' => e = .returned (.int .i64 (i0 : Int)) ∧ w = w' := by
  have hst := fun i h => rankN_step L wd i h
  have hmono := fun i (h : i ≤ i0) => rankN_mono L wd h
  have hrl := rankN_le L wd i0
  have hi310 : i0 ≤ 310 := by omega
  have hwd : wd ≤ 15 := by rw [← hw]; exact h15 i0
  have H15 := Lib.hid h15
  have HS := Lib.hid hS
  have HW := Lib.hid hw
  have HR := Lib.hid hr
  have HST := Lib.hid hst
  have HM := Lib.hid hmono
  have hr310 : r ≤ 310 := by omega
  clear h15 hS hw hr hst hmono hrl
  go_enter Try.func87, Try.ntmps87
  go_wp2
  go_loop [2, 11] (fun o i => ∃ j q : Nat, j ≤ i0 ∧ i = .int .i64 (j : Int) ∧ o = .int .i64 (q : Int) ∧ q + rankN L wd j = r) (fun _ i => L.length - (intOf i).toNat)
  case atStart => exact ⟨0, r, by omega, rfl, rfl, by rw [rankN_zero]; omega⟩
  case round =>
    obtain ⟨j, q, hj, rfl, rfl, hq⟩ := hrel
    have hjl : j < L.length := by omega
    have d1 : (j : Int) < (L.length : Int) := by omega
    obtain ⟨a, rfl, hc⟩ := SlN.cell HS.out hjl
    have hs := HST.out j hjl
    have hx15 := H15.out j
    by_cases he : j = i0
    · subst he
      rw [HW.out] at hc
      have hq0 : q = 0 := by have := HR.out; omega
      subst hq0
      have e1 : ((wd : Int) != (wd : Int)) = false := by simp
      clear hs hx15 hq
      go_wp2
      go_ret
      exact ⟨rfl, rfl⟩
    · obtain ⟨x, hx⟩ : ∃ x, L.getD j 0 = x := ⟨_, rfl⟩
      rw [hx] at hc hs hx15
      by_cases hxw : x = wd
      · subst hxw
        rw [if_pos rfl] at hs
        have hm := HM.out (j + 1) (by omega)
        have hqp : 0 < q := by have := HR.out; omega
        have e1 : ((x : Int) != (x : Int)) = false := by simp
        have e2 : ((q : Int) == 0) = false := by rw [beq_eq_false_iff_ne]; omega
        obtain ⟨q', rfl⟩ : ∃ q', q = q' + 1 := ⟨q - 1, by omega⟩
        have ec : ((q' + 1 : Nat) : Int) = (q' : Int) + 1 := by simp
        rw [ec] at e2 ⊢
        have i1 : (q' : Int) ≤ 310 := by omega
        have hq' : q' + rankN L x (j + 1) = r := by omega
        have HQ := Lib.hid hq'
        have e3 : (q' : Int) + 1 - 1 = (q' : Int) := by omega
        clear hs hm hq hx hq' ec hx15
        go_wp2
        go_round
        case rel => exact ⟨j + 1, q', by omega, by go_num, by first | rfl | go_num | (congr 1; omega), HQ.out⟩
        case measure => (simp [intOf]; try omega)
      · rw [if_neg hxw] at hs
        have e1 : ((x : Int) != (wd : Int)) = true := by rw [bne_iff_ne]; omega
        have hq' : q + rankN L wd (j + 1) = r := by omega
        have HQ := Lib.hid hq'
        clear hs hq hx hq' hxw
        go_wp2
        go_round
        case rel => exact ⟨j + 1, q, by omega, by go_num, rfl, HQ.out⟩
        case measure => (simp [intOf]; try omega)
theorem RightN.some {L : List Nat} (h : RightN L) : 0 < lgN L 1 := by
  rcases h.2.2 with hk | hk
  · rcases Nat.eq_zero_or_pos (lgN L 1) with e | e
    · have : kraftW L = 0 := sumW_none fun j hj _ => by
        have h0 : L.getD j 0 = 0 := by
          rcases Nat.eq_zero_or_pos (L.getD j 0) with e' | e'
          · exact e'
          · have := lgN_pos.2 ⟨j, hj, show 1 ≤ L.getD j 0 from e'⟩
            omega
        unfold wgtL wgt
        rw [h0]
        rfl
      rw [this] at hk
      cases hk
    · exact e
  · omega
theorem or_i64 (a b : Nat) (ha : a < 9223372036854775808) (hb : b < 9223372036854775808) : bits .or .i64 (a : Int) (b : Int) = ((a ||| b : Nat) : Int) :=
  (bits_nat .i64 63 (by decide) (fun n h0 h1 => by rw [IntKind.wrap_i64]; omega) a b ha hb).2
/-- a symbol, an error; the reader has moved on -/
def NextRet (s : ByteArray) (R : Nat) (r : Nat × Nat × Nat) (w : World) (e : Ending) (w' : World) : Prop := e = .returned (.tuple #[.int .i64 (r.1 : Int), .int .i64 (r.2.1 : Int)]) ∧ Turned w w' R 91 (rdr s r.2.2)
/-- how far it is: what is told from here on -/
def NextAt (L : List Nat) (s : List Nat) (p wd : Nat) : Prop := (0 < lgN L wd → wd ≤ 15 ∧ fstN L wd ≤ 2 * VN s p (wd - 1) ∧ toldW L s p 15 1 = toldW L s p (16 - wd) wd) ∧ (lgN L wd = 0 → toldW L s p 15 1 = (0, 70, p + (wd - 1)))
theorem NextAt.first {L s : List Nat} {p : Nat} (h : RightN L) : NextAt L s p 1 := ⟨fun _ => ⟨by omega, by unfold fstN; rw [posW_one]; simp, rfl⟩, fun h0 => by have := h.some; omega⟩
theorem NextAt.miss {L s : List Nat} {p wd : Nat} (h : RightN L) (hg : 0 < lgN L wd) (h1 : 1 ≤ wd) (hat : NextAt L s p wd) (hv : fstN L wd + cntN L wd ≤ VN s p wd) (hs : p + wd ≤ 8 * s.length) : NextAt L s p (wd + 1) := by
  obtain ⟨q1, q2, q3⟩ := hat.1 hg
  rw [show 16 - wd = 15 - wd + 1 by omega] at q3
  rcases h.miss (d := 15 - wd) h1 q1 hv hs with ⟨m1, m2, m3⟩ | ⟨m1, m2⟩
  · refine ⟨fun _ => ⟨by omega, ?_, ?_⟩, fun h0 => by omega⟩
    · rw [fstN_step L m2, Nat.add_sub_cancel]; omega
    · rw [q3, m3, show 16 - (wd + 1) = 15 - wd by omega]
  · refine ⟨fun h0 => by omega, fun _ => ?_⟩
    rw [q3, m2, Nat.add_sub_cancel]
theorem p_Next_no (l : List Int) (p : Option Addr) (cap R : Nat) (w : World) (hl : l.length ≤ 310) (hS : Sl w 1 (.slice p l.length cap) (rowsI l)) (hno : ¬ RightI l) :
    Calls Try.prog 74 #[.pointer (some ⟨R, 0, none⟩), .slice p l.length cap] w fun e w' => e = .returned (.tuple #[.int .i64 0, .int .i64 70]) ∧ Below w.heap.size w w' := by
  have hC := p_areCode l p cap w hl hS false (.inr ⟨rfl, hno⟩)
  have HC := Lib.hid hC
  clear hC hS hno
  go_enter Try.func74, Try.ntmps74
  go_wp2_with fail
  (with_reducible refine HC.out.mono ?_)
  rintro e w1 ⟨rfl, hb1⟩
  go_wp2
  go_ret2
  exact ⟨rfl, hb1⟩
set_option maxRecDepth 100000 in
set_option maxHeartbeats 4000000 in
theorem p_Next_yes (L : List Nat) (p : Option Addr) (cap R : Nat) (s : ByteArray) (pos : Nat) (w : World) (hR : RightN L) (hS : Sl w 1 (.slice p L.length cap) (rowsN L)) (hB : Blk w R 91 (rdr s pos)) (hp : pos ≤ 8 * s.size) (hs : s.size ≤ 1000000) (hne : ∀ a, p = some a → a.block ≠ R) :
    Calls Try.prog 74 #[.pointer (some ⟨R, 0, none⟩), .slice p L.length cap] w (NextRet s R (toldW L (sl s) pos 15 1) w) := by
  have hl := hR.1
  have hS' := hS
  rw [← rowsI_nn] at hS'
  have hC1 := p_areCode (nn L) p cap w (by rw [nn_length]; omega) (by rw [nn_length]; exact hS') true (.inl ⟨rfl, hR.int⟩)
  rw [nn_length] at hC1
  have hC2 := fun w1 (h : Below w.heap.size w w1) => p_count (nn L) p cap w1 (by rw [nn_length]; omega) (by rw [nn_length]; exact hS'.below h)
  rw [clL_nn hR.2.1, nn_length] at hC2
  have hC3 := fun w1 => p_firsts L w1 (by omega)
  have hC4 := fun w1 => p_all L w1 (by omega) hR.2.1
  have hfl := fstL_len L
  have hcl := cntL_len L
  have hRl := hB.lt
  obtain ⟨n, hn⟩ : ∃ n, L.length = n := ⟨_, rfl⟩
  have HNN := Lib.hid hn
  have HR := Lib.hid hR
  have HC1 := Lib.hid hC1
  have HC2 := Lib.hid hC2
  have HC3 := Lib.hid hC3
  have HC4 := Lib.hid hC4
  have HFL := Lib.hid hfl
  have HCL := Lib.hid hcl
  have HS := Lib.hid hS
  have HB := Lib.hid hB
  have HNE := Lib.hid hne
  have HG := Lib.hid (fun (n : Nat) (h : n < 16) => fstL_getD (L := L) h)
  have HGC := Lib.hid (fun (n : Nat) (h : n < 16) => cntL_getD (L := L) h)
  rw [hn] at HC1 HC2 HS hl ⊢
  clear hS hS' hC1 hC2 hC3 hC4 hfl hcl hn hR hB hne
  go_enter Try.func74, Try.ntmps74
  go_wp2_with fail
  (with_reducible refine HC1.out.mono ?_)
  rintro e w1 ⟨rfl, hb1⟩
  have hC2 := HC2.out w1 hb1
  have hC2 := Lib.hid hC2
  clear HC1 HC2
  go_wp2_with fail
  (with_reducible refine hC2.out.mono ?_)
  rintro e w2 ⟨rfl, hb2⟩
  have hb02 := hb1.trans (hb2.mono hb1.size)
  clear hC2 hb1 hb2
  generalize hcc : cntL L = c at *
  have HCC := Lib.hid hcc
  obtain ⟨N, hN⟩ : ∃ N, w2.heap.size = N := ⟨_, rfl⟩
  obtain ⟨w3, hw3⟩ : ∃ w3, (w2.alloc (.cells (ints .i64 (nn (zerN 16))).toArray 109)).setRow w2.heap.size (ints .i64 (nn c)).toArray = w3 := ⟨_, rfl⟩
  have KZ := Blk.new' w2 109 (ints .i64 (nn (zerN 16))) rfl
  have K3 : Blk w3 N 109 (ints .i64 (nn c)) := by rw [← hw3, ← hN]; exact KZ.row _ (by rw [ints_length, ints_length, nn_length, nn_length, HCL.out, zerN_len])
  have Kb3 : Below w.heap.size w w3 := by rw [← hw3]; exact below_setRow (hb02.alloc hb02.size _) hb02.size _
  have hwN : w.heap.size ≤ N := by rw [← hN]; exact hb02.size
  have KZ := Lib.hid KZ
  have HK3 := Lib.hid K3
  have HKb3 := Lib.hid Kb3
  have HW3 := Lib.hid hw3
  have HN := Lib.hid hN
  have hC3 := HC3.out w3
  have hC3 := Lib.hid hC3
  clear K3 Kb3 hw3 hN hcc hb02 HC3
  go_wp2_with (first | (refine wpList_alloc_n rfl 109 rfl w2.heap.size rfl _ (alloc_cnts _) ?_) | (refine wpList_store_blk rfl 109 _ _ rfl w2.heap.size (ints .i64 (nn c)) rfl rfl KZ.out (ints16 HCL.out) (by rw [ints_length, ints_length, nn_length, nn_length, HCL.out, zerN_len]) (ints_one _ _) ?_) | (rw [HW3.out, HN.out]; refine wpList_load_blk rfl 109 _ rfl N rfl HK3.out Try.underlying109 rfl (ints16 HCL.out) ?_))
  clear KZ HW3 HN
  (with_reducible refine hC3.out.mono ?_)
  rintro e w4 ⟨rfl, hb4⟩
  have K4 := HK3.out.below hb4 HK3.out.lt
  have Kb4 := HKb3.out.trans (hb4.mono HKb3.out.size)
  clear hC3 HK3 HKb3 hb4
  generalize hff : fstL L = f at *
  have HFF := Lib.hid hff
  obtain ⟨F, hF⟩ : ∃ F, w4.heap.size = F := ⟨_, rfl⟩
  obtain ⟨w5, hw5⟩ : ∃ w5, (w4.alloc (.cells (ints .i64 (nn (zerN 16))).toArray 109)).setRow w4.heap.size (ints .i64 (nn f)).toArray = w5 := ⟨_, rfl⟩
  have KZ := Blk.new' w4 109 (ints .i64 (nn (zerN 16))) rfl
  have hNF : N < F := by rw [← hF]; exact K4.lt
  have K5 : Blk w5 F 109 (ints .i64 (nn f)) := by rw [← hw5, ← hF]; exact KZ.row _ (by rw [ints_length, ints_length, nn_length, nn_length, HFL.out, zerN_len])
  have K5n : Blk w5 N 109 (ints .i64 (nn c)) := by rw [← hw5]; exact (K4.alloc _).rowOther (by rw [hF]; omega) _
  have Kb5 : Below w.heap.size w w5 := by rw [← hw5]; exact below_setRow (Kb4.alloc Kb4.size _) Kb4.size _
  have KZ := Lib.hid KZ
  have HK5 := Lib.hid K5
  have HK5n := Lib.hid K5n
  have HKb5 := Lib.hid Kb5
  have HW5 := Lib.hid hw5
  have HF := Lib.hid hF
  have hC4 := HC4.out w5
  have hC4 := Lib.hid hC4
  clear K4 Kb4 K5 K5n Kb5 hw5 hF hff HC4
  go_wp2_with (first | (refine wpList_alloc_n rfl 109 rfl w4.heap.size rfl _ (alloc_cnts _) ?_) | (refine wpList_store_blk rfl 109 _ _ rfl w4.heap.size (ints .i64 (nn f)) rfl rfl KZ.out (ints16 HFL.out) (by rw [ints_length, ints_length, nn_length, nn_length, HFL.out, zerN_len]) (ints_one _ _) ?_) | (rw [HW5.out, HF.out]; refine wpList_load_blk rfl 109 _ rfl N rfl HK5n.out Try.underlying109 rfl (ints16 HCL.out) ?_))
  clear KZ HW5 HF
  (with_reducible refine hC4.out.mono ?_)
  rintro e w6 ⟨rfl, hb6⟩
  have K6 := Lib.hid (HK5.out.below hb6 HK5.out.lt)
  have K6n := Lib.hid (HK5n.out.below hb6 HK5n.out.lt)
  have Kb6 := HKb5.out.trans (hb6.mono HKb5.out.size)
  have KG6 : Hid (w.grownBy w6 (some R)) := Lib.hid ((grown_below Kb6).but (some R))
  have KR6 : Hid (Blk w6 R 91 (rdr s pos)) := Lib.hid (HB.out.below Kb6 hRl)
  have HAT := Lib.hid (NextAt.first (L := L) (s := sl s) (p := pos) HR.out)
  clear hC4 HK5 HK5n HKb5 hb6 Kb6
  go_wp2_with fail
  go_loopw [8, 9, 10] (fun v i o wr => ∃ wd : Nat, 1 ≤ wd ∧ wd ≤ 16 ∧ i = .int .i64 (wd : Int) ∧ v = .int .i64 ((VN (sl s) pos (wd - 1) : Nat) : Int) ∧ o = .int .i64 ((lgN L wd : Nat) : Int) ∧ NextAt L (sl s) pos wd ∧ pos + (wd - 1) ≤ 8 * s.size ∧ Blk wr R 91 (rdr s (pos + (wd - 1))) ∧ Blk wr N 109 (ints .i64 (nn c)) ∧ Blk wr F 109 (ints .i64 (nn f)) ∧ w.grownBy wr (some R)) (fun _ i _ _ => 17 - (intOf i).toNat)
  case atStart => exact ⟨1, by omega, by omega, rfl, rfl, rfl, HAT.out, by omega, KR6.out, K6n.out, K6.out, KG6.out⟩
  case round =>
    obtain ⟨wd, hw1, hw16, rfl, rfl, rfl, gA, gp, gR, gN, gF, gb⟩ := hrel
    clear K6 K6n KG6 KR6 HAT
    by_cases hlg : 0 < lgN L wd
    · obtain ⟨q1, q2, q3⟩ := gA.1 hlg
      have hd1 : ((0 : Int) < ((lgN L wd : Nat) : Int)) := by omega
      have hd2 : decide (0 < lgN L wd) = true := decide_eq_true hlg
      obtain ⟨q, hq⟩ : ∃ q, pos + (wd - 1) = q := ⟨_, rfl⟩
      rw [hq] at gR gp
      by_cases hsh : 8 * s.size ≤ q
      · have hT := i_Take R s q 1 wr gR (by omega) (by omega) 0 40 q (take_none (by rw [sl_len]; exact hsh))
        have HT := Lib.hid hT
        have ht : toldW L (sl s) pos 15 1 = (0, 40, q) := by
          rw [q3, show 16 - wd = 15 - wd + 1 by omega]
          unfold toldW
          rw [if_pos (by rw [sl_len]; omega), hq]
        have HTo := Lib.hid ht
        have GB := Lib.hid gb
        clear hT ht q1 q2 q3 gA gR gN gF gb hq hsh gp hlg hd2
        go_wp2_with fail
        (with_reducible refine HT.out.mono ?_)
        rintro e w9 ⟨rfl, hT9⟩
        have T : Hid (Turned w w9 R 91 (rdr s q)) := Lib.hid ⟨GB.out.trans hT9.1, hT9.2⟩
        clear hT9
        go_wp2
        go_ret2
        exact ⟨by rw [HTo.out]; rfl, by rw [HTo.out]; exact T.out⟩
      · obtain ⟨b, hb⟩ : ∃ b, bitAt (sl s) q = b := ⟨_, rfl⟩
        have hb2 : b < 2 := by rw [← hb]; exact bitAt_lt _ _
        have hT := i_Take R s q 1 wr gR (by omega) (by omega) b 0 (q + 1) (by rw [take_one (by rw [sl_len]; omega), hb])
        have HT := Lib.hid hT
        obtain ⟨V, hV⟩ : ∃ V, VN (sl s) pos (wd - 1) = V := ⟨_, rfl⟩
        have hVw : VN (sl s) pos wd = V * 2 + b := by
          obtain ⟨d, rfl⟩ : ∃ d, wd = d + 1 := ⟨wd - 1, by omega⟩
          rw [Nat.add_sub_cancel] at hV hq
          rw [VN, hV, hq, hb]
        have hVl : V < 32768 := by
          have h1 := VN_lt (sl s) pos (wd - 1)
          have h2 : 2 ^ (wd - 1) ≤ 2 ^ 15 := Nat.pow_le_pow_right (by decide) (by omega)
          rw [hV] at h1
          omega
        have hor : bits .or .i64 ((V : Int) * 2) (b : Int) = ((V * 2 + b : Nat) : Int) := by
          have e := or_i64 (V * 2) b (by omega) (by omega)
          rw [show ((V * 2 : Nat) : Int) = (V : Int) * 2 by omega] at e
          rw [e, Nat.or_comm]
          have := or_add b V 1 (by omega)
          rw [show V * 2 = V * 2 ^ 1 by omega, this, Nat.add_comm]
        rw [hV] at q2 ⊢
        have GB := Lib.hid gb
        have GA := Lib.hid gA
        have GN := Lib.hid gN
        have GF := Lib.hid gF
        clear hT gA gR gN gF gb hb hlg hd2
        go_wp2_with fail
        (with_reducible refine HT.out.mono ?_)
        rintro e w9 ⟨rfl, hT9⟩
        have gN9 := hT9.other GN.out (show N ≠ R by omega)
        have gF9 := hT9.other GF.out (show F ≠ R by omega)
        have c1 := gN9.nat (j := wd) (by rw [HCL.out]; omega)
        have f1 := gF9.nat (j := wd) (by rw [HFL.out]; omega)
        rw [HG.out wd (by omega)] at f1
        rw [HGC.out wd (by omega)] at c1
        have gN9 := Lib.hid gN9
        have gF9 := Lib.hid gF9
        have T9 : Turned w w9 R 91 (rdr s (q + 1)) := ⟨GB.out.trans hT9.1, hT9.2⟩
        have HT9 := Lib.hid T9
        have hq1 : q + 1 = pos + wd := by omega
        have hsz : pos + wd ≤ 8 * s.size := by omega
        by_cases hit : V * 2 + b < fstN L wd + cntN L wd
        · obtain ⟨r, hr⟩ : ∃ r, V * 2 + b - fstN L wd = r := ⟨_, rfl⟩
          have hcn : cntN L wd = rankN L wd L.length := by unfold cntN; rw [if_neg (by omega)]
          obtain ⟨i, j1, j2, j3⟩ := rank_some L (n := wd) (r := r) (Nat.le_refl _) (by omega)
          have hC := p_symbolOf L p cap wd r i w9 (by have := HR.out.1; omega) HR.out.2.1 (by rw [HNN.out]; exact SlN.turned HS.out T9 HNE.out) j1 j2 j3
          have hww := wordW_fst L j1 (by omega)
          rw [j2, j3] at hww
          have ht : toldW L (sl s) pos 15 1 = (i, 0, q + 1) := by
            rw [q3, show 16 - wd = 15 - wd + 1 by omega, told_hit HR.out.2.1 HR.out.le j1 (by omega) j2 (by omega) (by rw [sl_len]; exact hsz), hq1]
          have HTo := Lib.hid ht
          have er : (V : Int) * 2 + (b : Int) - ((fstN L wd : Nat) : Int) = (r : Int) := by omega
          have e1 : (r : Int) < ((cntN L wd : Nat) : Int) := by omega
          have i1 : (r : Int) ≤ 1000000 := by omega
          rw [HNN.out] at hC
          have HC := Lib.hid hC
          clear hT9 T9 hC hq1 hsz hit hr hcn j1 j2 j3 hww ht q2 q3
          go_wp2_with fail
          (with_reducible refine HC.out.mono ?_)
          rintro e w8 ⟨rfl, rfl⟩
          go_wp2
          go_ret2
          exact ⟨by rw [HTo.out]; rfl, by rw [HTo.out]; exact HT9.out⟩
        · have hA := GA.out.miss HR.out (by omega) hw1 (by rw [hVw]; omega) (by rw [sl_len]; exact hsz)
          have HA := Lib.hid hA
          have hlc := lgN_cnt L (w := wd) (by omega)
          have el : ((lgN L wd : Nat) : Int) - ((cntN L wd : Nat) : Int) = ((lgN L (wd + 1) : Nat) : Int) := by omega
          have e1 : ¬ (V : Int) * 2 + (b : Int) - ((fstN L wd : Nat) : Int) < ((cntN L wd : Nat) : Int) := by omega
          have hRd := T9.2
          have hGd := T9.1
          rw [hq1] at hRd
          have HRd := Lib.hid hRd
          have HGd := Lib.hid hGd
          have HV := Lib.hid hVw
          have hw17 : wd + 1 ≤ 16 := by omega
          have hl1 := lgN_le L (wd + 1)
          have i1 : ((lgN L (wd + 1) : Nat) : Int) ≤ 1000000 := by have := HR.out.1; omega
          have ew : wrap64 (((lgN L wd : Nat) : Int) - ((cntN L wd : Nat) : Int)) = ((lgN L (wd + 1) : Nat) : Int) := by rw [el, Go.IntWalk.wrap64_in _ ⟨by omega, by omega⟩]
          clear hT9 T9 hA hRd hGd hVw hlc hl1 q2 q3 hit
          go_wp2
          go_roundw
          case rel => exact ⟨wd + 1, by omega, hw17, by go_num, by rw [Nat.add_sub_cancel, HV.out]; go_num, by first | rfl | rw [ew] | rw [el], HA.out, by rw [Nat.add_sub_cancel]; exact hsz, by rw [Nat.add_sub_cancel]; exact HRd.out, gN9.out, gF9.out, HGd.out⟩
          case measure => (simp [intOf]; try omega)
    · have h0 : lgN L wd = 0 := by omega
      have ht := gA.2 h0
      have HT := Lib.hid ht
      have T : Hid (Turned w wr R 91 (rdr s (pos + (wd - 1)))) := Lib.hid ⟨gb, gR⟩
      rw [h0]
      clear ht hlg h0 gA gR gN gF gb
      go_wp2
      go_ret2
      exact ⟨by rw [HT.out]; rfl, by rw [HT.out]; exact T.out⟩
end Go.Proofs.Ytpjihjbgihionaa
