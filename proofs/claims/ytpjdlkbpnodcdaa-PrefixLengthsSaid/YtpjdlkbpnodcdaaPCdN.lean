/- Words counted by their lengths: how many there are, the first one of each length, which one bits are, by plain numbers. -/
import Derived.Test.YtpjdlkbpnodcdaaPLen
import Derived.Test.YtpjdlkbpnodcdaaPMrgN
namespace Go.Proofs.Ytpjdlkbpnodcdaa
set_option linter.unusedVariables false

/-- how many of the first i are n -/
def rankN (L : List Nat) (n i : Nat) : Nat := ((L.take i).filter fun x => x == n).length
def cntN (L : List Nat) (n : Nat) : Nat := if n = 0 then 0 else rankN L n L.length
def cntL (L : List Nat) : List Nat := (List.range 16).map (cntN L)
theorem cntL_len (L : List Nat) : (cntL L).length = 16 := by simp [cntL]
theorem cntL_getD {L : List Nat} {n : Nat} (h : n < 16) : (cntL L).getD n 0 = cntN L n := map_range_getD _ _ _ h
theorem rankN_zero (L : List Nat) (n : Nat) : rankN L n 0 = 0 := by simp [rankN]
theorem rankN_step (L : List Nat) (n i : Nat) (h : i < L.length) : rankN L n (i + 1) = rankN L n i + if L.getD i 0 = n then 1 else 0 := by
  unfold rankN
  rw [take_snoc L i h, List.filter_append, List.length_append]
  by_cases e : L.getD i 0 = n
  · rw [if_pos e, List.filter_cons_of_pos (by simpa using e)]; rfl
  · rw [if_neg e, List.filter_cons_of_neg (by simpa using e)]; rfl
theorem rankN_le (L : List Nat) (n i : Nat) : rankN L n i ≤ i := by
  unfold rankN
  refine Nat.le_trans (List.length_filter_le _ _) ?_
  rw [List.length_take]
  omega
theorem rankN_mono (L : List Nat) (n : Nat) {i j : Nat} (h : i ≤ j) : rankN L n i ≤ rankN L n j := by
  unfold rankN
  refine List.Sublist.length_le ?_
  refine List.Sublist.filter _ ?_
  exact List.take_sublist_take_left h
theorem rankN_take (L : List Nat) (n i j : Nat) (h : i ≤ j) : rankN (L.take j) n i = rankN L n i := by
  unfold rankN
  rw [List.take_take, Nat.min_eq_left h]
theorem cntN_le (L : List Nat) (n : Nat) : cntN L n ≤ L.length := by
  unfold cntN
  split
  · omega
  · exact rankN_le _ _ _
theorem cntL_step (L : List Nat) (j : Nat) (hj : j < L.length) (h15 : L.getD j 0 ≤ 15) : cntL (L.take (j + 1)) = if L.getD j 0 = 0 then cntL (L.take j) else (cntL (L.take j)).set (L.getD j 0) ((cntL (L.take j)).getD (L.getD j 0) 0 + 1) := by
  have key : ∀ n, n ≠ 0 → cntN (L.take (j + 1)) n = cntN (L.take j) n + if L.getD j 0 = n then 1 else 0 := fun n hn => by
    unfold cntN
    rw [if_neg hn, if_neg hn]
    have l1 : (L.take (j + 1)).length = j + 1 := by rw [List.length_take]; omega
    have l2 : (L.take j).length = j := by rw [List.length_take]; omega
    rw [l1, l2, rankN_take _ _ _ _ (Nat.le_refl _), rankN_take _ _ _ _ (Nat.le_refl _), rankN_step _ _ _ hj]
  by_cases h0 : L.getD j 0 = 0
  · rw [if_pos h0]
    refine getD_ext 16 (cntL_len _) (cntL_len _) fun n hn => ?_
    rw [cntL_getD hn, cntL_getD hn]
    by_cases e : n = 0
    · subst e; rfl
    · rw [key n e, if_neg (by omega), Nat.add_zero]
  · rw [if_neg h0]
    refine getD_ext 16 (cntL_len _) (by rw [List.length_set, cntL_len]) fun n hn => ?_
    have hb : L.getD j 0 < 16 := by omega
    rw [getD_set _ _ _ _ (by rw [cntL_len]; exact hb), cntL_getD hn, cntL_getD hb, cntL_getD hn]
    by_cases e : n = 0
    · subst e; rw [if_neg h0]; rfl
    · rw [key n e]
      by_cases e2 : L.getD j 0 = n
      · rw [if_pos e2, if_pos e2, e2]
      · rw [if_neg e2, if_neg e2, Nat.add_zero]
theorem cntL_nil : cntL [] = zerN 16 := by decide
theorem posW_rank (L : List Nat) {n : Nat} (hn : 0 < n) : ∀ {i : Nat}, i ≤ L.length → posW L n i = posW L n 0 + rankN L n i * 2 ^ (15 - n)
  | 0, _ => by rw [rankN_zero]; omega
  | i + 1, h => by
    rw [posW_step L hn h, posW_rank L hn (i := i) (by omega), rankN_step L n i h]
    split
    · rw [Nat.add_mul]; omega
    · rfl
/-- the first word of a length -/
def fstN (L : List Nat) (n : Nat) : Nat := posW L n 0 / 2 ^ (15 - n)
theorem posW_zero (L : List Nat) (i : Nat) : posW L 0 i = 0 := sumW_none fun j _ h => by
  have h0 : L.getD j 0 = 0 := by have := of_decide_eq_true h; omega
  unfold wgtL wgt
  rw [h0]
  rfl
theorem fstN_zero (L : List Nat) : fstN L 0 = 0 := by unfold fstN; rw [posW_zero, Nat.zero_div]
theorem posW_cnt (L : List Nat) (n : Nat) : posW L (n + 1) 0 = posW L n 0 + cntN L n * 2 ^ (15 - n) := by
  rw [← posW_next]
  unfold cntN
  by_cases h : n = 0
  · subst h; rw [if_pos rfl, posW_zero, posW_zero, Nat.zero_mul]
  · rw [if_neg h, posW_rank L (by omega) (Nat.le_refl _)]
theorem fstN_mul (L : List Nat) {n : Nat} (h : n ≤ 15) : fstN L n * 2 ^ (15 - n) = posW L n 0 := Nat.div_mul_cancel (posW_dvd L 0 h)
theorem fstN_step (L : List Nat) {n : Nat} (h : n < 15) : fstN L (n + 1) = (fstN L n + cntN L n) * 2 := by
  have h1 := fstN_mul L (n := n) (by omega)
  have h2 := fstN_mul L (n := n + 1) (by omega)
  have h3 := posW_cnt L n
  have e : 2 ^ (15 - n) = 2 * 2 ^ (15 - (n + 1)) := by rw [← Nat.pow_succ']; congr 1; omega
  have hp := Nat.two_pow_pos (15 - (n + 1))
  rw [← h1, ← h2, e] at h3
  refine Nat.eq_of_mul_eq_mul_right hp ?_
  rw [h3, ← Nat.add_mul, Nat.mul_assoc]
def fstL (L : List Nat) : List Nat := (List.range 16).map (fstN L)
theorem fstL_len (L : List Nat) : (fstL L).length = 16 := by simp [fstL]
theorem fstL_getD {L : List Nat} {n : Nat} (h : n < 16) : (fstL L).getD n 0 = fstN L n := map_range_getD _ _ _ h
theorem fstN_le (L : List Nat) : ∀ {n : Nat}, n ≤ 15 → fstN L n ≤ L.length * (2 ^ (n + 1) - 2)
  | 0, _ => by rw [fstN_zero]; omega
  | n + 1, h => by
    rw [fstN_step L (by omega)]
    have h1 := fstN_le L (n := n) (by omega)
    have h2 := cntN_le L n
    have e : 2 ^ (n + 1 + 1) - 2 = 2 * (2 ^ (n + 1) - 2) + 2 := by
      have := Nat.pow_succ 2 (n + 1)
      have hp : 2 ≤ 2 ^ (n + 1) := by
        have := Nat.pow_le_pow_right (show 0 < 2 by decide) (show 1 ≤ n + 1 by omega)
        simpa using this
      omega
    rw [e, Nat.mul_add, ← Nat.mul_assoc, Nat.mul_comm L.length 2, Nat.mul_assoc]
    omega
/-- the next word of length n, ahead of symbol i -/
def nextN (L : List Nat) (n i : Nat) : Nat := posW L n i / 2 ^ (15 - n)
theorem nextN_zero (L : List Nat) (n : Nat) : nextN L n 0 = fstN L n := rfl
theorem nextN_step (L : List Nat) {n i : Nat} (hn : 0 < n) (h : i < L.length) : nextN L n (i + 1) = nextN L n i + if L.getD i 0 = n then 1 else 0 := by
  unfold nextN
  rw [posW_step L hn h]
  split
  · rw [Nat.add_div_right _ (Nat.two_pow_pos _)]
  · rfl
theorem nextN_rank (L : List Nat) {n i : Nat} (hn : 0 < n) (h : i ≤ L.length) : nextN L n i = fstN L n + rankN L n i := by
  unfold nextN fstN
  rw [posW_rank L hn h, Nat.add_mul_div_right _ _ (Nat.two_pow_pos _)]
theorem nextN_none (L : List Nat) (i : Nat) : nextN L 0 i = 0 := by unfold nextN; rw [posW_zero, Nat.zero_div]
theorem nextN_next (L : List Nat) {n : Nat} (h : n < 15) : nextN L (n + 1) 0 = nextN L n L.length * 2 := by
  rw [nextN_zero, fstN_step L h]
  by_cases hn : n = 0
  · subst hn
    rw [nextN_none, fstN_zero]
    rfl
  · rw [nextN_rank L (by omega) (Nat.le_refl _)]
    unfold cntN
    rw [if_neg hn]
theorem wordW_next (L : List Nat) (i : Nat) : wordW L i = nextN L (L.getD i 0) i := rfl
def nextL (L : List Nat) (i : Nat) : List Nat := (List.range 16).map fun n => nextN L n i
theorem nextL_len (L : List Nat) (i : Nat) : (nextL L i).length = 16 := by simp [nextL]
theorem nextL_getD {L : List Nat} {n i : Nat} (h : n < 16) : (nextL L i).getD n 0 = nextN L n i := map_range_getD _ _ _ h
theorem nextL_zero (L : List Nat) : nextL L 0 = fstL L := rfl
theorem nextL_step (L : List Nat) {i : Nat} (h : i < L.length) (h15 : L.getD i 0 ≤ 15) : nextL L (i + 1) = if L.getD i 0 = 0 then nextL L i else (nextL L i).set (L.getD i 0) ((nextL L i).getD (L.getD i 0) 0 + 1) := by
  by_cases h0 : L.getD i 0 = 0
  · rw [if_pos h0]
    refine getD_ext 16 (nextL_len _ _) (nextL_len _ _) fun n hn => ?_
    rw [nextL_getD hn, nextL_getD hn]
    by_cases e : n = 0
    · subst e; rw [nextN_none, nextN_none]
    · rw [nextN_step L (by omega) h, if_neg (by omega), Nat.add_zero]
  · rw [if_neg h0]
    refine getD_ext 16 (nextL_len _ _) (by rw [List.length_set, nextL_len]) fun n hn => ?_
    rw [getD_set _ _ _ _ (by rw [nextL_len]; omega), nextL_getD hn, nextL_getD (by omega), nextL_getD hn]
    by_cases e : n = 0
    · subst e; rw [nextN_none, if_neg h0, nextN_none]
    · rw [nextN_step L (by omega) h]
      by_cases e2 : L.getD i 0 = n
      · rw [if_pos e2, if_pos e2, e2]
      · rw [if_neg e2, if_neg e2, Nat.add_zero]
theorem posW_all {L : List Nat} (h : ∀ i, L.getD i 0 ≤ 15) : posW L 16 0 = kraftW L := sumW_congr fun j hj => by
  have := h j
  exact decide_eq_true (by omega)
/-! ### words turned round -/
theorem accB_head (b : Nat → Nat) : ∀ m, accB b (m + 1) = b 0 + 2 * accB (fun j => b (j + 1)) m
  | 0 => by simp [accB]
  | m + 1 => by
    have ih := accB_head b m
    have e1 : accB b (m + 1 + 1) = accB b (m + 1) + b (m + 1) * 2 ^ (m + 1) := rfl
    have e2 : accB (fun j => b (j + 1)) (m + 1) = accB (fun j => b (j + 1)) m + b (m + 1) * 2 ^ m := rfl
    rw [e1, ih, e2, Nat.pow_succ, Nat.mul_add, ← Nat.mul_assoc, Nat.mul_comm (b (m + 1) * 2 ^ m) 2]
    omega
theorem revN_succ (v t : Nat) : revN v (t + 1) = revN v t * 2 + v / 2 ^ t % 2 := by
  unfold revN
  rw [accB_head]
  have e : accB (fun j => v / 2 ^ (t + 1 - 1 - (j + 1)) % 2) t = accB (fun j => v / 2 ^ (t - 1 - j) % 2) t := accB_congr fun j hj => by
    rw [show t + 1 - 1 - (j + 1) = t - 1 - j by omega]
  rw [e, show t + 1 - 1 - 0 = t by omega]
  omega
theorem revN_zero (v : Nat) : revN v 0 = 0 := rfl
/-- what is 0 from bit t on -/
theorem revN_low {v t : Nat} (h : v / 2 ^ t = 0) : ∀ d, revN v (t + d) = revN v t * 2 ^ d
  | 0 => by simp
  | d + 1 => by
    rw [← Nat.add_assoc, revN_succ, revN_low h d, Nat.pow_add, ← Nat.div_div_eq_div_mul, h, Nat.zero_div, Nat.pow_succ, Nat.mul_assoc]
    omega
/-- turned twice -/
theorem revN_twice {v n : Nat} (h : v < 2 ^ n) : revN (revN v n) n = v := by
  conv => rhs; rw [← accB_bits v h]
  conv => lhs; unfold revN
  refine accB_congr fun j hj => ?_
  have := revN_bit (v := v) (n := n) (i := n - 1 - j) (by omega)
  rw [show n - 1 - (n - 1 - j) = j by omega] at this
  exact this
end Go.Proofs.Ytpjdlkbpnodcdaa
