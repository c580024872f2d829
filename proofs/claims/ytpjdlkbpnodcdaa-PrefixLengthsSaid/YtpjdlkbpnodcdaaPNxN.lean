/- Which symbol bits are: by the first word of each length, as by the document's words. -/
import Derived.Test.YtpjdlkbpnodcdaaPCdN
namespace Go.Proofs.Ytpjdlkbpnodcdaa
set_option linter.unusedVariables false

/-- how many words are as long as w, or longer -/
def lgN (L : List Nat) (w : Nat) : Nat := (L.filter fun x => decide (w ≤ x)).length
theorem lgN_split (L : List Nat) (w : Nat) : lgN L w = (L.filter fun x => x == w).length + lgN L (w + 1) := by
  unfold lgN
  induction L with
  | nil => rfl
  | cons x L ih =>
    rcases Nat.lt_trichotomy x w with h | h | h
    · rw [List.filter_cons_of_neg (by simp; omega), List.filter_cons_of_neg (by simp; omega), List.filter_cons_of_neg (by simp; omega)]
      exact ih
    · rw [List.filter_cons_of_pos (by simp; omega), List.filter_cons_of_pos (by simp; omega), List.filter_cons_of_neg (by simp; omega)]
      simp only [List.length_cons]
      omega
    · rw [List.filter_cons_of_pos (by simp; omega), List.filter_cons_of_neg (by simp; omega), List.filter_cons_of_pos (by simp; omega)]
      simp only [List.length_cons]
      omega
theorem cntN_filter (L : List Nat) {n : Nat} (h : 0 < n) : cntN L n = (L.filter fun x => x == n).length := by
  unfold cntN rankN
  rw [if_neg (by omega), List.take_length]
theorem lgN_cnt (L : List Nat) {w : Nat} (h : 0 < w) : lgN L w = cntN L w + lgN L (w + 1) := by rw [cntN_filter L h]; exact lgN_split L w
theorem lgN_pos {L : List Nat} {w : Nat} : 0 < lgN L w ↔ ∃ i, i < L.length ∧ w ≤ L.getD i 0 := by
  unfold lgN
  constructor
  · intro h
    obtain ⟨x, hx⟩ := List.exists_mem_of_length_pos h
    obtain ⟨h1, h2⟩ := List.mem_filter.1 hx
    obtain ⟨i, hi, rfl⟩ := mem_getD h1
    exact ⟨i, hi, of_decide_eq_true h2⟩
  · rintro ⟨i, hi, h⟩
    exact List.length_pos_of_mem (List.mem_filter.2 ⟨getD_mem L i hi, decide_eq_true h⟩)
theorem lgN_le (L : List Nat) (w : Nat) : lgN L w ≤ L.length := List.length_filter_le _ _
theorem lgN_end {L : List Nat} (h : ∀ i, L.getD i 0 ≤ 15) : lgN L 16 = 0 := by
  rcases Nat.eq_zero_or_pos (lgN L 16) with e | e
  · exact e
  · obtain ⟨i, _, h2⟩ := lgN_pos.1 e
    have := h i
    omega
/-- the sum of what is counted below j -/
def allK (L : List Nat) : Nat → Nat | 0 => 0 | j + 1 => allK L j + cntN L j
theorem allK_lg (L : List Nat) : ∀ j, allK L (j + 1) + lgN L (j + 1) = lgN L 1
  | 0 => by
    show 0 + cntN L 0 + lgN L 1 = _
    have : cntN L 0 = 0 := rfl
    omega
  | j + 1 => by
    have ih := allK_lg L j
    have h1 := lgN_cnt L (w := j + 1) (by omega)
    show allK L (j + 1) + cntN L (j + 1) + lgN L (j + 1 + 1) = _
    omega
theorem allK_all {L : List Nat} (h : ∀ i, L.getD i 0 ≤ 15) : allK L 16 = lgN L 1 := by
  have := allK_lg L 15
  rw [lgN_end h] at this
  exact this
theorem allK_le (L : List Nat) (j : Nat) : allK L j ≤ L.length := by
  cases j with
  | zero => exact Nat.zero_le _
  | succ j =>
    have := allK_lg L j
    have := lgN_le L 1
    omega
theorem posW_low (L : List Nat) : ∀ d, d ≤ 14 → posW L (d + 2) 0 + lgN L (d + 2) * 2 ^ 13 ≤ posW L 2 0 + lgN L 2 * 2 ^ 13
  | 0, _ => Nat.le_refl _
  | d + 1, h => by
    have ih := posW_low L d (by omega)
    have h1 := posW_cnt L (d + 2)
    have h2 := lgN_cnt L (w := d + 2) (by omega)
    have h3 : 2 ^ (15 - (d + 2)) ≤ 2 ^ 13 := Nat.pow_le_pow_right (by decide) (by omega)
    have h4 := Nat.mul_le_mul_left (cntN L (d + 2)) h3
    rw [h2, Nat.add_mul] at ih
    rw [show d + 1 + 2 = d + 2 + 1 by omega, h1]
    omega
theorem posW_high (L : List Nat) (h : lgN L 2 = 0) : ∀ d, posW L (d + 2) 0 = posW L 2 0
  | 0 => rfl
  | d + 1 => by
    have ih := posW_high L h d
    have h1 := posW_cnt L (d + 2)
    have hz : lgN L (d + 2) = 0 := by
      rcases Nat.eq_zero_or_pos (lgN L (d + 2)) with e | e
      · exact e
      · obtain ⟨i, hi, h2⟩ := lgN_pos.1 e
        have := lgN_pos.2 ⟨i, hi, show 2 ≤ L.getD i 0 by omega⟩
        omega
    have h2 := lgN_cnt L (w := d + 2) (by omega)
    have h3 : cntN L (d + 2) = 0 := by omega
    rw [show d + 1 + 2 = d + 2 + 1 by omega, h1, h3, ih]
    omega
/-- one word of one bit: by counts, or by the sum -/
theorem single_iff {L : List Nat} (h15 : ∀ i, L.getD i 0 ≤ 15) : (cntN L 1 = 1 ∧ lgN L 1 = 1) ↔ (lgN L 1 = 1 ∧ kraftW L = 16384) := by
  have hp := posW_all h15
  have h1 : posW L 2 0 = posW L 1 0 + cntN L 1 * 2 ^ (15 - 1) := posW_cnt L 1
  rw [posW_one] at h1
  have h2 : lgN L 1 = cntN L 1 + lgN L 2 := lgN_cnt L (w := 1) (by omega)
  constructor
  · rintro ⟨a, b⟩
    refine ⟨b, ?_⟩
    have := posW_high L (by omega) 14
    rw [← hp, this, h1, a]
  · rintro ⟨a, b⟩
    refine ⟨?_, a⟩
    rcases Nat.lt_or_ge 0 (cntN L 1) with h | h
    · omega
    · have h0 : cntN L 1 = 0 := by omega
      have := posW_low L 14 (by omega)
      rw [hp, b, h1, h0] at this
      have h3 : lgN L 2 = 1 := by omega
      rw [h3] at this
      omega
/-! ### which one it is -/
/-- the first w bits from p on, as a word -/
def VN (s : List Nat) (p : Nat) : Nat → Nat | 0 => 0 | w + 1 => VN s p w * 2 + bitAt s (p + w)
theorem VN_lt (s : List Nat) (p : Nat) : ∀ w, VN s p w < 2 ^ w
  | 0 => by simp [VN]
  | w + 1 => by
    have := VN_lt s p w
    have := bitAt_lt s (p + w)
    rw [VN, Nat.pow_succ]
    omega
theorem VN_div (s : List Nat) (p a : Nat) : ∀ b, VN s p (a + b) / 2 ^ b = VN s p a
  | 0 => by simp
  | b + 1 => by
    have := bitAt_lt s (p + (a + b))
    rw [← Nat.add_assoc, VN, Nat.pow_succ, Nat.mul_comm (2 ^ b) 2, ← Nat.div_div_eq_div_mul, show (VN s p (a + b) * 2 + bitAt s (p + (a + b))) / 2 = VN s p (a + b) by omega]
    exact VN_div s p a b
theorem VN_rev (s : List Nat) (p w : Nat) : revN (VN s p w) w = numB s p w := by
  unfold revN numB
  refine accB_congr fun j hj => ?_
  have h := VN_div s p (j + 1) (w - 1 - j)
  rw [show j + 1 + (w - 1 - j) = w by omega] at h
  rw [h, VN]
  have := bitAt_lt s (p + j)
  omega
theorem wordW_fst (L : List Nat) {i : Nat} (hi : i < L.length) (h0 : 0 < L.getD i 0) : wordW L i = fstN L (L.getD i 0) + rankN L (L.getD i 0) i := by
  rw [wordW_next, nextN_rank L h0 (by omega)]
theorem rank_lt (L : List Nat) {i : Nat} (hi : i < L.length) (h0 : 0 < L.getD i 0) : rankN L (L.getD i 0) i < cntN L (L.getD i 0) := by
  unfold cntN
  rw [if_neg (by omega)]
  have h1 := rankN_step L (L.getD i 0) i hi
  rw [if_pos rfl] at h1
  have := rankN_mono L (L.getD i 0) (show i + 1 ≤ L.length by omega)
  omega
/-- the symbol of a rank -/
theorem rank_some (L : List Nat) {n r : Nat} : ∀ {m : Nat}, m ≤ L.length → r < rankN L n m → ∃ i, i < m ∧ L.getD i 0 = n ∧ rankN L n i = r
  | 0, _, h => by rw [rankN_zero] at h; omega
  | m + 1, hm, h => by
    rw [rankN_step L n m (by omega)] at h
    rcases Nat.lt_or_ge r (rankN L n m) with h' | h'
    · obtain ⟨i, h1, h2, h3⟩ := rank_some L (m := m) (by omega) h'
      exact ⟨i, by omega, h2, h3⟩
    · split at h
      · rename_i e
        exact ⟨m, by omega, e, by omega⟩
      · omega
/-- a hit -/
theorem told_hit {L s : List Nat} {p : Nat} (h15 : ∀ i, L.getD i 0 ≤ 15) (hK : kraftW L ≤ 2 ^ 15) {i w d : Nat} (hi : i < L.length) (hw : 0 < w) (h1 : L.getD i 0 = w) (h2 : wordW L i = VN s p w) (hs : p + w ≤ 8 * s.length) : toldW L s p (d + 1) w = (i, 0, p + w) := by
  have hc : codeW L i = numB s p w := by unfold codeW; rw [h1, h2, VN_rev]
  unfold toldW
  rw [if_neg (by omega), hitW_some (i := i) hi h1 hc (fun k hk k1 k2 => codeW_inj L hi hk (by omega) (by rw [k1, h1]) (h15 i) hK (by rw [k2, hc]))]
theorem no_hit {L s : List Nat} {p : Nat} (h15 : ∀ i, L.getD i 0 ≤ 15) (hK : kraftW L ≤ 2 ^ 15) {w : Nat} (hw : 0 < w) (h : fstN L w + cntN L w ≤ VN s p w) : hitW L (numB s p w) w = none := by
  refine hitW_none fun k hk k1 k2 => ?_
  have h1 := wordW_fst L hk (by omega)
  have h2 := rank_lt L hk (by omega)
  have h3 := wordW_lt L hk (by omega) (h15 k) hK
  rw [k1] at h1 h2 h3
  have h4 : revN (wordW L k) w = revN (VN s p w) w := by
    rw [VN_rev, ← k2]
    unfold codeW
    rw [k1]
  have := revN_inj h3 (VN_lt s p w) h4
  omega
theorem no_more {L : List Nat} {w : Nat} (h : lgN L (w + 1) = 0) (n : Nat) : moreW L n w = false := by
  unfold moreW
  rw [List.any_eq_false]
  intro i hi
  rw [List.mem_range] at hi
  have : ¬ w < L.getD i 0 := fun h' => by
    have := lgN_pos.2 ⟨i, hi, show w + 1 ≤ L.getD i 0 by omega⟩
    omega
  rw [decide_eq_false this]
  simp
/-- whose place a number is -/
theorem findW {L : List Nat} (h15 : ∀ i, L.getD i 0 ≤ 15) {x : Nat} (hx : x < kraftW L) : ∀ d n, n + d = 16 → 0 < n → posW L n 0 ≤ x → ∃ i, i < L.length ∧ n ≤ L.getD i 0 ∧ posW L (L.getD i 0) i ≤ x ∧ x < posW L (L.getD i 0) i + 2 ^ (15 - L.getD i 0)
  | 0, n, hn, h0, h1 => by
    have : n = 16 := by omega
    subst this
    rw [posW_all h15] at h1
    omega
  | d + 1, n, hn, h0, h1 => by
    rcases Nat.lt_or_ge x (posW L (n + 1) 0) with h | h
    · have key : ∀ m, m ≤ L.length → x < posW L n m → ∃ i, i < m ∧ L.getD i 0 = n ∧ posW L n i ≤ x ∧ x < posW L n (i + 1) := by
        intro m
        induction m with
        | zero => intro _ h'; omega
        | succ m ih =>
          intro hm h'
          rcases Nat.lt_or_ge x (posW L n m) with h2 | h2
          · obtain ⟨i, q1, q2⟩ := ih (by omega) h2
            exact ⟨i, by omega, q2⟩
          · refine ⟨m, by omega, ?_, h2, h'⟩
            have := posW_step L h0 (i := m) (by omega)
            by_cases e : L.getD m 0 = n
            · exact e
            · rw [if_neg e] at this; omega
      rw [← posW_next] at h
      obtain ⟨i, q1, q2, q3, q4⟩ := key L.length (Nat.le_refl _) h
      have := posW_step L h0 (i := i) q1
      rw [if_pos q2] at this
      refine ⟨i, q1, by omega, ?_, ?_⟩
      · rw [q2]; exact q3
      · rw [q2]; omega
    · obtain ⟨i, q1, q2, q3⟩ := findW h15 hx d (n + 1) (by omega) (by omega) h
      exact ⟨i, q1, by omega, q3⟩
/-- in a whole code more comes wherever no word was hit -/
theorem more_whole {L s : List Nat} {p : Nat} (h15 : ∀ i, L.getD i 0 ≤ 15) (hW : kraftW L = 2 ^ 15) {w : Nat} (hw : 0 < w) (hw15 : w ≤ 15) (h : fstN L w + cntN L w ≤ VN s p w) : moreW L (numB s p w) w = true ∧ 0 < lgN L (w + 1) := by
  have hv := VN_lt s p w
  have e15 : 2 ^ 15 = 2 ^ w * 2 ^ (15 - w) := by rw [← Nat.pow_add]; congr 1; omega
  have hP := Nat.two_pow_pos (15 - w)
  have hx : VN s p w * 2 ^ (15 - w) < kraftW L := by rw [hW, e15]; exact Nat.mul_lt_mul_of_pos_right hv hP
  have hlow : posW L (w + 1) 0 ≤ VN s p w * 2 ^ (15 - w) := by
    rw [posW_cnt, ← fstN_mul L hw15, ← Nat.add_mul]
    exact Nat.mul_le_mul_right _ h
  obtain ⟨i, q1, q2, q3, q4⟩ := findW h15 hx (15 - w) (w + 1) (by omega) (by omega) hlow
  refine ⟨?_, lgN_pos.2 ⟨i, q1, q2⟩⟩
  have hpw := wordW_pos L (h15 i)
  have hp2 := Nat.two_pow_pos (15 - L.getD i 0)
  have e : 2 ^ (15 - w) = 2 ^ (L.getD i 0 - w) * 2 ^ (15 - L.getD i 0) := by
    have := h15 i
    rw [← Nat.pow_add]; congr 1; omega
  rw [← hpw] at q3 q4
  rw [e, ← Nat.mul_assoc] at q3 q4
  have h1 : wordW L i ≤ VN s p w * 2 ^ (L.getD i 0 - w) := Nat.le_of_mul_le_mul_right q3 hp2
  have h2 : VN s p w * 2 ^ (L.getD i 0 - w) < wordW L i + 1 := by
    refine Nat.lt_of_mul_lt_mul_right (a := 2 ^ (15 - L.getD i 0)) ?_
    rw [Nat.add_mul, Nat.one_mul]
    exact q4
  have h3 : wordW L i = VN s p w * 2 ^ (L.getD i 0 - w) := by omega
  unfold moreW
  rw [List.any_eq_true]
  refine ⟨i, List.mem_range.2 q1, ?_⟩
  rw [Bool.and_eq_true, decide_eq_true_eq, beq_iff_eq]
  refine ⟨by omega, ?_⟩
  unfold codeW
  rw [revN_mod (by omega), h3, Nat.mul_div_cancel _ (Nat.two_pow_pos _), VN_rev]
/-- lengths of a code -/
def RightN (L : List Nat) : Prop := L.length ≤ 300 ∧ (∀ i, L.getD i 0 ≤ 15) ∧ (kraftW L = 2 ^ 15 ∨ (cntN L 1 = 1 ∧ lgN L 1 = 1))
theorem RightN.le {L : List Nat} (h : RightN L) : kraftW L ≤ 2 ^ 15 := by
  obtain ⟨_, h15, h | h⟩ := h
  · omega
  · rw [((single_iff h15).1 h).2]; decide
/-- where no word was hit: the same by what is told, and by counts -/
theorem RightN.miss {L s : List Nat} {p w d : Nat} (h : RightN L) (hw : 0 < w) (hw15 : w ≤ 15) (hv : fstN L w + cntN L w ≤ VN s p w) (hs : p + w ≤ 8 * s.length) :
    (0 < lgN L (w + 1) ∧ w < 15 ∧ toldW L s p (d + 1) w = toldW L s p d (w + 1)) ∨ (lgN L (w + 1) = 0 ∧ toldW L s p (d + 1) w = (0, 70, p + w)) := by
  have hn := no_hit h.2.1 h.le hw hv
  have key : toldW L s p (d + 1) w = if moreW L (numB s p w) w then toldW L s p d (w + 1) else (0, 70, p + w) := by
    conv => lhs; unfold toldW
    rw [if_neg (by omega), hn]
  rw [key]
  rcases h.2.2 with hW | ⟨h1, h2⟩
  · obtain ⟨q1, q2⟩ := more_whole h.2.1 hW hw hw15 hv
    refine .inl ⟨q2, ?_, by rw [if_pos q1]⟩
    obtain ⟨i, _, hi⟩ := lgN_pos.1 q2
    have := h.2.1 i
    omega
  · have h3 : lgN L (w + 1) = 0 := by
      have h4 := lgN_cnt L (w := 1) (by omega)
      rcases Nat.eq_zero_or_pos (lgN L (w + 1)) with e | e
      · exact e
      · obtain ⟨i, hi, h5⟩ := lgN_pos.1 e
        have := lgN_pos.2 ⟨i, hi, show 1 + 1 ≤ L.getD i 0 by omega⟩
        omega
    exact .inr ⟨h3, by rw [no_more h3]; rfl⟩
end Go.Proofs.Ytpjdlkbpnodcdaa
