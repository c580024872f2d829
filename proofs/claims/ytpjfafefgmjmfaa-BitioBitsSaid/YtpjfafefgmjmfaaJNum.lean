/- Bytes that are filled bit by bit; what a reader's end tells: by plain numbers. -/
import Derived.Test.YtpjfafefgmjmfaaBNum
namespace Go.Proofs.Ytpjfafefgmjmfaa
set_option linter.unusedVariables false

/-- N bytes, with these bits first and zeros behind -/
def partB (N : Nat) (pre : List Nat) : List Nat := (List.range N).map fun j => accB (fun k => pre.getD (8 * j + k) 0) 8
theorem partB_len (N : Nat) (pre : List Nat) : (partB N pre).length = N := by simp [partB]
theorem partB_full (b : List Nat) : partB ((b.length + 7) / 8) b = bytesB b := rfl
theorem partB_getD {N : Nat} (pre : List Nat) {j : Nat} (h : j < N) : (partB N pre).getD j 0 = accB (fun k => pre.getD (8 * j + k) 0) 8 := map_range_getD _ _ _ h
theorem partB_nil (N : Nat) : partB N [] = zerN N := by
  refine getD_ext N (partB_len _ _) (zerN_len _) fun j hj => ?_
  rw [partB_getD _ hj]
  have h := accB_zeros (b := fun k => ([] : List Nat).getD (8 * j + k) 0) (m := 0) (d := 8) (fun k _ => by simp)
  rw [show 0 + 8 = 8 from rfl] at h
  rw [h]
  simp [accB, zerN, hj]
theorem partB_low {N : Nat} {pre : List Nat} (hb : Bits01 pre) (h : pre.length < 8 * N) : (partB N pre).getD (pre.length / 8) 0 = accB (fun k => pre.getD (8 * (pre.length / 8) + k) 0) (pre.length % 8) ∧ (partB N pre).getD (pre.length / 8) 0 < 2 ^ (pre.length % 8) := by
  have hr : pre.length % 8 < 8 := Nat.mod_lt _ (by decide)
  have e : (partB N pre).getD (pre.length / 8) 0 = accB (fun k => pre.getD (8 * (pre.length / 8) + k) 0) (pre.length % 8) := by
    rw [partB_getD _ (by omega)]
    have h := accB_zeros (b := fun k => pre.getD (8 * (pre.length / 8) + k) 0) (m := pre.length % 8) (d := 8 - pre.length % 8) (fun k hk => getD_over (by omega))
    rw [show pre.length % 8 + (8 - pre.length % 8) = 8 by omega] at h
    exact h
  refine ⟨e, ?_⟩
  rw [e]
  exact accB_lt fun j _ => hb _
theorem partB_snoc {N : Nat} {pre : List Nat} (x : Nat) (hb : Bits01 pre) (h : pre.length < 8 * N) :
    partB N (pre ++ [x]) = (partB N pre).set (pre.length / 8) ((partB N pre).getD (pre.length / 8) 0 ||| x * 2 ^ (pre.length % 8)) := by
  obtain ⟨e1, e2⟩ := partB_low hb h
  rw [or_add _ _ _ e2, e1]
  refine getD_ext N (partB_len _ _) (by rw [List.length_set, partB_len]) fun j hj => ?_
  rw [getD_set _ _ _ _ (by rw [partB_len]; omega), partB_getD _ hj]
  by_cases ej : pre.length / 8 = j
  · rw [if_pos ej]
    subst ej
    have hz := accB_zeros (b := fun k => (pre ++ [x]).getD (8 * (pre.length / 8) + k) 0) (m := pre.length % 8 + 1) (d := 8 - (pre.length % 8 + 1)) (fun k hk => getD_over (by rw [List.length_append, List.length_singleton]; omega))
    have hr : pre.length % 8 < 8 := Nat.mod_lt _ (by decide)
    rw [show pre.length % 8 + 1 + (8 - (pre.length % 8 + 1)) = 8 by omega] at hz
    rw [hz]
    show accB _ (pre.length % 8) + (pre ++ [x]).getD (8 * (pre.length / 8) + pre.length % 8) 0 * 2 ^ (pre.length % 8) = _
    congr 1
    · exact accB_congr fun k hk => by rw [getD_app, if_pos (by omega)]
    · rw [getD_app, if_neg (by omega), show 8 * (pre.length / 8) + pre.length % 8 - pre.length = 0 by omega]
      rfl
  · rw [if_neg ej, partB_getD _ hj]
    refine accB_congr fun k hk => ?_
    rw [getD_app]
    split
    · rfl
    · rename_i hge
      rw [getD_over (l := [x]) (by simp; omega), getD_over (l := pre) (by omega)]
theorem partB_bys {N : Nat} {pre : List Nat} (hb : Bits01 pre) : Bys (partB N pre) := fun j => by
  by_cases hj : j < N
  · rw [partB_getD _ hj]; exact accB_lt fun k _ => hb _
  · rw [getD_over (by rw [partB_len]; omega)]; decide
/-! ### the number of what is left -/
theorem accB_pos {b : Nat → Nat} : ∀ {k : Nat}, accB b k ≠ 0 → ∃ i, i < k ∧ b i ≠ 0
  | 0, h => absurd rfl h
  | k + 1, h => by
    by_cases h0 : b k = 0
    · simp only [accB, h0] at h
      obtain ⟨i, hi, hb⟩ := accB_pos (b := b) (k := k) (by simpa using h)
      exact ⟨i, by omega, hb⟩
    · exact ⟨k, by omega, h0⟩
theorem accB_pos_of {b : Nat → Nat} : ∀ {k : Nat} {i : Nat}, i < k → b i ≠ 0 → accB b k ≠ 0
  | 0, _, h, _ => by omega
  | k + 1, i, h, hb => by
    simp only [accB]
    by_cases e : i = k
    · subst e
      have := Nat.mul_pos (Nat.pos_of_ne_zero hb) (Nat.two_pow_pos i)
      omega
    · have := accB_pos_of (b := b) (k := k) (i := i) (by omega) hb
      omega
/-- fewer than eight bits are left, and their number is not 0: one is 1 -/
theorem endP_few {s : List Nat} {p : Nat} (hp : p ≤ 8 * s.length) (h : 8 * s.length - p < 8) : endP s p = if numB s p (8 * s.length - p) = 0 then 0 else 42 := by
  unfold endP
  rw [if_neg (by omega)]
  by_cases h0 : numB s p (8 * s.length - p) = 0
  · rw [if_pos h0, if_neg]
    rintro ⟨i, h1, h2, h3⟩
    refine accB_pos_of (b := fun j => bitAt s (p + j)) (k := 8 * s.length - p) (i := i - p) (by omega) ?_ h0
    show bitAt s (p + (i - p)) ≠ 0
    rw [show p + (i - p) = i by omega, h3]
    decide
  · rw [if_neg h0, if_pos]
    obtain ⟨i, hi, hb⟩ := accB_pos h0
    exact ⟨p + i, by omega, by omega, by have := bitAt_lt s (p + i); omega⟩
theorem endP_many {s : List Nat} {p : Nat} (h : 8 ≤ 8 * s.length - p) : endP s p = 42 := by unfold endP; rw [if_pos h]
end Go.Proofs.Ytpjfafefgmjmfaa
