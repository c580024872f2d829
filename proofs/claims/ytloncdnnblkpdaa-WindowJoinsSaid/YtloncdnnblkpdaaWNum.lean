/- Matches ahead in a text, by plain lists: the longest, the nearest; tokens of a text, and what tokens are joined to. -/
import Derived.Test.YtloncdnnblkpdaaG1
namespace Go.Proofs.Ytloncdnnblkpdaa
set_option linter.unusedVariables false

/-- how many bytes from two places on are the same, d at most -/
def runW (s : List Nat) : Nat → Nat → Nat → Nat
  | 0, _, _ => 0
  | d + 1, a, b => if b < s.length ∧ s.getD a 0 = s.getD b 0 then runW s d (a + 1) (b + 1) + 1 else 0
theorem runW_le (s : List Nat) : ∀ (d a b : Nat), runW s d a b ≤ d
  | 0, _, _ => Nat.le_refl _
  | d + 1, a, b => by
    unfold runW
    have := runW_le s d (a + 1) (b + 1)
    split <;> omega
theorem runW_in (s : List Nat) : ∀ (d a b : Nat), b ≤ s.length → b + runW s d a b ≤ s.length
  | 0, _, b, h => h
  | d + 1, a, b, h => by
    unfold runW
    split
    · rename_i h1
      have := runW_in s d (a + 1) (b + 1) h1.1
      omega
    · omega
theorem runW_same (s : List Nat) : ∀ (d a b i : Nat), i < runW s d a b → s.getD (a + i) 0 = s.getD (b + i) 0
  | 0, _, _, i, h => by unfold runW at h; omega
  | d + 1, a, b, i, h => by
    unfold runW at h
    split at h
    · rename_i h1
      match i with
      | 0 => exact h1.2
      | i + 1 =>
        have := runW_same s d (a + 1) (b + 1) i (by omega)
        rw [show a + (i + 1) = a + 1 + i by omega, show b + (i + 1) = b + 1 + i by omega]
        exact this
    · omega
/-- it goes as far as it can -/
theorem runW_most (s : List Nat) : ∀ (d a b : Nat), runW s d a b = d ∨ s.length ≤ b + runW s d a b ∨ s.getD (a + runW s d a b) 0 ≠ s.getD (b + runW s d a b) 0
  | 0, _, _ => .inl rfl
  | d + 1, a, b => by
    unfold runW
    by_cases h1 : b < s.length ∧ s.getD a 0 = s.getD b 0
    · rw [if_pos h1]
      have h := runW_most s d (a + 1) (b + 1)
      generalize runW s d (a + 1) (b + 1) = r at *
      rw [show a + (r + 1) = a + 1 + r by omega, show b + (r + 1) = b + 1 + r by omega]
      rcases h with h | h | h
      · exact .inl (by omega)
      · exact .inr (.inl h)
      · exact .inr (.inr h)
    · rw [if_neg h1]
      right
      rcases Nat.lt_or_ge b s.length with hb | hb
      · exact .inr fun e => h1 ⟨hb, e⟩
      · exact .inl hb
theorem runW_ge (s : List Nat) : ∀ (d a b m : Nat), m ≤ d → b + m ≤ s.length → (∀ i, i < m → s.getD (a + i) 0 = s.getD (b + i) 0) → m ≤ runW s d a b
  | 0, _, _, m, h, _, _ => by omega
  | d + 1, a, b, m, h, hl, hs => by
    match m with
    | 0 => omega
    | m + 1 =>
      unfold runW
      rw [if_pos ⟨by omega, hs 0 (by omega)⟩]
      have := runW_ge s d (a + 1) (b + 1) m (by omega) (by omega) (fun i hi => by
        have := hs (i + 1) (by omega)
        rw [show a + (i + 1) = a + 1 + i by omega, show b + (i + 1) = b + 1 + i by omega] at this
        exact this)
      omega
/-- the longest of the k nearest, the nearest of the longest -/
def bestW (s : List Nat) (p : Nat) : Nat → Nat × Nat
  | 0 => (0, 0)
  | k + 1 => if (bestW s p k).1 < runW s 34 (p - (k + 1)) p then (runW s 34 (p - (k + 1)) p, k + 1) else bestW s p k
theorem bestW_is (s : List Nat) (p : Nat) : ∀ k, ((bestW s p k).1 = 0 ∧ (bestW s p k).2 = 0) ∨ (1 ≤ (bestW s p k).2 ∧ (bestW s p k).2 ≤ k ∧ (bestW s p k).1 = runW s 34 (p - (bestW s p k).2) p)
  | 0 => .inl ⟨rfl, rfl⟩
  | k + 1 => by
    unfold bestW
    split
    · exact .inr ⟨by simp, by simp, rfl⟩
    · rcases bestW_is s p k with h | h
      · exact .inl h
      · exact .inr ⟨h.1, by omega, h.2.2⟩
theorem bestW_ge (s : List Nat) (p : Nat) : ∀ k j, 1 ≤ j → j ≤ k → runW s 34 (p - j) p ≤ (bestW s p k).1
  | 0, j, h1, h2 => by omega
  | k + 1, j, h1, h2 => by
    unfold bestW
    by_cases e : j = k + 1
    · subst e
      split
      · exact Nat.le_refl _
      · omega
    · have ih := bestW_ge s p k j h1 (by omega)
      split
      · simp; omega
      · exact ih
/-- what matches at p: how long, how far back -/
def matchW (s : List Nat) (p : Nat) : Nat × Nat := if s.length ≤ p then (0, 0) else if (bestW s p (min 512 p)).1 < 3 then (0, 0) else bestW s p (min 512 p)
theorem matchW_none {s : List Nat} {p : Nat} (h : (matchW s p).1 = 0) : (matchW s p).2 = 0 := by
  unfold matchW at h ⊢
  split
  · rfl
  · rename_i h1
    rw [if_neg h1] at h
    split
    · rfl
    · rename_i h2
      rw [if_neg h2] at h
      omega
/-- a match stands ahead, no farther back than the window, is no longer than may be, and is the same bytes; it can't be longer -/
theorem matchW_is {s : List Nat} {p : Nat} (h : (matchW s p).1 ≠ 0) : 3 ≤ (matchW s p).1 ∧ (matchW s p).1 ≤ 34 ∧ 1 ≤ (matchW s p).2 ∧ (matchW s p).2 ≤ 512 ∧ (matchW s p).2 ≤ p ∧ p + (matchW s p).1 ≤ s.length ∧
    (∀ i, i < (matchW s p).1 → s.getD (p + i - (matchW s p).2) 0 = s.getD (p + i) 0) ∧
    ((matchW s p).1 = 34 ∨ p + (matchW s p).1 = s.length ∨ s.getD (p + (matchW s p).1) 0 ≠ s.getD (p + (matchW s p).1 - (matchW s p).2) 0) := by
  unfold matchW at h ⊢
  by_cases h1 : s.length ≤ p
  · rw [if_pos h1] at h; exact absurd rfl h
  · rw [if_neg h1] at h ⊢
    by_cases h2 : (bestW s p (min 512 p)).1 < 3
    · rw [if_pos h2] at h; exact absurd rfl h
    · rw [if_neg h2] at h ⊢
      have hb := bestW_is s p (min 512 p)
      generalize bestW s p (min 512 p) = q at *
      rcases hb with hb | ⟨b1, b2, b3⟩
      · omega
      · have r1 := runW_le s 34 (p - q.2) p
        have r2 := runW_in s 34 (p - q.2) p (by omega)
        have r3 := runW_same s 34 (p - q.2) p
        have r4 := runW_most s 34 (p - q.2) p
        rw [← b3] at r1 r2 r3 r4
        refine ⟨by omega, r1, b1, by omega, by omega, r2, fun i hi => ?_, ?_⟩
        · rw [show p + i - q.2 = p - q.2 + i by omega]; exact r3 i hi
        · rw [show p + q.1 - q.2 = p - q.2 + q.1 by omega]
          rcases r4 with r | r | r
          · exact .inl r
          · exact .inr (.inl (by omega))
          · exact .inr (.inr fun e => r e.symm)
theorem matchW_ge {s : List Nat} {p j m : Nat} (hp : p < s.length) (h1 : 1 ≤ j) (h2 : j ≤ 512) (h3 : j ≤ p) (hm : 3 ≤ m) (hm2 : m ≤ 34) (hl : p + m ≤ s.length) (hs : ∀ i, i < m → s.getD (p - j + i) 0 = s.getD (p + i) 0) : m ≤ (matchW s p).1 := by
  have hr := runW_ge s 34 (p - j) p m hm2 hl hs
  have hb := bestW_ge s p (min 512 p) j h1 (by omega)
  unfold matchW
  rw [if_neg (by omega), if_neg (by omega)]
  omega
/-! ### tokens: (a byte, how long, how far back) -/
def splitW (s : List Nat) : Nat → Nat → List (Nat × Int × Int)
  | 0, _ => []
  | f + 1, p => if s.length ≤ p then [] else if (matchW s p).1 = 0 then (s.getD p 0, 0, 0) :: splitW s f (p + 1) else (0, ((matchW s p).1 : Int), ((matchW s p).2 : Int)) :: splitW s f (p + (matchW s p).1)
/-- n bytes more, each one that stands k back -/
def copyW (k : Nat) : Nat → List Nat → List Nat
  | 0, b => b
  | n + 1, b => copyW k n (b ++ [b.getD (b.length - k) 0])
theorem copyW_len (k : Nat) : ∀ (n : Nat) (b : List Nat), (copyW k n b).length = b.length + n
  | 0, _ => rfl
  | n + 1, b => by
    show (copyW k n _).length = _
    rw [copyW_len k n, List.length_append]
    simp
    omega
theorem copyW_take {s : List Nat} {k : Nat} : ∀ {n p : Nat}, 1 ≤ k → k ≤ p → p + n ≤ s.length → (∀ i, i < n → s.getD (p + i - k) 0 = s.getD (p + i) 0) → copyW k n (s.take p) = s.take (p + n)
  | 0, p, _, _, _, _ => rfl
  | n + 1, p, h1, h2, h3, h4 => by
    show copyW k n (s.take p ++ [(s.take p).getD ((s.take p).length - k) 0]) = _
    have hl : (s.take p).length = p := by rw [List.length_take]; omega
    have e : s.take p ++ [(s.take p).getD ((s.take p).length - k) 0] = s.take (p + 1) := by
      rw [hl, getD_take _ _ _ (by omega), take_snoc s p (by omega)]
      have := h4 0 (by omega)
      rw [Nat.add_zero] at this
      rw [this]
    rw [e, copyW_take (p := p + 1) h1 (by omega) (by omega) (fun i hi => by
      have := h4 (i + 1) (by omega)
      rw [show p + (i + 1) = p + 1 + i by omega] at this
      exact this)]
    congr 1
    omega
/-- what tokens are joined to behind b, and the error -/
def joinW (most : Int) : List (Nat × Int × Int) → List Nat → List Nat × Nat
  | [], b => (b, 0)
  | (c, n, k) :: l, b =>
    if n = 0 then (if k ≠ 0 then ([], 1) else if most < ((b.length + 1 : Nat) : Int) then ([], 90) else joinW most l (b ++ [c]))
    else if n < 3 ∨ 34 < n ∨ k < 1 ∨ 512 < k ∨ c ≠ 0 then ([], 1)
    else if (b.length : Int) < k then ([], 80)
    else if most < ((b.length + n.toNat : Nat) : Int) then ([], 90)
    else joinW most l (copyW k.toNat n.toNat b)
/-- what was split is joined -/
theorem join_split {s : List Nat} {most : Int} (hm : (s.length : Int) ≤ most) : ∀ (f p : Nat), p ≤ s.length → s.length ≤ p + f → joinW most (splitW s f p) (s.take p) = (s, 0)
  | 0, p, h1, h2 => by
    show (s.take p, 0) = _
    rw [List.take_of_length_le (by omega)]
  | f + 1, p, h1, h2 => by
    unfold splitW
    by_cases e : s.length ≤ p
    · rw [if_pos e]
      show (s.take p, 0) = _
      rw [List.take_of_length_le e]
    · have hl : (s.take p).length = p := by rw [List.length_take]; omega
      rw [if_neg e]
      by_cases e2 : (matchW s p).1 = 0
      · rw [if_pos e2]
        unfold joinW
        rw [if_pos rfl, if_neg (by omega), if_neg (by rw [hl]; omega), ← take_snoc s p (by omega)]
        exact join_split hm f (p + 1) (by omega) (by omega)
      · obtain ⟨q1, q2, q3, q4, q5, q6, q7, _⟩ := matchW_is e2
        rw [if_neg e2]
        unfold joinW
        rw [if_neg (by omega), if_neg (by omega), if_neg (by rw [hl]; omega), if_neg (by rw [hl]; omega)]
        rw [show ((matchW s p).1 : Int).toNat = (matchW s p).1 by omega, show ((matchW s p).2 : Int).toNat = (matchW s p).2 by omega, copyW_take q3 q5 q6 q7]
        exact join_split hm f (p + (matchW s p).1) q6 (by omega)
/-- there are no more tokens than bytes, and no more fuel is needed -/
theorem splitW_len (s : List Nat) : ∀ (f p : Nat), (splitW s f p).length ≤ s.length - p
  | 0, _ => Nat.zero_le _
  | f + 1, p => by
    unfold splitW
    split
    · exact Nat.zero_le _
    · split
      · have := splitW_len s f (p + 1)
        rw [List.length_cons]
        omega
      · rename_i e2
        obtain ⟨q1, _, _, _, _, q6, _⟩ := matchW_is e2
        have := splitW_len s f (p + (matchW s p).1)
        rw [List.length_cons]
        omega
theorem splitW_fuel (s : List Nat) : ∀ (f g p : Nat), s.length ≤ p + f → s.length ≤ p + g → splitW s f p = splitW s g p
  | 0, 0, _, _, _ => rfl
  | 0, g + 1, p, h1, _ => by unfold splitW; rw [if_pos (by omega)]
  | f + 1, 0, p, _, h2 => by unfold splitW; rw [if_pos (by omega)]
  | f + 1, g + 1, p, h1, h2 => by
    unfold splitW
    split
    · rfl
    · split
      · rw [splitW_fuel s f g (p + 1) (by omega) (by omega)]
      · rename_i e2
        obtain ⟨q1, _⟩ := matchW_is e2
        rw [splitW_fuel s f g (p + (matchW s p).1) (by omega) (by omega)]
/-- each token of a text: a byte, or a match with its window ahead -/
theorem splitW_tok {s : List Nat} (hs : Bys s) : ∀ (f p : Nat) (t : (Nat × Int × Int)), t ∈ splitW s f p → (t.2.1 = 0 ∧ t.2.2 = 0 ∧ t.1 < 256) ∨ (t.1 = 0 ∧ 3 ≤ t.2.1 ∧ t.2.1 ≤ 34 ∧ 1 ≤ t.2.2 ∧ t.2.2 ≤ 512)
  | 0, _, _, h => by simp [splitW] at h
  | f + 1, p, t, h => by
    unfold splitW at h
    split at h
    · simp at h
    · split at h
      · rcases List.mem_cons.1 h with rfl | h
        · exact .inl ⟨rfl, rfl, hs p⟩
        · exact splitW_tok hs f _ t h
      · rename_i e2
        obtain ⟨q1, q2, q3, q4, _⟩ := matchW_is e2
        rcases List.mem_cons.1 h with rfl | h
        · refine .inr ⟨rfl, ?_, ?_, ?_, ?_⟩
          · show (3 : Int) ≤ ((matchW s p).1 : Int); omega
          · show ((matchW s p).1 : Int) ≤ 34; omega
          · show (1 : Int) ≤ ((matchW s p).2 : Int); omega
          · show ((matchW s p).2 : Int) ≤ 512; omega
        · exact splitW_tok hs f _ t h
end Go.Proofs.Ytloncdnnblkpdaa
