/- Bits in bytes, by plain numbers: packed, taken, and that these are one another's ways back. -/
import Derived.Test.YtpjfafefgmjmfaaG1
namespace Go.Proofs.Ytpjfafefgmjmfaa
set_option linter.unusedVariables false

/-- the number whose lowest k bits are these -/
def accB (b : Nat → Nat) : Nat → Nat
  | 0 => 0
  | k + 1 => accB b k + b k * 2 ^ k
theorem accB_lt {b : Nat → Nat} : ∀ {k : Nat}, (∀ j, j < k → b j < 2) → accB b k < 2 ^ k
  | 0, _ => by simp [accB]
  | k + 1, h => by
    have h1 := accB_lt (b := b) (k := k) (fun j hj => h j (by omega))
    have h2 : b k * 2 ^ k ≤ 1 * 2 ^ k := Nat.mul_le_mul_right _ (by have := h k (by omega); omega)
    simp only [accB]
    rw [Nat.pow_succ]
    omega
theorem accB_or {b : Nat → Nat} {k : Nat} (h : ∀ j, j < k → b j < 2) : accB b k ||| b k * 2 ^ k = accB b (k + 1) := or_add _ _ _ (accB_lt h)
theorem accB_congr {b c : Nat → Nat} : ∀ {k : Nat}, (∀ j, j < k → b j = c j) → accB b k = accB c k
  | 0, _ => rfl
  | k + 1, h => by simp only [accB]; rw [accB_congr (fun j hj => h j (by omega)), h k (by omega)]
theorem accB_bit {b : Nat → Nat} : ∀ {k : Nat}, (∀ j, j < k → b j < 2) → ∀ {i : Nat}, i < k → accB b k / 2 ^ i % 2 = b i
  | 0, _, i, hi => by omega
  | k + 1, h, i, hi => by
    have h1 := accB_lt (b := b) (k := k) (fun j hj => h j (by omega))
    have hk := h k (by omega)
    simp only [accB]
    by_cases e : i = k
    · subst e
      rw [Nat.add_mul_div_right _ _ (Nat.two_pow_pos i), Nat.div_eq_of_lt h1, Nat.zero_add, Nat.mod_eq_of_lt hk]
    · obtain ⟨d, hd⟩ : ∃ d, k = i + (d + 1) := ⟨k - i - 1, by omega⟩
      have e2 : b k * 2 ^ k = (b k * 2 ^ d * 2) * 2 ^ i := by rw [hd, Nat.pow_add, Nat.pow_succ, Nat.mul_comm (2 ^ i), ← Nat.mul_assoc, ← Nat.mul_assoc]
      rw [e2, Nat.add_mul_div_right _ _ (Nat.two_pow_pos i), Nat.add_mul_mod_self_right]
      exact accB_bit (fun j hj => h j (by omega)) (by omega)
theorem accB_bits (n : Nat) : ∀ {k : Nat}, n < 2 ^ k → accB (fun i => n / 2 ^ i % 2) k = n := by
  have main : ∀ k, accB (fun i => n / 2 ^ i % 2) k = n % 2 ^ k := by
    intro k
    induction k with
    | zero => simp [accB, Nat.mod_one]
    | succ k ih =>
      simp only [accB]
      rw [ih, Nat.pow_succ, Nat.mod_mul, Nat.mul_comm]
  intro k hk
  rw [main k, Nat.mod_eq_of_lt hk]
theorem accB_zeros {b : Nat → Nat} {m : Nat} : ∀ {d : Nat}, (∀ j, m ≤ j → b j = 0) → accB b (m + d) = accB b m
  | 0, _ => rfl
  | d + 1, h => by
    rw [← Nat.add_assoc]
    simp only [accB]
    rw [h (m + d) (by omega), accB_zeros h]
    omega
/-- all are bits -/
def Bits01 (l : List Nat) : Prop := ∀ j, l.getD j 0 < 2
theorem Bits01.app {a b : List Nat} (ha : Bits01 a) (hb : Bits01 b) : Bits01 (a ++ b) := fun j => by
  rw [getD_app]
  split
  · exact ha j
  · exact hb _
theorem getD_over {l : List Nat} {j : Nat} (h : l.length ≤ j) : l.getD j 0 = 0 := by rw [List.getD_eq_getElem?_getD, List.getElem?_eq_none h]; rfl
/-- the bits of a piece -/
def bitsN (n w : Nat) : List Nat := (List.range w).map fun i => n / 2 ^ i % 2
theorem bitsN_len (n w : Nat) : (bitsN n w).length = w := by simp [bitsN]
theorem bitsN_getD {n w i : Nat} (h : i < w) : (bitsN n w).getD i 0 = n / 2 ^ i % 2 := map_range_getD _ _ _ h
theorem bitsN_01 (n w : Nat) : Bits01 (bitsN n w) := fun j => by
  by_cases h : j < w
  · rw [bitsN_getD h]; exact Nat.mod_lt _ (by decide)
  · rw [getD_over (by rw [bitsN_len]; omega)]; decide
theorem bitsN_succ (n w : Nat) : bitsN n (w + 1) = bitsN n w ++ [n / 2 ^ w % 2] := by simp [bitsN, List.range_succ]
/-- the bytes whose bits these are, with zeros behind -/
def bytesB (b : List Nat) : List Nat := (List.range ((b.length + 7) / 8)).map fun j => accB (fun k => b.getD (8 * j + k) 0) 8
theorem bytesB_len (b : List Nat) : (bytesB b).length = (b.length + 7) / 8 := by simp [bytesB]
theorem bytesB_bys {b : List Nat} (h : Bits01 b) : Bys (bytesB b) := fun j => by
  by_cases hj : j < (b.length + 7) / 8
  · unfold bytesB
    rw [map_range_getD _ _ _ hj]
    exact accB_lt (fun i _ => h _)
  · rw [getD_over (by rw [bytesB_len]; omega)]; decide
/-- bit i of bytes -/
def bitAt (s : List Nat) (i : Nat) : Nat := s.getD (i / 8) 0 / 2 ^ (i % 8) % 2
theorem bitAt_lt (s : List Nat) (i : Nat) : bitAt s i < 2 := Nat.mod_lt _ (by decide)
theorem bitAt_bytes {b : List Nat} (h : Bits01 b) (i : Nat) : bitAt (bytesB b) i = b.getD i 0 := by
  unfold bitAt
  by_cases hi : i / 8 < (b.length + 7) / 8
  · unfold bytesB
    rw [map_range_getD _ _ _ hi, accB_bit (fun j _ => h _) (by omega), show 8 * (i / 8) + i % 8 = i by omega]
  · rw [getD_over (by rw [bytesB_len]; omega), getD_over (by omega)]
    simp
theorem bytesB_app {a b : List Nat} (h : a.length % 8 = 0) : bytesB (a ++ b) = bytesB a ++ bytesB b := by
  have e1 : (bytesB (a ++ b)).length = a.length / 8 + (b.length + 7) / 8 := by rw [bytesB_len, List.length_append]; omega
  refine getD_ext _ e1 (by rw [List.length_append, bytesB_len, bytesB_len]; omega) fun j hj => ?_
  rw [getD_app, bytesB_len, show (a.length + 7) / 8 = a.length / 8 by omega]
  unfold bytesB
  rw [map_range_getD _ _ _ (by rw [List.length_append]; omega)]
  by_cases h1 : j < a.length / 8
  · rw [if_pos h1, map_range_getD _ _ _ (by omega)]
    exact accB_congr fun k hk => by rw [getD_app, if_pos (by omega)]
  · rw [if_neg h1, map_range_getD _ _ _ (by omega)]
    exact accB_congr fun k hk => by rw [getD_app, if_neg (by omega), show 8 * j + k - a.length = 8 * (j - a.length / 8) + k by omega]
/-- the number of w bits from bit p on -/
def numB (s : List Nat) (p w : Nat) : Nat := accB (fun i => bitAt s (p + i)) w
theorem numB_lt (s : List Nat) (p w : Nat) : numB s p w < 2 ^ w := accB_lt fun j _ => bitAt_lt _ _
theorem numB_or (s : List Nat) (p w : Nat) : numB s p w ||| bitAt s (p + w) * 2 ^ w = numB s p (w + 1) := accB_or fun j _ => bitAt_lt _ _
theorem numB_back {pre post : List Nat} {n w : Nat} (hn : n < 2 ^ w) (hb : Bits01 (pre ++ (bitsN n w ++ post))) : numB (bytesB (pre ++ (bitsN n w ++ post))) pre.length w = n := by
  unfold numB
  refine Eq.trans (accB_congr fun i hi => ?_) (accB_bits n hn)
  rw [bitAt_bytes hb, getD_app, if_neg (by omega), getD_app, if_pos (by rw [bitsN_len]; omega), show pre.length + i - pre.length = i by omega, bitsN_getD hi]
/-! ### pieces: a number and a width -/
def mayP (p : Nat × Int) : Prop := 0 ≤ p.2 ∧ p.2 ≤ 24 ∧ p.1 < 2 ^ p.2.toNat
instance (p : Nat × Int) : Decidable (mayP p) := by unfold mayP; infer_instance
def bitsP (l : List (Nat × Int)) : List Nat := l.flatMap fun p => bitsN p.1 p.2.toNat
theorem bitsP_app (a b : List (Nat × Int)) : bitsP (a ++ b) = bitsP a ++ bitsP b := by simp [bitsP]
theorem bitsP_01 : ∀ l : List (Nat × Int), Bits01 (bitsP l)
  | [] => fun j => by simp [bitsP]
  | p :: l => by
    have e : bitsP (p :: l) = bitsN p.1 p.2.toNat ++ bitsP l := rfl
    rw [e]
    exact (bitsN_01 _ _).app (bitsP_01 l)
def sizeP (l : List (Nat × Int)) : Nat := (l.map fun p => if mayP p then p.2.toNat else 0).sum
theorem bitsP_len : ∀ {l : List (Nat × Int)}, (∀ p ∈ l, mayP p) → (bitsP l).length = sizeP l
  | [], _ => rfl
  | p :: l, h => by
    have e : bitsP (p :: l) = bitsN p.1 p.2.toNat ++ bitsP l := rfl
    rw [e, List.length_append, bitsN_len, bitsP_len (fun q hq => h q (by simp [hq]))]
    simp [sizeP, h p (by simp)]
theorem sizeP_app (a b : List (Nat × Int)) : sizeP (a ++ b) = sizeP a + sizeP b := by simp [sizeP]
theorem sizeP_le : ∀ l : List (Nat × Int), sizeP l ≤ 24 * l.length
  | [] => by simp [sizeP]
  | p :: l => by
    have ih := sizeP_le l
    have h1 : (if mayP p then p.2.toNat else 0) ≤ 24 := by
      split
      · rename_i h; have := h.2.1; omega
      · omega
    have e : sizeP (p :: l) = (if mayP p then p.2.toNat else 0) + sizeP l := by simp [sizeP]
    rw [e, List.length_cons]
    omega
/-- what Pack tells: the bytes, and the error -/
def packP (l : List (Nat × Int)) : List Nat × Nat := if ∀ p ∈ l, mayP p then (bytesB (bitsP l), 0) else ([], 1)
theorem packP_bys (l : List (Nat × Int)) : Bys (packP l).1 := by
  unfold packP
  split
  · exact bytesB_bys (bitsP_01 l)
  · intro j; simp
/-- piece i of what was packed, taken -/
theorem take_pack {a b : List (Nat × Int)} {p : Nat × Int} (h : ∀ q ∈ a ++ p :: b, mayP q) : numB (bytesB (bitsP (a ++ p :: b))) (sizeP a) p.2.toNat = p.1 := by
  have ha : (bitsP a).length = sizeP a := bitsP_len fun q hq => h q (by simp [hq])
  have hp : mayP p := h p (by simp)
  have e : bitsP (a ++ p :: b) = bitsP a ++ (bitsN p.1 p.2.toNat ++ bitsP b) := by rw [bitsP_app]; rfl
  rw [e, ← ha]
  exact numB_back hp.2.2 (by rw [← e]; exact bitsP_01 _)
/-! ### a reader: bytes, and the bit ahead of which it stands -/
/-- what Take tells: the number, the error, where the reader stands -/
def takeP (s : List Nat) (p : Nat) (w : Int) : Nat × Nat × Nat :=
  if w < 0 ∨ 24 < w then (0, 1, p) else if 8 * s.length - p < w.toNat then (0, 40, p) else (numB s p w.toNat, 0, p + w.toNat)
/-- what End tells -/
def endP (s : List Nat) (p : Nat) : Nat := if 8 ≤ 8 * s.length - p then 42 else if ∃ i, i < 8 * s.length ∧ p ≤ i ∧ bitAt s i = 1 then 42 else 0
theorem takeP_le {s : List Nat} {p : Nat} (w : Int) (h : p ≤ 8 * s.length) : (takeP s p w).2.2 ≤ 8 * s.length := by
  unfold takeP
  split
  · exact h
  · split
    · exact h
    · show p + w.toNat ≤ _; omega
theorem end_pack {l : List (Nat × Int)} (h : ∀ q ∈ l, mayP q) : endP (bytesB (bitsP l)) (sizeP l) = 0 := by
  have hl := bitsP_len h
  have hb := bytesB_len (bitsP l)
  unfold endP
  rw [if_neg (by omega), if_neg]
  rintro ⟨i, _, h1, h2⟩
  rw [bitAt_bytes (bitsP_01 l), getD_over (by omega)] at h2
  cases h2
theorem size_pack {l : List (Nat × Int)} (h : ∀ q ∈ l, mayP q) : (bytesB (bitsP l)).length = (sizeP l + 7) / 8 := by rw [bytesB_len, bitsP_len h]
theorem take_piece {a b : List (Nat × Int)} {p : Nat × Int} (h : ∀ q ∈ a ++ p :: b, mayP q) : takeP (bytesB (bitsP (a ++ p :: b))) (sizeP a) p.2 = (p.1, 0, sizeP (a ++ [p])) := by
  have hp : mayP p := h p (by simp)
  have hs := size_pack h
  have e : sizeP (a ++ p :: b) = sizeP a + (p.2.toNat + sizeP b) := by rw [sizeP_app]; congr 1; simp [sizeP, hp]
  have e2 : sizeP (a ++ [p]) = sizeP a + p.2.toNat := by rw [sizeP_app]; congr 1; simp [sizeP, hp]
  unfold takeP
  rw [if_neg (by have := hp.1; have := hp.2.1; omega), if_neg (by rw [hs, e]; omega), take_pack h, e2]
theorem take_over {l : List (Nat × Int)} (h : ∀ q ∈ l, mayP q) : takeP (bytesB (bitsP l)) (sizeP l) 8 = (0, 40, sizeP l) := by
  have hs := size_pack h
  unfold takeP
  rw [if_neg (by omega), if_pos (by rw [hs, show (8 : Int).toNat = 8 from rfl]; omega)]
theorem pack_parts {a b : List (Nat × Int)} (h : sizeP a % 8 = 0) (ha : ∀ q ∈ a, mayP q) : bytesB (bitsP (a ++ b)) = bytesB (bitsP a) ++ bytesB (bitsP b) := by
  rw [bitsP_app]
  exact bytesB_app (by rw [bitsP_len ha]; exact h)
theorem take_one {s : List Nat} {p : Nat} (h : p < 8 * s.length) : takeP s p 1 = (bitAt s p, 0, p + 1) := by
  unfold takeP
  rw [if_neg (by omega), if_neg (by rw [show (1 : Int).toNat = 1 from rfl]; omega)]
  simp [numB, accB]
theorem take_none {s : List Nat} {p : Nat} (h : 8 * s.length ≤ p) : takeP s p 1 = (0, 40, p) := by
  unfold takeP
  rw [if_neg (by omega), if_pos (by rw [show (1 : Int).toNat = 1 from rfl]; omega)]
end Go.Proofs.Ytpjfafefgmjmfaa
