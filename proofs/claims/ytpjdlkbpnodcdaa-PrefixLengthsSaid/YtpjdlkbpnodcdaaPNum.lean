/- Words of lengths, by plain numbers: where they stand in a row of 2^15, that none begins another one, and that what begins by one is told by it. -/
import Derived.Test.YtpjdlkbpnodcdaaJ1
namespace Go.Proofs.Ytpjdlkbpnodcdaa
set_option linter.unusedVariables false

/-- the lowest n bits, the other way round -/
def revN (v n : Nat) : Nat := accB (fun j => v / 2 ^ (n - 1 - j) % 2) n
theorem revN_lt (v n : Nat) : revN v n < 2 ^ n := accB_lt fun _ _ => Nat.mod_lt _ (by decide)
theorem revN_bit {v n i : Nat} (h : i < n) : revN v n / 2 ^ i % 2 = v / 2 ^ (n - 1 - i) % 2 := accB_bit (fun _ _ => Nat.mod_lt _ (by decide)) h
theorem accB_mod {b : Nat → Nat} (h : ∀ j, b j < 2) (m : Nat) : ∀ d, accB b (m + d) % 2 ^ m = accB b m
  | 0 => Nat.mod_eq_of_lt (accB_lt fun j _ => h j)
  | d + 1 => by
    rw [← Nat.add_assoc]
    simp only [accB]
    rw [show b (m + d) * 2 ^ (m + d) = (b (m + d) * 2 ^ d) * 2 ^ m by rw [Nat.pow_add, Nat.mul_comm (2 ^ m), Nat.mul_assoc], Nat.add_mul_mod_self_right]
    exact accB_mod h m d
theorem revN_mod {v n m : Nat} (h : m ≤ n) : revN v n % 2 ^ m = revN (v / 2 ^ (n - m)) m := by
  obtain ⟨d, rfl⟩ : ∃ d, n = m + d := ⟨n - m, by omega⟩
  unfold revN
  rw [accB_mod (fun _ => Nat.mod_lt _ (by decide))]
  refine accB_congr fun j hj => ?_
  rw [Nat.div_div_eq_div_mul, ← Nat.pow_add, show m + d - m + (m - 1 - j) = m + d - 1 - j by omega]
theorem revN_inj {a b n : Nat} (ha : a < 2 ^ n) (hb : b < 2 ^ n) (h : revN a n = revN b n) : a = b := by
  rw [← accB_bits a ha, ← accB_bits b hb]
  refine accB_congr fun j hj => ?_
  have h1 := revN_bit (v := a) (n := n) (i := n - 1 - j) (by omega)
  have h2 := revN_bit (v := b) (n := n) (i := n - 1 - j) (by omega)
  rw [show n - 1 - (n - 1 - j) = j by omega] at h1 h2
  rw [← h1, ← h2, h]
/-- what a length weighs -/
def wgt (n : Nat) : Nat := if n = 0 then 0 else 2 ^ (15 - n)
/-- the sum over the numbers below m of those that p holds for -/
def sumW (g : Nat → Nat) (p : Nat → Bool) : Nat → Nat
  | 0 => 0
  | m + 1 => sumW g p m + (if p m then g m else 0)
theorem sumW_yes {g : Nat → Nat} {p : Nat → Bool} {m : Nat} (h : p m = true) : sumW g p (m + 1) = sumW g p m + g m := by simp [sumW, h]
theorem sumW_no {g : Nat → Nat} {p : Nat → Bool} {m : Nat} (h : p m = false) : sumW g p (m + 1) = sumW g p m := by simp [sumW, h]
theorem sumW_congr {g : Nat → Nat} {p q : Nat → Bool} : ∀ {m : Nat}, (∀ j, j < m → p j = q j) → sumW g p m = sumW g q m
  | 0, _ => rfl
  | m + 1, h => by simp only [sumW]; rw [sumW_congr (fun j hj => h j (by omega)), h m (by omega)]
theorem sumW_le {g : Nat → Nat} {p q : Nat → Bool} : ∀ {m : Nat}, (∀ j, j < m → p j = true → q j = true) → sumW g p m ≤ sumW g q m
  | 0, _ => Nat.le_refl _
  | m + 1, h => by
    have ih := sumW_le (g := g) (p := p) (q := q) (m := m) (fun j hj => h j (by omega))
    have h1 := h m (by omega)
    cases hp : p m with
    | false =>
      rw [sumW_no hp]
      cases hq : q m with
      | false => rw [sumW_no hq]; exact ih
      | true => rw [sumW_yes hq]; omega
    | true => rw [sumW_yes hp, sumW_yes (h1 hp)]; omega
/-- one more -/
theorem sumW_more {g : Nat → Nat} {p q : Nat → Bool} {i : Nat} (hi : p i = false) (hq : q i = true) : ∀ {m : Nat}, i < m → (∀ j, j < m → p j = true → q j = true) → sumW g p m + g i ≤ sumW g q m
  | 0, h, _ => by omega
  | m + 1, h, hpq => by
    by_cases e : i = m
    · subst e
      have ih := sumW_le (g := g) (p := p) (q := q) (m := i) (fun j hj => hpq j (by omega))
      rw [sumW_no hi, sumW_yes hq]
      omega
    · have ih := sumW_more (g := g) hi hq (m := m) (by omega) (fun j hj => hpq j (by omega))
      have h1 := hpq m (by omega)
      cases hp : p m with
      | false =>
        rw [sumW_no hp]
        cases hq' : q m with
        | false => rw [sumW_no hq']; exact ih
        | true => rw [sumW_yes hq']; omega
      | true => rw [sumW_yes hp, sumW_yes (h1 hp)]; omega
/-- just one more -/
theorem sumW_add {g : Nat → Nat} {p q : Nat → Bool} {i : Nat} (hi : p i = false) (hq : q i = true) (hpq : ∀ j, j ≠ i → q j = p j) : ∀ {m : Nat}, i < m → sumW g q m = sumW g p m + g i
  | 0, h => by omega
  | m + 1, h => by
    by_cases e : i = m
    · subst e
      rw [sumW_no hi, sumW_yes hq, sumW_congr fun j hj => hpq j (by omega)]
    · have ih := sumW_add (g := g) hi hq hpq (m := m) (by omega)
      have h1 := hpq m (by omega)
      cases hp : p m with
      | false => rw [sumW_no hp, sumW_no (by rw [h1, hp])]; exact ih
      | true => rw [sumW_yes hp, sumW_yes (by rw [h1, hp])]; omega
theorem sumW_dvd {g : Nat → Nat} {p : Nat → Bool} {d : Nat} : ∀ {m : Nat}, (∀ j, j < m → p j = true → d ∣ g j) → d ∣ sumW g p m
  | 0, _ => Nat.dvd_zero d
  | m + 1, h => by
    have ih := sumW_dvd (g := g) (p := p) (d := d) (m := m) (fun j hj => h j (by omega))
    cases hp : p m with
    | false => rw [sumW_no hp]; exact ih
    | true => rw [sumW_yes hp]; exact Nat.dvd_add ih (h m (by omega) hp)
theorem sumW_none {g : Nat → Nat} {p : Nat → Bool} : ∀ {m : Nat}, (∀ j, j < m → p j = true → g j = 0) → sumW g p m = 0
  | 0, _ => rfl
  | m + 1, h => by
    have ih := sumW_none (g := g) (p := p) (m := m) (fun j hj => h j (by omega))
    cases hp : p m with
    | false => rw [sumW_no hp]; exact ih
    | true => rw [sumW_yes hp, ih, h m (by omega) hp]
/-- what symbols weigh -/
def wgtL (L : List Nat) (j : Nat) : Nat := wgt (L.getD j 0)
theorem wgtL_pos {L : List Nat} {i : Nat} (h : 0 < L.getD i 0) : wgtL L i = 2 ^ (15 - L.getD i 0) := by
  unfold wgtL wgt
  exact if_neg (by omega)
/-- what stands ahead of symbol i of length n -/
def aheadB (L : List Nat) (n i j : Nat) : Bool := decide (L.getD j 0 < n ∨ (L.getD j 0 = n ∧ j < i))
/-- where the words of length n that are given to symbols from i on begin -/
def posW (L : List Nat) (n i : Nat) : Nat := sumW (wgtL L) (aheadB L n i) L.length
def kraftW (L : List Nat) : Nat := sumW (wgtL L) (fun _ => true) L.length
theorem posW_dvd (L : List Nat) {n : Nat} (i : Nat) (hn : n ≤ 15) : 2 ^ (15 - n) ∣ posW L n i := sumW_dvd fun j hj h => by
  have h' : L.getD j 0 ≤ n := by
    have := of_decide_eq_true h
    omega
  unfold wgtL wgt
  split
  · exact Nat.dvd_zero _
  · exact Nat.pow_dvd_pow 2 (by omega)
theorem posW_step (L : List Nat) {n i : Nat} (hn : 0 < n) (hi : i < L.length) : posW L n (i + 1) = posW L n i + (if L.getD i 0 = n then 2 ^ (15 - n) else 0) := by
  unfold posW
  by_cases h : L.getD i 0 = n
  · rw [if_pos h, sumW_add (g := wgtL L) (p := aheadB L n i) (q := aheadB L n (i + 1)) (i := i) (decide_eq_false (by omega)) (decide_eq_true (by omega)) (fun j hj => decide_eq_decide.2 (by omega)) hi, wgtL_pos (by omega), h]
  · rw [if_neg h, Nat.add_zero]
    refine sumW_congr fun j hj => decide_eq_decide.2 ?_
    by_cases e : j = i
    · subst e; omega
    · omega
theorem posW_next (L : List Nat) (n : Nat) : posW L n L.length = posW L (n + 1) 0 := sumW_congr fun j hj => decide_eq_decide.2 (by omega)
theorem posW_one (L : List Nat) : posW L 1 0 = 0 := sumW_none fun j _ h => by
  have h0 : L.getD j 0 = 0 := by have := of_decide_eq_true h; omega
  unfold wgtL wgt
  rw [h0]
  rfl
/-- the word of symbol i, as a number -/
def wordW (L : List Nat) (i : Nat) : Nat := posW L (L.getD i 0) i / 2 ^ (15 - L.getD i 0)
theorem wordW_pos (L : List Nat) {i : Nat} (h : L.getD i 0 ≤ 15) : wordW L i * 2 ^ (15 - L.getD i 0) = posW L (L.getD i 0) i := Nat.div_mul_cancel (posW_dvd L i h)
theorem posW_le (L : List Nat) {i : Nat} (hi : i < L.length) (h0 : 0 < L.getD i 0) : posW L (L.getD i 0) i + 2 ^ (15 - L.getD i 0) ≤ kraftW L := by
  have h := sumW_more (g := wgtL L) (p := aheadB L (L.getD i 0) i) (q := fun _ => true) (i := i) (decide_eq_false (by omega)) rfl hi (fun _ _ _ => rfl)
  rw [wgtL_pos h0] at h
  exact h
/-- no two stand in one place -/
theorem posW_apart (L : List Nat) {i k : Nat} (hi : i < L.length) (h0 : 0 < L.getD i 0) (hl : L.getD i 0 < L.getD k 0 ∨ (L.getD i 0 = L.getD k 0 ∧ i < k)) :
    posW L (L.getD i 0) i + 2 ^ (15 - L.getD i 0) ≤ posW L (L.getD k 0) k := by
  have h := sumW_more (g := wgtL L) (p := aheadB L (L.getD i 0) i) (q := aheadB L (L.getD k 0) k) (i := i) (decide_eq_false (by omega)) (decide_eq_true (by omega)) hi (fun j _ hj => by
    have := of_decide_eq_true hj
    exact decide_eq_true (by omega))
  rw [wgtL_pos h0] at h
  exact h
theorem wordW_lt (L : List Nat) {i : Nat} (hi : i < L.length) (h0 : 0 < L.getD i 0) (h15 : L.getD i 0 ≤ 15) (hk : kraftW L ≤ 2 ^ 15) : wordW L i < 2 ^ L.getD i 0 := by
  have h1 := posW_le L hi h0
  have h2 := wordW_pos L h15
  have h3 := Nat.two_pow_pos (15 - L.getD i 0)
  have h4 : 2 ^ 15 = 2 ^ L.getD i 0 * 2 ^ (15 - L.getD i 0) := by rw [← Nat.pow_add]; congr 1; omega
  have h5 : wordW L i * 2 ^ (15 - L.getD i 0) < 2 ^ L.getD i 0 * 2 ^ (15 - L.getD i 0) := by rw [h2, ← h4]; omega
  exact Nat.lt_of_mul_lt_mul_right h5
/-- symbol i's bits, the highest first, as a number -/
def codeW (L : List Nat) (i : Nat) : Nat := revN (wordW L i) (L.getD i 0)
/-- no word begins another one -/
theorem codeW_free (L : List Nat) {i k : Nat} (hi : i < L.length) (hk : k < L.length) (hne : i ≠ k) (i0 : 0 < L.getD i 0) (hl : L.getD i 0 ≤ L.getD k 0) (h15 : L.getD k 0 ≤ 15) (hK : kraftW L ≤ 2 ^ 15) :
    codeW L k % 2 ^ L.getD i 0 ≠ codeW L i := by
  intro e
  have k0 : 0 < L.getD k 0 := by omega
  have i15 : L.getD i 0 ≤ 15 := by omega
  have wi := wordW_lt L hi i0 i15 hK
  have wk := wordW_lt L hk k0 h15 hK
  unfold codeW at e
  rw [revN_mod hl] at e
  have hd : wordW L k / 2 ^ (L.getD k 0 - L.getD i 0) < 2 ^ L.getD i 0 := by
    rw [Nat.div_lt_iff_lt_mul (Nat.two_pow_pos _), ← Nat.pow_add, show L.getD i 0 + (L.getD k 0 - L.getD i 0) = L.getD k 0 by omega]
    exact wk
  have e2 := revN_inj hd wi e
  have pi := wordW_pos L i15
  have pk := wordW_pos L h15
  have ek : 2 ^ (15 - L.getD i 0) = 2 ^ (L.getD k 0 - L.getD i 0) * 2 ^ (15 - L.getD k 0) := by rw [← Nat.pow_add]; congr 1; omega
  have lo : posW L (L.getD i 0) i ≤ posW L (L.getD k 0) k := by
    rw [← pi, ← pk, ← e2, ek, ← Nat.mul_assoc]
    exact Nat.mul_le_mul_right _ (Nat.div_mul_le_self _ _)
  have hi2 : posW L (L.getD k 0) k < posW L (L.getD i 0) i + 2 ^ (15 - L.getD i 0) := by
    rw [← pi, ← pk, ← e2, ek, ← Nat.mul_assoc, ← Nat.add_mul]
    refine Nat.mul_lt_mul_of_pos_right ?_ (Nat.two_pow_pos _)
    have := Nat.lt_div_mul_add (Nat.two_pow_pos (L.getD k 0 - L.getD i 0)) (a := wordW L k)
    exact this
  rcases Nat.lt_or_ge (L.getD i 0) (L.getD k 0) with h | h
  · have := posW_apart L (k := k) hi i0 (.inl h)
    omega
  · have heq : L.getD i 0 = L.getD k 0 := by omega
    rcases Nat.lt_or_ge i k with h' | h'
    · have := posW_apart L (k := k) hi i0 (.inr ⟨heq, h'⟩)
      omega
    · have := posW_apart L (i := k) (k := i) hk k0 (.inr ⟨heq.symm, by omega⟩)
      have := Nat.two_pow_pos (15 - L.getD k 0)
      omega
theorem codeW_lt (L : List Nat) (i : Nat) : codeW L i < 2 ^ L.getD i 0 := revN_lt _ _
theorem codeW_inj (L : List Nat) {i k : Nat} (hi : i < L.length) (hk : k < L.length) (i0 : 0 < L.getD i 0) (hl : L.getD k 0 = L.getD i 0) (h15 : L.getD i 0 ≤ 15) (hK : kraftW L ≤ 2 ^ 15) (h : codeW L k = codeW L i) : k = i := by
  by_cases e : i = k
  · exact e.symm
  · refine absurd ?_ (codeW_free L hi hk e i0 (by omega) (by omega) hK)
    rw [← hl, Nat.mod_eq_of_lt (codeW_lt L k)]
    exact h
/-! ### told by bits -/
/-- the symbol of this word -/
def hitW (L : List Nat) (n w : Nat) : Option Nat := (List.range L.length).find? fun i => L.getD i 0 == w && codeW L i == n
/-- does a longer word begin so? -/
def moreW (L : List Nat) (n w : Nat) : Bool := (List.range L.length).any fun i => decide (w < L.getD i 0) && codeW L i % 2 ^ w == n
/-- what Next tells from the w-th bit on, with d lengths to go: the symbol, the error, where the reader stands -/
def toldW (L s : List Nat) (p : Nat) : Nat → Nat → Nat × Nat × Nat
  | 0, w => (0, 70, p + (w - 1))
  | d + 1, w =>
    if 8 * s.length < p + w then (0, 40, p + (w - 1))
    else match hitW L (numB s p w) w with
      | some i => (i, 0, p + w)
      | none => if moreW L (numB s p w) w then toldW L s p d (w + 1) else (0, 70, p + w)
theorem numB_mod (s : List Nat) (p w d : Nat) : numB s p (w + d) % 2 ^ w = numB s p w := accB_mod (fun _ => bitAt_lt _ _) w d
theorem hitW_none {L : List Nat} {n w : Nat} (h : ∀ k, k < L.length → L.getD k 0 = w → codeW L k ≠ n) : hitW L n w = none := by
  unfold hitW
  rw [List.find?_eq_none]
  intro k hk hb
  rw [List.mem_range] at hk
  rw [Bool.and_eq_true, beq_iff_eq, beq_iff_eq] at hb
  exact h k hk hb.1 hb.2
theorem hitW_some {L : List Nat} {n w i : Nat} (hi : i < L.length) (h1 : L.getD i 0 = w) (h2 : codeW L i = n) (h : ∀ k, k < L.length → L.getD k 0 = w → codeW L k = n → k = i) : hitW L n w = some i := by
  cases hf : hitW L n w with
  | none =>
    unfold hitW at hf
    rw [List.find?_eq_none] at hf
    refine absurd ?_ (hf i (List.mem_range.2 hi))
    rw [Bool.and_eq_true, beq_iff_eq, beq_iff_eq]
    exact ⟨h1, h2⟩
  | some k =>
    unfold hitW at hf
    have hm := List.mem_of_find?_eq_some hf
    have hp := List.find?_some hf
    rw [List.mem_range] at hm
    rw [Bool.and_eq_true, beq_iff_eq, beq_iff_eq] at hp
    rw [h k hm hp.1 hp.2]
/-- bits that begin by a word are that symbol -/
theorem toldW_word {L s : List Nat} {p i : Nat} (hi : i < L.length) (i0 : 0 < L.getD i 0) (h15 : ∀ k, L.getD k 0 ≤ 15) (hK : kraftW L ≤ 2 ^ 15) (hn : numB s p (L.getD i 0) = codeW L i) (hs : p + L.getD i 0 ≤ 8 * s.length) :
    ∀ d w, 0 < w → w ≤ L.getD i 0 → L.getD i 0 < w + d → toldW L s p d w = (i, 0, p + L.getD i 0)
  | 0, w, h1, h2, h3 => by omega
  | d + 1, w, h1, h2, h3 => by
    have hm : numB s p w = codeW L i % 2 ^ w := by
      obtain ⟨e, he⟩ : ∃ e, L.getD i 0 = w + e := ⟨L.getD i 0 - w, by omega⟩
      rw [← hn, he, numB_mod]
    unfold toldW
    rw [if_neg (by omega)]
    by_cases e : w = L.getD i 0
    · rw [hitW_some (i := i) hi e.symm (by rw [e, hn]) (fun k hk k1 k2 => codeW_inj L hi hk i0 (by rw [k1, e]) (h15 i) hK (by rw [k2, e, hn]))]
      rw [e]
    · rw [hitW_none (fun k hk k1 k2 => by
        by_cases ek : k = i
        · subst ek; exact e k1.symm
        · refine codeW_free L hk hi ek (by omega) (by omega) (h15 i) hK ?_
          rw [k1, ← hm, k2])]
      have hmo : moreW L (numB s p w) w = true := by
        unfold moreW
        rw [List.any_eq_true]
        refine ⟨i, List.mem_range.2 hi, ?_⟩
        rw [Bool.and_eq_true, decide_eq_true_eq, beq_iff_eq]
        exact ⟨by omega, hm.symm⟩
      show (if moreW L (numB s p w) w = true then toldW L s p d (w + 1) else (0, 70, p + w)) = _
      rw [if_pos hmo]
      exact toldW_word hi i0 h15 hK hn hs d (w + 1) (by omega) (by omega) (by omega)
end Go.Proofs.Ytpjdlkbpnodcdaa
