/- Words of lengths, by plain numbers: where they stand in a row of 2^15, that none begins another one, and that what begins by one is told by it. -/
import Derived.Test.YtpjihjbgihionaaJ1
import Derived.Test.YtpjihjbgihionaaG1
import Derived.Maps.OwnSet
namespace Go.Proofs.Ytpjihjbgihionaa
set_option linter.unusedVariables false

/-- the lowest n bits, the other way round -/
def revN (v n : Nat) : Nat := accB (fun j => v / 2 ^ (n - 1 - j) % 2) n
theorem revN_lt (v n : Nat) : revN v n < 2 ^ n := accB_lt fun _ _ => Nat.mod_lt _ (by decide)
theorem revN_bit {v n i : Nat} (h : i < n) : revN v n / 2 ^ i % 2 = v / 2 ^ (n - 1 - i) % 2 := accB_bit (fun _ _ => Nat.mod_lt _ (by decide)) h
theorem accB_mod {b : Nat → Nat} (h : ∀ j, b j < 2) (m : Nat) : ∀ d, accB b (m + d) % 2 ^ m = accB b m
  | 0 => Nat.mod_eq_of_lt (accB_lt fun j _ => h j)
  | d + 1 => by
    rw [← Nat.add_assoc]
    simp only [accB]
    rw [show b (m + d) * 2 ^ (m + d) = (b (m + d) * 2 ^ d) * 2 ^ m by rw [Nat.pow_add, Nat.mul_comm (2 ^ m), Nat.mul_assoc], Nat.add_mul_mod_self_right]
    exact accB_mod h m d
theorem revN_mod {v n m : Nat} (h : m ≤ n) : revN v n % 2 ^ m = revN (v / 2 ^ (n - m)) m := by
  obtain ⟨d, rfl⟩ : ∃ d, n = m + d := ⟨n - m, by omega⟩
  unfold revN
  rw [accB_mod (fun _ => Nat.mod_lt _ (by decide))]
  refine accB_congr fun j hj => ?_
  rw [Nat.div_div_eq_div_mul, ← Nat.pow_add, show m + d - m + (m - 1 - j) = m + d - 1 - j by omega]
theorem revN_inj {a b n : Nat} (ha : a < 2 ^ n) (hb : b < 2 ^ n) (h : revN a n = revN b n) : a = b := by
  rw [← accB_bits a ha, ← accB_bits b hb]
  refine accB_congr fun j hj => ?_
  have h1 := revN_bit (v := a) (n := n) (i := n - 1 - j) (by omega)
  have h2 := revN_bit (v := b) (n := n) (i := n - 1 - j) (by omega)
  rw [show n - 1 - (n - 1 - j) = j by omega] at h1 h2
  rw [← h1, ← h2, h]
/-- what a length weighs -/
def wgt (n : Nat) : Nat := if n = 0 then 0 else 2 ^ (15 - n)
/-- the sum over the numbers below m of those that p holds for -/
def sumW (g : Nat → Nat) (p : Nat → Bool) : Nat → Nat
  | 0 => 0
  | m + 1 => sumW g p m + (if p m then g m else 0)
theorem sumW_yes {g : Nat → Nat} {p : Nat → Bool} {m : Nat} (h : p m = true) : sumW g p (m + 1) = sumW g p m + g m := by simp [sumW, h]
theorem sumW_no {g : Nat → Nat} {p : Nat → Bool} {m : Nat} (h : p m = false) : sumW g p (m + 1) = sumW g p m := by simp [sumW, h]
theorem sumW_congr {g : Nat → Nat} {p q : Nat → Bool} : ∀ {m : Nat}, (∀ j, j < m → p j = q j) → sumW g p m = sumW g q m
  | 0, _ => rfl
  | m + 1, h => by simp only [sumW]; rw [sumW_congr (fun j hj => h j (by omega)), h m (by omega)]
theorem sumW_le {g : Nat → Nat} {p q : Nat → Bool} : ∀ {m : Nat}, (∀ j, j < m → p j = true → q j = true) → sumW g p m ≤ sumW g q m
  | 0, _ => Nat.le_refl _
  | m + 1, h => by
    have ih := sumW_le (g := g) (p := p) (q := q) (m := m) (fun j hj => h j (by omega))
    have h1 := h m (by omega)
    cases hp : p m with
    | false =>
      rw [sumW_no hp]
      cases hq : q m with
      | false => rw [sumW_no hq]; exact ih
      | true => rw [sumW_yes hq]; omega
    | true => rw [sumW_yes hp, sumW_yes (h1 hp)]; omega
/-- one more -/
theorem sumW_more {g : Nat → Nat} {p q : Nat → Bool} {i : Nat} (hi : p i = false) (hq : q i = true) : ∀ {m : Nat}, i < m → (∀ j, j < m → p j = true → q j = true) → sumW g p m + g i ≤ sumW g q m
  | 0, h, _ => by omega
  | m + 1, h, hpq => by
    by_cases e : i = m
    · subst e
      have ih := sumW_le (g := g) (p := p) (q := q) (m := i) (fun j hj => hpq j (by omega))
      rw [sumW_no hi, sumW_yes hq]
      omega
    · have ih := sumW_more (g := g) hi hq (m := m) (by omega) (fun j hj => hpq j (by omega))
      have h1 := hpq m (by omega)
      cases hp : p m with
      | false =>
        rw [sumW_no hp]
        cases hq' : q m with
        | false => rw [sumW_no hq']; exact ih
        | true => rw [sumW_yes hq']; omega
      | true => rw [sumW_yes hp, sumW_yes (h1 hp)]; omega
/-- just one more -/
theorem sumW_add {g : Nat → Nat} {p q : Nat → Bool} {i : Nat} (hi : p i = false) (hq : q i = true) (hpq : ∀ j, j ≠ i → q j = p j) : ∀ {m : Nat}, i < m → sumW g q m = sumW g p m + g i
  | 0, h => by omega
  | m + 1, h => by
    by_cases e : i = m
    · subst e
      rw [sumW_no hi, sumW_yes hq, sumW_congr fun j hj => hpq j (by omega)]
    · have ih := sumW_add (g := g) hi hq hpq (m := m) (by omega)
      have h1 := hpq m (by omega)
      cases hp : p m with
      | false => rw [sumW_no hp, sumW_no (by rw [h1, hp])]; exact ih
      | true => rw [sumW_yes hp, sumW_yes (by rw [h1, hp])]; omega
theorem sumW_dvd {g : Nat → Nat} {p : Nat → Bool} {d : Nat} : ∀ {m : Nat}, (∀ j, j < m → p j = true → d ∣ g j) → d ∣ sumW g p m
  | 0, _ => Nat.dvd_zero d
  | m + 1, h => by
    have ih := sumW_dvd (g := g) (p := p) (d := d) (m := m) (fun j hj => h j (by omega))
    cases hp : p m with
    | false => rw [sumW_no hp]; exact ih
    | true => rw [sumW_yes hp]; exact Nat.dvd_add ih (h m (by omega) hp)
theorem sumW_none {g : Nat → Nat} {p : Nat → Bool} : ∀ {m : Nat}, (∀ j, j < m → p j = true → g j = 0) → sumW g p m = 0
  | 0, _ => rfl
  | m + 1, h => by
    have ih := sumW_none (g := g) (p := p) (m := m) (fun j hj => h j (by omega))
    cases hp : p m with
    | false => rw [sumW_no hp]; exact ih
    | true => rw [sumW_yes hp, ih, h m (by omega) hp]
/-- what symbols weigh -/
def wgtL (L : List Nat) (j : Nat) : Nat := wgt (L.getD j 0)
theorem wgtL_pos {L : List Nat} {i : Nat} (h : 0 < L.getD i 0) : wgtL L i = 2 ^ (15 - L.getD i 0) := by
  unfold wgtL wgt
  exact if_neg (by omega)
/-- what stands ahead of symbol i of length n -/
def aheadB (L : List Nat) (n i j : Nat) : Bool := decide (L.getD j 0 < n ∨ (L.getD j 0 = n ∧ j < i))
/-- where the words of length n that are given to symbols from i on begin -/
def posW (L : List Nat) (n i : Nat) : Nat := sumW (wgtL L) (aheadB L n i) L.length
def kraftW (L : List Nat) : Nat := sumW (wgtL L) (fun _ => true) L.length
theorem posW_dvd (L : List Nat) {n : Nat} (i : Nat) (hn : n ≤ 15) : 2 ^ (15 - n) ∣ posW L n i := sumW_dvd fun j hj h => by
  have h' : L.getD j 0 ≤ n := by
    have := of_decide_eq_true h
    omega
  unfold wgtL wgt
  split
  · exact Nat.dvd_zero _
  · exact Nat.pow_dvd_pow 2 (by omega)
theorem posW_step (L : List Nat) {n i : Nat} (hn : 0 < n) (hi : i < L.length) : posW L n (i + 1) = posW L n i + (if L.getD i 0 = n then 2 ^ (15 - n) else 0) := by
  unfold posW
  by_cases h : L.getD i 0 = n
  · rw [if_pos h, sumW_add (g := wgtL L) (p := aheadB L n i) (q := aheadB L n (i + 1)) (i := i) (decide_eq_false (by omega)) (decide_eq_true (by omega)) (fun j hj => decide_eq_decide.2 (by omega)) hi, wgtL_pos (by omega), h]
  · rw [if_neg h, Nat.add_zero]
    refine sumW_congr fun j hj => decide_eq_decide.2 ?_
    by_cases e : j = i
    · subst e; omega
    · omega
theorem posW_next (L : List Nat) (n : Nat) : posW L n L.length = posW L (n + 1) 0 := sumW_congr fun j hj => decide_eq_decide.2 (by omega)
theorem posW_one (L : List Nat) : posW L 1 0 = 0 := sumW_none fun j _ h => by
  have h0 : L.getD j 0 = 0 := by have := of_decide_eq_true h; omega
  unfold wgtL wgt
  rw [h0]
  rfl
/-- the word of symbol i, as a number -/
def wordW (L : List Nat) (i : Nat) : Nat := posW L (L.getD i 0) i / 2 ^ (15 - L.getD i 0)
theorem wordW_pos (L : List Nat) {i : Nat} (h : L.getD i 0 ≤ 15) : wordW L i * 2 ^ (15 - L.getD i 0) = posW L (L.getD i 0) i := Nat.div_mul_cancel (posW_dvd L i h)
theorem posW_le (L : List Nat) {i : Nat} (hi : i < L.length) (h0 : 0 < L.getD i 0) : posW L (L.getD i 0) i + 2 ^ (15 - L.getD i 0) ≤ kraftW L := by
  have h := sumW_more (g := wgtL L) (p := aheadB L (L.getD i 0) i) (q := fun _ => true) (i := i) (decide_eq_false (by omega)) rfl hi (fun _ _ _ => rfl)
  rw [wgtL_pos h0] at h
  exact h
/-- no two stand in one place -/
theorem posW_apart (L : List Nat) {i k : Nat} (hi : i < L.length) (h0 : 0 < L.getD i 0) (hl : L.getD i 0 < L.getD k 0 ∨ (L.getD i 0 = L.getD k 0 ∧ i < k)) :
    posW L (L.getD i 0) i + 2 ^ (15 - L.getD i 0) ≤ posW L (L.getD k 0) k := by
  have h := sumW_more (g := wgtL L) (p := aheadB L (L.getD i 0) i) (q := aheadB L (L.getD k 0) k) (i := i) (decide_eq_false (by omega)) (decide_eq_true (by omega)) hi (fun j _ hj => by
    have := of_decide_eq_true hj
    exact decide_eq_true (by omega))
  rw [wgtL_pos h0] at h
  exact h
theorem wordW_lt (L : List Nat) {i : Nat} (hi : i < L.length) (h0 : 0 < L.getD i 0) (h15 : L.getD i 0 ≤ 15) (hk : kraftW L ≤ 2 ^ 15) : wordW L i < 2 ^ L.getD i 0 := by
  have h1 := posW_le L hi h0
  have h2 := wordW_pos L h15
  have h3 := Nat.two_pow_pos (15 - L.getD i 0)
  have h4 : 2 ^ 15 = 2 ^ L.getD i 0 * 2 ^ (15 - L.getD i 0) := by rw [← Nat.pow_add]; congr 1; omega
  have h5 : wordW L i * 2 ^ (15 - L.getD i 0) < 2 ^ L.getD i 0 * 2 ^ (15 - L.getD i 0) := by rw [h2, ← h4]; omega
  exact Nat.lt_of_mul_lt_mul_right h5
/-- symbol i's bits, the highest first, as a number -/
def codeW (L : List Nat) (i : Nat) : Nat := revN (wordW L i) (L.getD i 0)
/-- no word begins another one -/
theorem codeW_free (L : List Nat) {i k : Nat} (hi : i < L.length) (hk : k < L.length) (hne : i ≠ k) (i0 : 0 < L.getD i 0) (hl : L.getD i 0 ≤ L.getD k 0) (h15 : L.getD k 0 ≤ 15) (hK : kraftW L ≤ 2 ^ 15) :
    codeW L k % 2 ^ L.getD i 0 ≠ codeW L i := by
  intro e
  have k0 : 0 < L.getD k 0 := by omega
  have i15 : L.getD i 0 ≤ 15 := by omega
  have wi := wordW_lt L hi i0 i15 hK
  have wk := wordW_lt L hk k0 h15 hK
  unfold codeW at e
  rw [revN_mod hl] at e
  have hd : wordW L k / 2 ^ (L.getD k 0 - L.getD i 0) < 2 ^ L.getD i 0 := by
    rw [Nat.div_lt_iff_lt_mul (Nat.two_pow_pos _), ← Nat.pow_add, show L.getD i 0 + (L.getD k 0 - L.getD i 0) = L.getD k 0 by omega]
    exact wk
  have e2 := revN_inj hd wi e
  have pi := wordW_pos L i15
  have pk := wordW_pos L h15
  have ek : 2 ^ (15 - L.getD i 0) = 2 ^ (L.getD k 0 - L.getD i 0) * 2 ^ (15 - L.getD k 0) := by rw [← Nat.pow_add]; congr 1; omega
  have lo : posW L (L.getD i 0) i ≤ posW L (L.getD k 0) k := by
    rw [← pi, ← pk, ← e2, ek, ← Nat.mul_assoc]
    exact Nat.mul_le_mul_right _ (Nat.div_mul_le_self _ _)
  have hi2 : posW L (L.getD k 0) k < posW L (L.getD i 0) i + 2 ^ (15 - L.getD i 0) := by
    rw [← pi, ← pk, ← e2, ek, ← Nat.mul_assoc, ← Nat.add_mul]
    refine Nat.mul_lt_mul_of_pos_right ?_ (Nat.two_pow_pos _)
    have := Nat.lt_div_mul_add (Nat.two_pow_pos (L.getD k 0 - L.getD i 0)) (a := wordW L k)
    exact this
  rcases Nat.lt_or_ge (L.getD i 0) (L.getD k 0) with h | h
  · have := posW_apart L (k := k) hi i0 (.inl h)
    omega
  · have heq : L.getD i 0 = L.getD k 0 := by omega
    rcases Nat.lt_or_ge i k with h' | h'
    · have := posW_apart L (k := k) hi i0 (.inr ⟨heq, h'⟩)
      omega
    · have := posW_apart L (i := k) (k := i) hk k0 (.inr ⟨heq.symm, by omega⟩)
      have := Nat.two_pow_pos (15 - L.getD k 0)
      omega
theorem codeW_lt (L : List Nat) (i : Nat) : codeW L i < 2 ^ L.getD i 0 := revN_lt _ _
theorem codeW_inj (L : List Nat) {i k : Nat} (hi : i < L.length) (hk : k < L.length) (i0 : 0 < L.getD i 0) (hl : L.getD k 0 = L.getD i 0) (h15 : L.getD i 0 ≤ 15) (hK : kraftW L ≤ 2 ^ 15) (h : codeW L k = codeW L i) : k = i := by
  by_cases e : i = k
  · exact e.symm
  · refine absurd ?_ (codeW_free L hi hk e i0 (by omega) (by omega) hK)
    rw [← hl, Nat.mod_eq_of_lt (codeW_lt L k)]
    exact h
/-! ### told by bits -/
/-- the symbol of this word -/
def hitW (L : List Nat) (n w : Nat) : Option Nat := (List.range L.length).find? fun i => L.getD i 0 == w && codeW L i == n
/-- does a longer word begin so? -/
def moreW (L : List Nat) (n w : Nat) : Bool := (List.range L.length).any fun i => decide (w < L.getD i 0) && codeW L i % 2 ^ w == n
/-- what Next tells from the w-th bit on, with d lengths to go: the symbol, the error, where the reader stands -/
def toldW (L s : List Nat) (p : Nat) : Nat → Nat → Nat × Nat × Nat
  | 0, w => (0, 70, p + (w - 1))
  | d + 1, w =>
    if 8 * s.length < p + w then (0, 40, p + (w - 1))
    else match hitW L (numB s p w) w with
      | some i => (i, 0, p + w)
      | none => if moreW L (numB s p w) w then toldW L s p d (w + 1) else (0, 70, p + w)
theorem numB_mod (s : List Nat) (p w d : Nat) : numB s p (w + d) % 2 ^ w = numB s p w := accB_mod (fun _ => bitAt_lt _ _) w d
theorem hitW_none {L : List Nat} {n w : Nat} (h : ∀ k, k < L.length → L.getD k 0 = w → codeW L k ≠ n) : hitW L n w = none := by
  unfold hitW
  rw [List.find?_eq_none]
  intro k hk hb
  rw [List.mem_range] at hk
  rw [Bool.and_eq_true, beq_iff_eq, beq_iff_eq] at hb
  exact h k hk hb.1 hb.2
theorem hitW_some {L : List Nat} {n w i : Nat} (hi : i < L.length) (h1 : L.getD i 0 = w) (h2 : codeW L i = n) (h : ∀ k, k < L.length → L.getD k 0 = w → codeW L k = n → k = i) : hitW L n w = some i := by
  cases hf : hitW L n w with
  | none =>
    unfold hitW at hf
    rw [List.find?_eq_none] at hf
    refine absurd ?_ (hf i (List.mem_range.2 hi))
    rw [Bool.and_eq_true, beq_iff_eq, beq_iff_eq]
    exact ⟨h1, h2⟩
  | some k =>
    unfold hitW at hf
    have hm := List.mem_of_find?_eq_some hf
    have hp := List.find?_some hf
    rw [List.mem_range] at hm
    rw [Bool.and_eq_true, beq_iff_eq, beq_iff_eq] at hp
    rw [h k hm hp.1 hp.2]
/-- bits that begin by a word are that symbol -/
theorem toldW_word {L s : List Nat} {p i : Nat} (hi : i < L.length) (i0 : 0 < L.getD i 0) (h15 : ∀ k, L.getD k 0 ≤ 15) (hK : kraftW L ≤ 2 ^ 15) (hn : numB s p (L.getD i 0) = codeW L i) (hs : p + L.getD i 0 ≤ 8 * s.length) :
    ∀ d w, 0 < w → w ≤ L.getD i 0 → L.getD i 0 < w + d → toldW L s p d w = (i, 0, p + L.getD i 0)
  | 0, w, h1, h2, h3 => by omega
  | d + 1, w, h1, h2, h3 => by
    have hm : numB s p w = codeW L i % 2 ^ w := by
      obtain ⟨e, he⟩ : ∃ e, L.getD i 0 = w + e := ⟨L.getD i 0 - w, by omega⟩
      rw [← hn, he, numB_mod]
    unfold toldW
    rw [if_neg (by omega)]
    by_cases e : w = L.getD i 0
    · rw [hitW_some (i := i) hi e.symm (by rw [e, hn]) (fun k hk k1 k2 => codeW_inj L hi hk i0 (by rw [k1, e]) (h15 i) hK (by rw [k2, e, hn]))]
      rw [e]
    · rw [hitW_none (fun k hk k1 k2 => by
        by_cases ek : k = i
        · subst ek; exact e k1.symm
        · refine codeW_free L hk hi ek (by omega) (by omega) (h15 i) hK ?_
          rw [k1, ← hm, k2])]
      have hmo : moreW L (numB s p w) w = true := by
        unfold moreW
        rw [List.any_eq_true]
        refine ⟨i, List.mem_range.2 hi, ?_⟩
        rw [Bool.and_eq_true, decide_eq_true_eq, beq_iff_eq]
        exact ⟨by omega, hm.symm⟩
      show (if moreW L (numB s p w) w = true then toldW L s p d (w + 1) else (0, 70, p + w)) = _
      rw [if_pos hmo]
      exact toldW_word hi i0 h15 hK hn hs d (w + 1) (by omega) (by omega) (by omega)
end Go.Proofs.Ytpjihjbgihionaa
namespace Go.Proofs.Ytpjihjbgihionaa
set_option linter.unusedVariables false

/-- the lightest one, the earlier of the same -/
def light : List (Nat × Nat) → (Nat × Nat)
  | [] => (0, 0)
  | t :: l => l.foldl (fun m u => if u.1 < m.1 then u else m) t
def lexT (t u : (Nat × Nat)) : Prop := t.1 < u.1 ∨ (t.1 = u.1 ∧ t.2 < u.2)
theorem light_fold : ∀ (l : List (Nat × Nat)) (t : (Nat × Nat)), (t :: l).Pairwise (fun a b => a.2 < b.2) →
    l.foldl (fun m u => if u.1 < m.1 then u else m) t ∈ t :: l ∧ ∀ u ∈ t :: l, u ≠ l.foldl (fun m u => if u.1 < m.1 then u else m) t → lexT (l.foldl (fun m u => if u.1 < m.1 then u else m) t) u
  | [], t, _ => ⟨by simp, fun u hu hne => by simp at hu; exact absurd hu hne⟩
  | v :: l, t, h => by
    have h1 := List.pairwise_cons.1 h
    have h2 := List.pairwise_cons.1 h1.2
    simp only [List.foldl_cons]
    by_cases e : v.1 < t.1
    · rw [if_pos e]
      have ih := light_fold l v h1.2
      refine ⟨List.mem_cons_of_mem _ ih.1, fun u hu hne => ?_⟩
      rcases List.mem_cons.1 hu with rfl | hu
      · generalize List.foldl _ v l = m at *
        by_cases em : v = m
        · rw [← em]; exact .inl e
        · have := ih.2 v (by simp) em
          unfold lexT at this ⊢
          omega
      · exact ih.2 u hu hne
    · rw [if_neg e]
      have hp : (t :: l).Pairwise (fun a b => a.2 < b.2) := List.pairwise_cons.2 ⟨fun u hu => h1.1 u (by simp [hu]), h2.2⟩
      have ih := light_fold l t hp
      have htv := h1.1 v (by simp)
      refine ⟨?_, fun u hu hne => ?_⟩
      · rcases List.mem_cons.1 ih.1 with h' | h'
        · rw [h']; simp
        · simp [h']
      · rcases List.mem_cons.1 hu with rfl | hu
        · exact ih.2 u (by simp) hne
        · rcases List.mem_cons.1 hu with rfl | hu
          · generalize hm : List.foldl _ t l = m at *
            by_cases em : t = m
            · rw [← em]; unfold lexT; omega
            · have := ih.2 t (by simp) em
              unfold lexT at this ⊢
              omega
          · exact ih.2 u (by simp [hu]) hne
/-- in order of their coming, all ahead of c -/
def OkT (c : Nat) (l : List (Nat × Nat)) : Prop := l.Pairwise (fun a b => a.2 < b.2) ∧ ∀ t ∈ l, t.2 < c
theorem light_mem {c : Nat} {l : List (Nat × Nat)} (h : OkT c l) (h0 : l ≠ []) : light l ∈ l := by
  match l, h0 with
  | t :: l, _ => exact (light_fold l t h.1).1
theorem light_le {c : Nat} {l : List (Nat × Nat)} (h : OkT c l) {u : (Nat × Nat)} (hu : u ∈ l) (hne : u ≠ light l) : lexT (light l) u := by
  match l, hu with
  | t :: l, hu => exact (light_fold l t h.1).2 u hu hne
theorem OkT.nodup {c : Nat} {l : List (Nat × Nat)} (h : OkT c l) : l.Nodup := h.1.imp fun h e => by subst e; exact Nat.lt_irrefl _ h
theorem OkT.erase {c : Nat} {l : List (Nat × Nat)} (h : OkT c l) (t : (Nat × Nat)) : OkT c (l.erase t) := ⟨h.1.sublist List.erase_sublist, fun u hu => h.2 u (List.mem_of_mem_erase hu)⟩
theorem OkT.inj {c : Nat} {l : List (Nat × Nat)} (h : OkT c l) {t u : (Nat × Nat)} (ht : t ∈ l) (hu : u ∈ l) (e : t.2 = u.2) : t = u := by
  by_cases hne : t = u
  · exact hne
  · exact absurd e (by
      rcases List.getElem_of_mem ht with ⟨i, hi, rfl⟩
      rcases List.getElem_of_mem hu with ⟨j, hj, rfl⟩
      have hp := List.pairwise_iff_getElem.1 h.1
      rcases Nat.lt_trichotomy i j with hij | hij | hij
      · have := hp i j hi hj hij; omega
      · subst hij; exact absurd rfl hne
      · have := hp j i hj hi hij; omega)
theorem OkT.push {c : Nat} {l : List (Nat × Nat)} (h : OkT c l) (w : Nat) : OkT (c + 1) (l ++ [(w, c)]) := by
  refine ⟨List.pairwise_append.2 ⟨h.1, by simp, fun t ht u hu => ?_⟩, fun t ht => ?_⟩
  · simp at hu; subst hu; exact h.2 t ht
  · rcases List.mem_append.1 ht with ht | ht
    · have := h.2 t ht; omega
    · simp at ht; subst ht; show c < c + 1; omega
/-- the two lightest, and what is left -/
def pickA (l : List (Nat × Nat)) : (Nat × Nat) := light l
def pickB (l : List (Nat × Nat)) : (Nat × Nat) := light (l.erase (light l))
def pickM (l : List (Nat × Nat)) : List (Nat × Nat) := (l.erase (pickA l)).erase (pickB l)
def both (c : Nat) (l : List (Nat × Nat)) : (Nat × Nat) := ((pickA l).1 + (pickB l).1, c)
def nextT (c : Nat) (l : List (Nat × Nat)) : List (Nat × Nat) := pickM l ++ [both c l]
theorem pickA_mem {c : Nat} {l : List (Nat × Nat)} (h : OkT c l) (h2 : 2 ≤ l.length) : pickA l ∈ l := light_mem h (by intro e; subst e; simp at h2)
theorem erase_len {c : Nat} {l : List (Nat × Nat)} (h : OkT c l) (h2 : 2 ≤ l.length) : (l.erase (pickA l)).length = l.length - 1 := List.length_erase_of_mem (pickA_mem h h2)
theorem pickB_mem' {c : Nat} {l : List (Nat × Nat)} (h : OkT c l) (h2 : 2 ≤ l.length) : pickB l ∈ l.erase (pickA l) := light_mem (h.erase _) (by
  intro e
  have := erase_len h h2
  rw [e] at this
  simp at this
  omega)
theorem pickB_mem {c : Nat} {l : List (Nat × Nat)} (h : OkT c l) (h2 : 2 ≤ l.length) : pickB l ∈ l := List.mem_of_mem_erase (pickB_mem' h h2)
theorem pick_ne {c : Nat} {l : List (Nat × Nat)} (h : OkT c l) (h2 : 2 ≤ l.length) : pickB l ≠ pickA l := fun e => by
  have := pickB_mem' h h2
  rw [e] at this
  exact (h.nodup.not_mem_erase) this
theorem pickM_mem {c : Nat} {l : List (Nat × Nat)} (h : OkT c l) {t : (Nat × Nat)} : t ∈ pickM l ↔ t ∈ l ∧ t ≠ pickA l ∧ t ≠ pickB l := by
  unfold pickM
  rw [(h.erase _).nodup.mem_erase_iff, h.nodup.mem_erase_iff]
  exact ⟨fun ⟨q1, q2, q3⟩ => ⟨q3, q2, q1⟩, fun ⟨q1, q2, q3⟩ => ⟨q3, q2, q1⟩⟩
theorem pickM_len {c : Nat} {l : List (Nat × Nat)} (h : OkT c l) (h2 : 2 ≤ l.length) : (pickM l).length = l.length - 2 := by
  unfold pickM
  rw [List.length_erase_of_mem (pickB_mem' h h2)]
  have := erase_len h h2
  omega
theorem pickM_le {c : Nat} {l : List (Nat × Nat)} (h : OkT c l) {t : (Nat × Nat)} (ht : t ∈ pickM l) : lexT (pickA l) t ∧ lexT (pickB l) t := by
  obtain ⟨q1, q2, q3⟩ := (pickM_mem h).1 ht
  exact ⟨light_le h q1 q2, light_le (h.erase _) (h.nodup.mem_erase_iff.2 ⟨q2, q1⟩) q3⟩
theorem pick_le {c : Nat} {l : List (Nat × Nat)} (h : OkT c l) (h2 : 2 ≤ l.length) : lexT (pickA l) (pickB l) := light_le h (pickB_mem h h2) (pick_ne h h2)
theorem nextT_ok {c : Nat} {l : List (Nat × Nat)} (h : OkT c l) : OkT (c + 1) (nextT c l) := OkT.push ((h.erase _).erase _) _
theorem nextT_len {c : Nat} {l : List (Nat × Nat)} (h : OkT c l) (h2 : 2 ≤ l.length) : (nextT c l).length = l.length - 1 := by
  unfold nextT
  rw [List.length_append, pickM_len h h2]
  simp
  omega
/-- how deep the tree that came at x stands at the end -/
def deepT : Nat → Nat → List (Nat × Nat) → Nat → Nat
  | 0, _, _, _ => 0
  | f + 1, c, l, x => if l.length ≤ 1 then 0 else if x = (pickA l).2 ∨ x = (pickB l).2 then deepT f (c + 1) (nextT c l) c + 1 else deepT f (c + 1) (nextT c l) x
theorem deepT_end {f c : Nat} {l : List (Nat × Nat)} {x : Nat} (hl : l.length ≤ 1) : deepT f c l x = 0 := by
  cases f with
  | zero => rfl
  | succ f => exact if_pos hl
theorem deepT_a {f c : Nat} {l : List (Nat × Nat)} (hl : 2 ≤ l.length) : deepT (f + 1) c l (pickA l).2 = deepT f (c + 1) (nextT c l) c + 1 := by
  conv => lhs; unfold deepT
  rw [if_neg (by omega), if_pos (.inl rfl)]
theorem deepT_b {f c : Nat} {l : List (Nat × Nat)} (hl : 2 ≤ l.length) : deepT (f + 1) c l (pickB l).2 = deepT f (c + 1) (nextT c l) c + 1 := by
  conv => lhs; unfold deepT
  rw [if_neg (by omega), if_pos (.inr rfl)]
theorem deepT_m {f c : Nat} {l : List (Nat × Nat)} (h : OkT c l) (hl : 2 ≤ l.length) {t : (Nat × Nat)} (ht : t ∈ pickM l) : deepT (f + 1) c l t.2 = deepT f (c + 1) (nextT c l) t.2 := by
  obtain ⟨q1, q2, q3⟩ := (pickM_mem h).1 ht
  conv => lhs; unfold deepT
  rw [if_neg (by omega), if_neg]
  rintro (e | e)
  · exact q2 (h.inj q1 (pickA_mem h hl) e)
  · exact q3 (h.inj q1 (pickB_mem h hl) e)
/-- a tree of l is one of the two, or is left -/
theorem pick_cases {c : Nat} {l : List (Nat × Nat)} (h : OkT c l) {t : (Nat × Nat)} (ht : t ∈ l) : t = pickA l ∨ t = pickB l ∨ t ∈ pickM l := by
  by_cases e1 : t = pickA l
  · exact .inl e1
  · by_cases e2 : t = pickB l
    · exact .inr (.inl e2)
    · exact .inr (.inr ((pickM_mem h).2 ⟨ht, e1, e2⟩))
theorem mem_next {c : Nat} {l : List (Nat × Nat)} {t : (Nat × Nat)} (ht : t ∈ pickM l) : t ∈ nextT c l := List.mem_append_left _ ht
theorem both_next (c : Nat) (l : List (Nat × Nat)) : both c l ∈ nextT c l := List.mem_append_right _ (by simp)
/-- what comes earlier, or weighs less, stands no higher; and where all others weigh at least half as much as one, none stands more than one level deeper than it -/
theorem deep_order : ∀ (f c : Nat) (l : List (Nat × Nat)), OkT c l → l.length ≤ f + 1 →
    (∀ t ∈ l, ∀ u ∈ l, lexT t u → deepT f c l u.2 ≤ deepT f c l t.2) ∧
    (∀ r ∈ l, (∀ u ∈ l, u ≠ r → r.1 ≤ 2 * u.1) → ∀ u ∈ l, deepT f c l u.2 ≤ deepT f c l r.2 + 1)
  | f, c, l, h, hf => by
    by_cases hl : l.length ≤ 1
    · exact ⟨fun t _ u _ _ => by rw [deepT_end hl, deepT_end hl]; exact Nat.le_refl _, fun r _ _ u _ => by rw [deepT_end hl]; omega⟩
    match f, hf with
    | 0, hf => omega
    | f + 1, hf =>
      have h2 : 2 ≤ l.length := by omega
      have hn := nextT_len h h2 
      have ih := deep_order f (c + 1) (nextT c l) (nextT_ok h) (by omega)
      have hle := fun {t : (Nat × Nat)} (ht : t ∈ pickM l) => pickM_le h ht
      have hab := pick_le h h2
      have hbn := both_next c l
      have hbw : (both c l).1 = (pickA l).1 + (pickB l).1 := rfl
      -- none is more than one level deeper than both
      have hP : ∀ u ∈ pickM l, deepT f (c + 1) (nextT c l) u.2 ≤ deepT f (c + 1) (nextT c l) c + 1 := fun u hu =>
        ih.2 (both c l) hbn (fun v hv hne => by
          rcases List.mem_append.1 hv with hv | hv
          · have h1 := hle hv
            unfold lexT at h1 hab
            omega
          · simp at hv; exact absurd hv hne) u (mem_next hu)
      refine ⟨fun t ht u hu htu => ?_, fun r hr hrw u hu => ?_⟩
      · rcases pick_cases h ht with rfl | rfl | ht'
        · rcases pick_cases h hu with rfl | rfl | hu'
          · exact Nat.le_refl _
          · rw [deepT_a h2, deepT_b h2]; exact Nat.le_refl _
          · rw [deepT_a h2, deepT_m h h2 hu']; exact hP u hu'
        · rcases pick_cases h hu with rfl | rfl | hu'
          · rw [deepT_a h2, deepT_b h2]; exact Nat.le_refl _
          · exact Nat.le_refl _
          · rw [deepT_b h2, deepT_m h h2 hu']; exact hP u hu'
        · have h1 := hle ht'
          rcases pick_cases h hu with rfl | rfl | hu'
          · unfold lexT at h1 htu; omega
          · unfold lexT at h1 htu; omega
          · rw [deepT_m h h2 ht', deepT_m h h2 hu']
            exact ih.1 t (mem_next ht') u (mem_next hu') htu
      · -- r against what it may be
        rcases pick_cases h hr with rfl | rfl | hr'
        · rw [deepT_a h2]
          rcases pick_cases h hu with rfl | rfl | hu'
          · rw [deepT_a h2]; omega
          · rw [deepT_b h2]; omega
          · rw [deepT_m h h2 hu']; have := hP u hu'; omega
        · rw [deepT_b h2]
          rcases pick_cases h hu with rfl | rfl | hu'
          · rw [deepT_a h2]; omega
          · rw [deepT_b h2]; omega
          · rw [deepT_m h h2 hu']; have := hP u hu'; omega
        · have hra := hrw (pickA l) (pickA_mem h h2) (fun e => by rw [← e] at hr'; exact ((pickM_mem h).1 hr').2.1 rfl)
          have hrb := hrw (pickB l) (pickB_mem h h2) (fun e => by rw [← e] at hr'; exact ((pickM_mem h).1 hr').2.2 rfl)
          have hrc : r.2 < c := h.2 r hr
          have hord : deepT f (c + 1) (nextT c l) c ≤ deepT f (c + 1) (nextT c l) r.2 := ih.1 r (mem_next hr') (both c l) hbn (by
            unfold lexT
            rw [hbw]
            show _ ∨ (_ ∧ r.2 < c)
            omega)
          rw [deepT_m h h2 hr']
          rcases pick_cases h hu with rfl | rfl | hu'
          · rw [deepT_a h2]; omega
          · rw [deepT_b h2]; omega
          · rw [deepT_m h h2 hu']
            refine ih.2 r (mem_next hr') (fun v hv hne => ?_) u (mem_next hu')
            rcases List.mem_append.1 hv with hv | hv
            · exact hrw v ((pickM_mem h).1 hv).1 hne
            · simp at hv; rw [hv, hbw]; omega
theorem pick_perm {c : Nat} {l : List (Nat × Nat)} (h : OkT c l) (h2 : 2 ≤ l.length) : l.Perm (pickA l :: pickB l :: pickM l) :=
  (List.perm_cons_erase (pickA_mem h h2)).trans ((List.perm_cons_erase (pickB_mem' h h2)).cons _)
theorem sum_perm {a b : List Nat} (h : a.Perm b) : a.sum = b.sum := h.sum_nat
theorem deepT_le : ∀ (f c : Nat) (l : List (Nat × Nat)) (x : Nat), deepT f c l x ≤ f
  | 0, _, _, _ => Nat.le_refl _
  | f + 1, c, l, x => by
    unfold deepT
    have h1 := deepT_le f (c + 1) (nextT c l) c
    have h2 := deepT_le f (c + 1) (nextT c l) x
    split
    · omega
    · split <;> omega
/-- the shares of all are one whole -/
theorem deep_kraft (H : Nat) : ∀ (f c : Nat) (l : List (Nat × Nat)), OkT c l → 1 ≤ l.length → l.length ≤ f + 1 → (∀ t ∈ l, deepT f c l t.2 ≤ H) → (l.map fun t => 2 ^ (H - deepT f c l t.2)).sum = 2 ^ H
  | f, c, l, h, h1, hf, hH => by
    by_cases hl : l.length ≤ 1
    · match l, h1, hl with
      | [t], _, _ => simp [deepT_end (f := f) (c := c) (l := [t]) (x := t.2) (by simp)]
    match f, hf with
    | 0, hf => omega
    | f + 1, hf =>
      have h2 : 2 ≤ l.length := by omega
      have hn := nextT_len h h2
      have hda := hH _ (pickA_mem h h2)
      rw [deepT_a h2] at hda
      have ih := deep_kraft H f (c + 1) (nextT c l) (nextT_ok h) (by omega) (by omega) (fun t ht => by
        rcases List.mem_append.1 ht with ht | ht
        · rw [← deepT_m h h2 ht]; exact hH t ((pickM_mem h).1 ht).1
        · simp at ht; rw [ht]; show deepT f (c + 1) (nextT c l) c ≤ H; omega)
      rw [sum_perm ((pick_perm h h2).map _)]
      simp only [List.map_cons, List.sum_cons]
      rw [deepT_a h2, deepT_b h2, show (pickM l).map (fun (t : (Nat × Nat)) => 2 ^ (H - deepT (f + 1) c l t.2)) = (pickM l).map (fun (t : (Nat × Nat)) => 2 ^ (H - deepT f (c + 1) (nextT c l) t.2)) from List.map_congr_left fun t ht => by rw [deepT_m h h2 ht]]
      have e : nextT c l = pickM l ++ [both c l] := rfl
      conv at ih => lhs; arg 1; arg 2; rw [e]
      rw [List.map_append, List.sum_append] at ih
      simp only [List.map_cons, List.map_nil, List.sum_cons, List.sum_nil, Nat.add_zero] at ih
      have e2 : 2 ^ (H - deepT f (c + 1) (nextT c l) (both c l).2) = 2 ^ (H - (deepT f (c + 1) (nextT c l) c + 1)) * 2 := by
        rw [← Nat.pow_succ]
        congr 1
        show H - deepT f (c + 1) (nextT c l) c = _
        omega
      rw [e2] at ih
      omega
def fibN : Nat → Nat
  | 0 => 0
  | 1 => 1
  | n + 2 => fibN n + fibN (n + 1)
theorem fibN_le : ∀ n, fibN n ≤ fibN (n + 1)
  | 0 => by decide
  | n + 1 => by show fibN (n + 1) ≤ fibN n + fibN (n + 1); omega
theorem total_next {c : Nat} {l : List (Nat × Nat)} (h : OkT c l) (h2 : 2 ≤ l.length) : ((nextT c l).map (·.1)).sum = (l.map (·.1)).sum := by
  rw [sum_perm ((pick_perm h h2).map _)]
  unfold nextT
  rw [List.map_append, List.sum_append]
  simp only [List.map_cons, List.map_nil, List.sum_cons, List.sum_nil, Nat.add_zero]
  show _ + ((pickA l).1 + (pickB l).1) = _
  omega
theorem mem_total : ∀ {l : List (Nat × Nat)} {t : (Nat × Nat)}, t ∈ l → t.1 ≤ (l.map (·.1)).sum
  | u :: l, t, h => by
    simp only [List.map_cons, List.sum_cons]
    rcases List.mem_cons.1 h with rfl | h
    · omega
    · have := mem_total h; omega
/-- who stands deep has much beside it -/
theorem deep_fib : ∀ (f c : Nat) (l : List (Nat × Nat)), OkT c l → l.length ≤ f + 1 → ∀ r ∈ l, ∀ y, y ≤ r.1 → (∀ u ∈ l, u ≠ r → y ≤ u.1) →
    fibN (deepT f c l r.2 + 1) * r.1 + fibN (deepT f c l r.2) * y ≤ (l.map (·.1)).sum
  | f, c, l, h, hf, r, hr, y, hy, hu => by
    by_cases hl : l.length ≤ 1
    · rw [deepT_end hl]
      have := mem_total hr
      simp [fibN]
      exact this
    match f, hf with
    | 0, hf => omega
    | f + 1, hf =>
      have h2 : 2 ≤ l.length := by omega
      have hn := nextT_len h h2
      have ht := total_next h h2
      have hle := fun {t : (Nat × Nat)} (ht : t ∈ pickM l) => pickM_le h ht
      have hab := pick_le h h2
      have hne := pick_ne h h2
      have hbw : (both c l).1 = (pickA l).1 + (pickB l).1 := rfl
      have key : ∀ (q x : (Nat × Nat)), (both c l).1 = q.1 + x.1 → y ≤ x.1 → (∀ v ∈ pickM l, q.1 ≤ v.1) → deepT (f + 1) c l q.2 = deepT f (c + 1) (nextT c l) c + 1 →
          fibN (deepT (f + 1) c l q.2 + 1) * q.1 + fibN (deepT (f + 1) c l q.2) * y ≤ (l.map (·.1)).sum := fun q x e0 hyx hq e1 => by
        have ih := deep_fib f (c + 1) (nextT c l) (nextT_ok h) (by omega) (both c l) (both_next c l) q.1 (by omega) (fun v hv hnv => by
          rcases List.mem_append.1 hv with hv | hv
          · exact hq v hv
          · simp at hv; exact absurd hv hnv)
        rw [e1, ← ht]
        refine Nat.le_trans ?_ ih
        show fibN (deepT f (c + 1) (nextT c l) c + 2) * q.1 + fibN (deepT f (c + 1) (nextT c l) c + 1) * y ≤ fibN (deepT f (c + 1) (nextT c l) c + 1) * (both c l).1 + fibN (deepT f (c + 1) (nextT c l) c) * q.1
        generalize deepT f (c + 1) (nextT c l) c = d
        show (fibN d + fibN (d + 1)) * q.1 + fibN (d + 1) * y ≤ _
        rw [e0, Nat.add_mul, Nat.mul_add]
        have := Nat.mul_le_mul_left (fibN (d + 1)) hyx
        omega
      rcases pick_cases h hr with rfl | rfl | hr'
      · exact key (pickA l) (pickB l) hbw (hu _ (pickB_mem h h2) hne) (fun v hv => by have := (hle hv).1; unfold lexT at this; omega) (deepT_a h2)
      · exact key (pickB l) (pickA l) (by rw [hbw]; omega) (hu _ (pickA_mem h h2) (fun e => hne e.symm)) (fun v hv => by have := (hle hv).2; unfold lexT at this; omega) (deepT_b h2)
      · rw [deepT_m h h2 hr', ← ht]
        have hra := hu (pickA l) (pickA_mem h h2) (fun e => by rw [← e] at hr'; exact ((pickM_mem h).1 hr').2.1 rfl)
        refine deep_fib f (c + 1) (nextT c l) (nextT_ok h) (by omega) r (mem_next hr') y hy (fun v hv hnv => ?_)
        rcases List.mem_append.1 hv with hv | hv
        · exact hu v ((pickM_mem h).1 hv).1 hnv
        · simp at hv; rw [hv, hbw]; omega
end Go.Proofs.Ytpjihjbgihionaa
namespace Go.Proofs.Ytpjihjbgihionaa
set_option linter.unusedVariables false

theorem sum_lt_mul {g : (Nat × Nat) → Nat} {K : Nat} : ∀ {l : List (Nat × Nat)}, (∀ t ∈ l, g t ≤ K) → (∃ u ∈ l, g u < K) → (l.map g).sum < l.length * K
  | [], _, ⟨u, hu, _⟩ => by simp at hu
  | t :: l, h, ⟨u, hu, hk⟩ => by
    have h1 := h t (by simp)
    have hle : (l.map g).sum ≤ l.length * K := by
      have : ∀ {m : List (Nat × Nat)}, (∀ t ∈ m, g t ≤ K) → (m.map g).sum ≤ m.length * K := by
        intro m hm
        induction m with
        | nil => simp
        | cons v m ih =>
          have := hm v (by simp)
          have := ih (fun t ht => hm t (by simp [ht]))
          simp only [List.map_cons, List.sum_cons, List.length_cons, Nat.add_mul]
          omega
      exact this fun t ht => h t (by simp [ht])
    simp only [List.map_cons, List.sum_cons, List.length_cons, Nat.add_mul]
    rcases List.mem_cons.1 hu with rfl | hu
    · omega
    · have := sum_lt_mul (l := l) (fun t ht => h t (by simp [ht])) ⟨u, hu, hk⟩
      omega
/-- of weights of one none is too deep -/
theorem deep_ones {f c lim : Nat} {l : List (Nat × Nat)} (h : OkT c l) (hf : l.length ≤ f + 1) (h1 : ∀ t ∈ l, t.1 = 1) (hn : l.length ≤ 2 ^ lim) {u : (Nat × Nat)} (hu : u ∈ l) : deepT f c l u.2 ≤ lim := by
  rcases Nat.lt_or_ge lim (deepT f c l u.2) with hd | hd
  · exfalso
    have hfu := deepT_le f c l u.2
    have hall : ∀ t ∈ l, lim ≤ deepT f c l t.2 := fun t ht => by
      have := (deep_order f c l h hf).2 t ht (fun v hv _ => by rw [h1 t ht, h1 v hv]; omega) u hu
      omega
    have hk := deep_kraft f f c l h (List.length_pos_of_mem hu) hf (fun t _ => deepT_le _ _ _ _)
    have hlt := sum_lt_mul (g := fun t => 2 ^ (f - deepT f c l t.2)) (K := 2 ^ (f - lim)) (l := l) (fun t ht => Nat.pow_le_pow_right (by decide) (by have := hall t ht; omega)) ⟨u, hu, Nat.pow_lt_pow_right (by decide) (by omega)⟩
    rw [hk] at hlt
    have h2 : l.length * 2 ^ (f - lim) ≤ 2 ^ lim * 2 ^ (f - lim) := Nat.mul_le_mul_right _ hn
    rw [← Nat.pow_add, show lim + (f - lim) = f by omega] at h2
    omega
  · exact hd
/-- of few in all none is deep -/
theorem deep_few {f c : Nat} {l : List (Nat × Nat)} (h : OkT c l) (hf : l.length ≤ f + 1) (h1 : ∀ t ∈ l, 1 ≤ t.1) (hs : (l.map (·.1)).sum < 987) {u : (Nat × Nat)} (hu : u ∈ l) : deepT f c l u.2 ≤ 13 := by
  have hb := deep_fib f c l h hf u hu 1 (h1 u hu) (fun v hv _ => h1 v hv)
  have hmono : ∀ {a b : Nat}, a ≤ b → fibN a ≤ fibN b := fun {a b} hab => by
    obtain ⟨d, rfl⟩ : ∃ d, b = a + d := ⟨b - a, by omega⟩
    induction d with
    | zero => exact Nat.le_refl _
    | succ d ih => exact Nat.le_trans (ih (by omega)) (fibN_le (a + d))
  rcases Nat.lt_or_ge 13 (deepT f c l u.2) with hd | hd
  · exfalso
    have e1 : fibN 15 ≤ fibN (deepT f c l u.2 + 1) := hmono (by omega)
    have e2 : fibN 14 ≤ fibN (deepT f c l u.2) := hmono (by omega)
    have e3 := Nat.mul_le_mul_left (fibN (deepT f c l u.2 + 1)) (h1 u hu)
    rw [show fibN 15 = 610 by decide] at e1
    rw [show fibN 14 = 377 by decide] at e2
    omega
  · exact hd
/-- the trees at first: of each symbol that comes -/
def treesF (fr : List Nat) : List (Nat × Nat) := ((List.range fr.length).filter fun i => decide (0 < fr.getD i 0)).map fun i => (fr.getD i 0, i)
theorem treesF_ok (fr : List Nat) : OkT fr.length (treesF fr) := by
  refine ⟨?_, fun t ht => ?_⟩
  · unfold treesF
    rw [List.pairwise_map]
    exact (List.pairwise_lt_range (n := fr.length)).filter _
  · obtain ⟨i, hi, rfl⟩ := List.mem_map.1 ht
    exact List.mem_range.1 (List.mem_filter.1 hi).1
theorem treesF_mem {fr : List Nat} {i : Nat} (hi : i < fr.length) (h : 0 < fr.getD i 0) : (fr.getD i 0, i) ∈ treesF fr :=
  List.mem_map.2 ⟨i, List.mem_filter.2 ⟨List.mem_range.2 hi, decide_eq_true h⟩, rfl⟩
theorem treesF_of {fr : List Nat} {t : (Nat × Nat)} (h : t ∈ treesF fr) : t.2 < fr.length ∧ t.1 = fr.getD t.2 0 ∧ 0 < t.1 := by
  obtain ⟨i, hi, rfl⟩ := List.mem_map.1 h
  obtain ⟨h1, h2⟩ := List.mem_filter.1 hi
  exact ⟨List.mem_range.1 h1, rfl, of_decide_eq_true h2⟩
theorem treesF_len (fr : List Nat) : (treesF fr).length ≤ fr.length := by
  unfold treesF
  rw [List.length_map]
  exact Nat.le_trans (List.length_filter_le _ _) (by simp)
/-- how deep symbol i stands -/
def depF (fr : List Nat) (i : Nat) : Nat := if fr.getD i 0 = 0 then 0 else if (treesF fr).length = 1 then 1 else deepT fr.length fr.length (treesF fr) i
def depthsF (fr : List Nat) : List Nat := (List.range fr.length).map (depF fr)
theorem depthsF_len (fr : List Nat) : (depthsF fr).length = fr.length := by simp [depthsF]
theorem depthsF_getD {fr : List Nat} {i : Nat} (h : i < fr.length) : (depthsF fr).getD i 0 = depF fr i := map_range_getD _ _ _ h
/-- each that comes as half of it and 1 -/
def halveF (fr : List Nat) : List Nat := fr.map fun n => (n + 1) / 2
theorem halveF_len (fr : List Nat) : (halveF fr).length = fr.length := by simp [halveF]
theorem halveF_getD (fr : List Nat) (i : Nat) : (halveF fr).getD i 0 = (fr.getD i 0 + 1) / 2 := by
  unfold halveF
  rw [List.getD_eq_getElem?_getD, List.getD_eq_getElem?_getD, List.getElem?_map]
  cases fr[i]? <;> rfl
theorem halveF_pos (fr : List Nat) (i : Nat) : 0 < (halveF fr).getD i 0 ↔ 0 < fr.getD i 0 := by rw [halveF_getD]; omega
theorem treesF_halve_len (fr : List Nat) : (treesF (halveF fr)).length = (treesF fr).length := by
  unfold treesF
  rw [List.length_map, List.length_map, halveF_len]
  congr 1
  refine List.filter_congr fun i _ => decide_eq_decide.2 (halveF_pos fr i)
/-- none is longer than lim -/
def fitsF (fr : List Nat) (lim : Nat) : Bool := decide (∀ d ∈ depthsF fr, d ≤ lim)
/-- the lengths, with k tries -/
def lensF (lim : Nat) : Nat → List Nat → List Nat
  | 0, fr => depthsF fr
  | k + 1, fr => if fitsF fr lim = true then depthsF fr else lensF lim k (halveF fr)
theorem fits_ones {fr : List Nat} {lim : Nat} (h1 : 1 ≤ lim) (hn : (treesF fr).length ≤ 2 ^ lim) (hf : ∀ i, fr.getD i 0 ≤ 1) : fitsF fr lim = true := by
  refine decide_eq_true fun d hd => ?_
  obtain ⟨i, hi, rfl⟩ := List.mem_map.1 hd
  have hi' := List.mem_range.1 hi
  unfold depF
  split
  · omega
  · rename_i h0
    split
    · omega
    · have hm := treesF_mem hi' (by omega : 0 < fr.getD i 0)
      exact deep_ones (treesF_ok fr) (by have := treesF_len fr; omega) (fun t ht => by
        obtain ⟨_, q2, q3⟩ := treesF_of ht
        have := hf t.2
        omega) hn hm
/-- it ends: after so many halvings all fit -/
theorem lensF_ends {lim : Nat} (h1 : 1 ≤ lim) : ∀ {k : Nat} {fr : List Nat}, (treesF fr).length ≤ 2 ^ lim → (∀ i, fr.getD i 0 ≤ 2 ^ k) → ∀ d ∈ lensF lim k fr, d ≤ lim
  | 0, fr, hn, hf => of_decide_eq_true (fits_ones h1 hn fun i => hf i)
  | k + 1, fr, hn, hf => by
    unfold lensF
    split
    · exact of_decide_eq_true (by assumption)
    · refine lensF_ends h1 (by rw [treesF_halve_len]; exact hn) fun i => ?_
      have := hf i
      rw [halveF_getD, Nat.pow_succ] at *
      omega
theorem lensF_len (lim : Nat) : ∀ (k : Nat) (fr : List Nat), (lensF lim k fr).length = fr.length
  | 0, fr => depthsF_len fr
  | k + 1, fr => by
    unfold lensF
    split
    · exact depthsF_len fr
    · rw [lensF_len lim k, halveF_len]
/-- whatever fits, of some frequencies that are above 0 where these are -/
theorem lensF_some (lim : Nat) : ∀ (k : Nat) (fr : List Nat), ∃ fr', lensF lim k fr = depthsF fr' ∧ fr'.length = fr.length ∧ (treesF fr').length = (treesF fr).length ∧ ∀ i, 0 < fr'.getD i 0 ↔ 0 < fr.getD i 0
  | 0, fr => ⟨fr, rfl, rfl, rfl, fun _ => Iff.rfl⟩
  | k + 1, fr => by
    unfold lensF
    split
    · exact ⟨fr, rfl, rfl, rfl, fun _ => Iff.rfl⟩
    · obtain ⟨fr', q1, q2, q3, q4⟩ := lensF_some lim k (halveF fr)
      exact ⟨fr', q1, by rw [q2, halveF_len], by rw [q3, treesF_halve_len], fun i => (q4 i).trans (halveF_pos fr i)⟩
theorem deepT_pos : ∀ (f c : Nat) (l : List (Nat × Nat)), OkT c l → 2 ≤ l.length → l.length ≤ f + 1 → ∀ t ∈ l, 1 ≤ deepT f c l t.2
  | 0, c, l, _, h2, hf, _, _ => by omega
  | f + 1, c, l, h, h2, hf, t, ht => by
    rcases pick_cases h ht with rfl | rfl | ht'
    · rw [deepT_a h2]; omega
    · rw [deepT_b h2]; omega
    · rw [deepT_m h h2 ht']
      have hp := List.length_pos_of_mem ht'
      have hl : (nextT c l).length = (pickM l).length + 1 := by unfold nextT; simp
      have hn := nextT_len h h2
      exact deepT_pos f (c + 1) (nextT c l) (nextT_ok h) (by omega) (by omega) t (mem_next ht')
theorem sumW_list (g : Nat → Nat) : ∀ m, sumW g (fun _ => true) m = ((List.range m).map g).sum
  | 0 => rfl
  | m + 1 => by
    rw [sumW_yes rfl, sumW_list g m, List.range_succ, List.map_append, List.sum_append]
    simp
theorem sum_filter (g : Nat → Nat) (p : Nat → Bool) : ∀ (l : List Nat), (∀ i ∈ l, p i = false → g i = 0) → (l.map g).sum = ((l.filter p).map g).sum
  | [], _ => rfl
  | i :: l, h => by
    have ih := sum_filter g p l fun j hj => h j (by simp [hj])
    have h1 := h i (by simp)
    simp only [List.map_cons, List.sum_cons, ih]
    cases hp : p i with
    | true => rw [List.filter_cons_of_pos hp]; simp
    | false => rw [List.filter_cons_of_neg (by simp [hp]), h1 hp]; simp
theorem depF_zero {fr : List Nat} {i : Nat} : (treesF fr).length = 0 → i < fr.length → fr.getD i 0 = 0 := fun h hi => by
  rcases Nat.eq_zero_or_pos (fr.getD i 0) with h0 | h0
  · exact h0
  · have := List.length_pos_of_mem (treesF_mem hi h0)
    omega
/-- a length is 0 just where nothing comes -/
theorem depF_pos {fr : List Nat} {i : Nat} (hi : i < fr.length) : 0 < depF fr i ↔ 0 < fr.getD i 0 := by
  unfold depF
  split
  · omega
  · rename_i h0
    have hm := treesF_mem hi (by omega : 0 < fr.getD i 0)
    split
    · omega
    · rename_i h1
      have hp := List.length_pos_of_mem hm
      have := deepT_pos fr.length fr.length (treesF fr) (treesF_ok fr) (by omega) (by have := treesF_len fr; omega) _ hm
      exact ⟨fun _ => by omega, fun _ => this⟩
theorem kraft_dep {fr : List Nat} : kraftW (depthsF fr) = ((treesF fr).map fun t => 2 ^ (15 - depF fr t.2)).sum := by
  unfold kraftW
  rw [sumW_list, depthsF_len, sum_filter _ (fun i => decide (0 < fr.getD i 0))]
  · unfold treesF
    rw [List.map_map]
    congr 1
    refine List.map_congr_left fun i hi => ?_
    obtain ⟨h1, h2⟩ := List.mem_filter.1 hi
    have h1 := List.mem_range.1 h1
    have h2 := of_decide_eq_true h2
    rw [wgtL_pos (by rw [depthsF_getD h1]; exact (depF_pos h1).2 h2), depthsF_getD h1]
    rfl
  · intro i hi hp
    have hi := List.mem_range.1 hi
    have h0 : ¬ 0 < fr.getD i 0 := of_decide_eq_false hp
    unfold wgtL wgt
    rw [depthsF_getD hi, if_pos]
    have := depF_pos (fr := fr) hi
    omega
theorem kraft_none {fr : List Nat} (h : (treesF fr).length = 0) : kraftW (depthsF fr) = 0 := by
  rw [kraft_dep, List.eq_nil_of_length_eq_zero h]
  rfl
theorem kraft_one {fr : List Nat} (h : (treesF fr).length = 1) : kraftW (depthsF fr) = 2 ^ 14 := by
  rw [kraft_dep]
  match ht : treesF fr, h with
  | [t], _ =>
    have hm : t ∈ treesF fr := by rw [ht]; simp
    obtain ⟨q1, q2, q3⟩ := treesF_of hm
    have e : depF fr t.2 = 1 := by
      unfold depF
      rw [if_neg (by omega), if_pos (by rw [ht]; rfl)]
    simp [e]
theorem kraft_whole {fr : List Nat} (h : 2 ≤ (treesF fr).length) (h15 : ∀ d ∈ depthsF fr, d ≤ 15) : kraftW (depthsF fr) = 2 ^ 15 := by
  have e : ∀ t ∈ treesF fr, depF fr t.2 = deepT fr.length fr.length (treesF fr) t.2 := fun t ht => by
    obtain ⟨_, q2, q3⟩ := treesF_of ht
    unfold depF
    rw [if_neg (by omega), if_neg (by omega)]
  rw [kraft_dep, List.map_congr_left (f := fun (t : (Nat × Nat)) => 2 ^ (15 - depF fr t.2)) (g := fun (t : (Nat × Nat)) => 2 ^ (15 - deepT fr.length fr.length (treesF fr) t.2)) (fun t ht => by rw [e t ht])]
  refine deep_kraft 15 fr.length fr.length (treesF fr) (treesF_ok fr) (by omega) (by have := treesF_len fr; omega) fun t ht => ?_
  rw [← e t ht]
  exact h15 _ (List.mem_map.2 ⟨t.2, List.mem_range.2 (treesF_of ht).1, rfl⟩)
/-- where there are few in all no length is above 13 -/
theorem fits_few {fr : List Nat} {lim : Nat} (hl : 13 ≤ lim) (hs : ((treesF fr).map (·.1)).sum < 987) : fitsF fr lim = true := by
  refine decide_eq_true fun d hd => ?_
  obtain ⟨i, hi, rfl⟩ := List.mem_map.1 hd
  have hi' := List.mem_range.1 hi
  unfold depF
  split
  · omega
  · split
    · omega
    · have hm := treesF_mem hi' (by omega : 0 < fr.getD i 0)
      have := deep_few (f := fr.length) (treesF_ok fr) (by have := treesF_len fr; omega) (fun t ht => (treesF_of ht).2.2) hs hm
      exact Nat.le_trans this hl
theorem treesF_sum {fr : List Nat} {b : Nat} (h : ∀ i, fr.getD i 0 ≤ b) : ((treesF fr).map (·.1)).sum ≤ fr.length * b := by
  have : ∀ {m : List (Nat × Nat)}, (∀ t ∈ m, t.1 ≤ b) → (m.map (·.1)).sum ≤ m.length * b := by
    intro m hm
    induction m with
    | nil => simp
    | cons v m ih =>
      have := hm v (by simp)
      have := ih (fun t ht => hm t (by simp [ht]))
      simp only [List.map_cons, List.sum_cons, List.length_cons, Nat.add_mul]
      omega
  refine Nat.le_trans (this fun t ht => ?_) (Nat.mul_le_mul_right _ (treesF_len fr))
  rw [(treesF_of ht).2.1]
  exact h _
/-- what comes more often has no longer word -/
theorem dep_order {fr : List Nat} {i k : Nat} (hi : i < fr.length) (hk : k < fr.length) (h0 : 0 < fr.getD k 0) (h : fr.getD k 0 < fr.getD i 0) : depF fr i ≤ depF fr k := by
  have mi := treesF_mem hi (by omega : 0 < fr.getD i 0)
  have mk := treesF_mem hk h0
  have e : ∀ j, 0 < fr.getD j 0 → depF fr j = if (treesF fr).length = 1 then 1 else deepT fr.length fr.length (treesF fr) j := fun j hj => by
    unfold depF
    exact if_neg (by omega)
  rw [e i (by omega), e k h0]
  by_cases h1 : (treesF fr).length = 1
  · rw [if_pos h1, if_pos h1]; exact Nat.le_refl _
  · rw [if_neg h1, if_neg h1]
    exact (deep_order fr.length fr.length (treesF fr) (treesF_ok fr) (by have := treesF_len fr; omega)).1 _ mk _ mi (.inl h)
theorem lensF_first {lim k : Nat} {fr : List Nat} (h : fitsF fr lim = true) : lensF lim k fr = depthsF fr := by
  cases k with
  | zero => rfl
  | succ k => exact if_pos h
end Go.Proofs.Ytpjihjbgihionaa
namespace Go.Proofs.Ytpjihjbgihionaa
set_option linter.unusedVariables false

/-- how many bytes from two places on are the same, d at most -/
def runW (s : List Nat) : Nat → Nat → Nat → Nat
  | 0, _, _ => 0
  | d + 1, a, b => if b < s.length ∧ s.getD a 0 = s.getD b 0 then runW s d (a + 1) (b + 1) + 1 else 0
theorem runW_le (s : List Nat) : ∀ (d a b : Nat), runW s d a b ≤ d
  | 0, _, _ => Nat.le_refl _
  | d + 1, a, b => by
    unfold runW
    have := runW_le s d (a + 1) (b + 1)
    split <;> omega
theorem runW_in (s : List Nat) : ∀ (d a b : Nat), b ≤ s.length → b + runW s d a b ≤ s.length
  | 0, _, b, h => h
  | d + 1, a, b, h => by
    unfold runW
    split
    · rename_i h1
      have := runW_in s d (a + 1) (b + 1) h1.1
      omega
    · omega
theorem runW_same (s : List Nat) : ∀ (d a b i : Nat), i < runW s d a b → s.getD (a + i) 0 = s.getD (b + i) 0
  | 0, _, _, i, h => by unfold runW at h; omega
  | d + 1, a, b, i, h => by
    unfold runW at h
    split at h
    · rename_i h1
      match i with
      | 0 => exact h1.2
      | i + 1 =>
        have := runW_same s d (a + 1) (b + 1) i (by omega)
        rw [show a + (i + 1) = a + 1 + i by omega, show b + (i + 1) = b + 1 + i by omega]
        exact this
    · omega
/-- it goes as far as it can -/
theorem runW_most (s : List Nat) : ∀ (d a b : Nat), runW s d a b = d ∨ s.length ≤ b + runW s d a b ∨ s.getD (a + runW s d a b) 0 ≠ s.getD (b + runW s d a b) 0
  | 0, _, _ => .inl rfl
  | d + 1, a, b => by
    unfold runW
    by_cases h1 : b < s.length ∧ s.getD a 0 = s.getD b 0
    · rw [if_pos h1]
      have h := runW_most s d (a + 1) (b + 1)
      generalize runW s d (a + 1) (b + 1) = r at *
      rw [show a + (r + 1) = a + 1 + r by omega, show b + (r + 1) = b + 1 + r by omega]
      rcases h with h | h | h
      · exact .inl (by omega)
      · exact .inr (.inl h)
      · exact .inr (.inr h)
    · rw [if_neg h1]
      right
      rcases Nat.lt_or_ge b s.length with hb | hb
      · exact .inr fun e => h1 ⟨hb, e⟩
      · exact .inl hb
theorem runW_ge (s : List Nat) : ∀ (d a b m : Nat), m ≤ d → b + m ≤ s.length → (∀ i, i < m → s.getD (a + i) 0 = s.getD (b + i) 0) → m ≤ runW s d a b
  | 0, _, _, m, h, _, _ => by omega
  | d + 1, a, b, m, h, hl, hs => by
    match m with
    | 0 => omega
    | m + 1 =>
      unfold runW
      rw [if_pos ⟨by omega, hs 0 (by omega)⟩]
      have := runW_ge s d (a + 1) (b + 1) m (by omega) (by omega) (fun i hi => by
        have := hs (i + 1) (by omega)
        rw [show a + (i + 1) = a + 1 + i by omega, show b + (i + 1) = b + 1 + i by omega] at this
        exact this)
      omega
/-- the longest of the k nearest, the nearest of the longest -/
def bestW (s : List Nat) (p : Nat) : Nat → Nat × Nat
  | 0 => (0, 0)
  | k + 1 => if (bestW s p k).1 < runW s 34 (p - (k + 1)) p then (runW s 34 (p - (k + 1)) p, k + 1) else bestW s p k
theorem bestW_is (s : List Nat) (p : Nat) : ∀ k, ((bestW s p k).1 = 0 ∧ (bestW s p k).2 = 0) ∨ (1 ≤ (bestW s p k).2 ∧ (bestW s p k).2 ≤ k ∧ (bestW s p k).1 = runW s 34 (p - (bestW s p k).2) p)
  | 0 => .inl ⟨rfl, rfl⟩
  | k + 1 => by
    unfold bestW
    split
    · exact .inr ⟨by simp, by simp, rfl⟩
    · rcases bestW_is s p k with h | h
      · exact .inl h
      · exact .inr ⟨h.1, by omega, h.2.2⟩
theorem bestW_ge (s : List Nat) (p : Nat) : ∀ k j, 1 ≤ j → j ≤ k → runW s 34 (p - j) p ≤ (bestW s p k).1
  | 0, j, h1, h2 => by omega
  | k + 1, j, h1, h2 => by
    unfold bestW
    by_cases e : j = k + 1
    · subst e
      split
      · exact Nat.le_refl _
      · omega
    · have ih := bestW_ge s p k j h1 (by omega)
      split
      · simp; omega
      · exact ih
/-- what matches at p: how long, how far back -/
def matchW (s : List Nat) (p : Nat) : Nat × Nat := if s.length ≤ p then (0, 0) else if (bestW s p (min 512 p)).1 < 3 then (0, 0) else bestW s p (min 512 p)
theorem matchW_none {s : List Nat} {p : Nat} (h : (matchW s p).1 = 0) : (matchW s p).2 = 0 := by
  unfold matchW at h ⊢
  split
  · rfl
  · rename_i h1
    rw [if_neg h1] at h
    split
    · rfl
    · rename_i h2
      rw [if_neg h2] at h
      omega
/-- a match stands ahead, no farther back than the window, is no longer than may be, and is the same bytes; it can't be longer -/
theorem matchW_is {s : List Nat} {p : Nat} (h : (matchW s p).1 ≠ 0) : 3 ≤ (matchW s p).1 ∧ (matchW s p).1 ≤ 34 ∧ 1 ≤ (matchW s p).2 ∧ (matchW s p).2 ≤ 512 ∧ (matchW s p).2 ≤ p ∧ p + (matchW s p).1 ≤ s.length ∧
    (∀ i, i < (matchW s p).1 → s.getD (p + i - (matchW s p).2) 0 = s.getD (p + i) 0) ∧
    ((matchW s p).1 = 34 ∨ p + (matchW s p).1 = s.length ∨ s.getD (p + (matchW s p).1) 0 ≠ s.getD (p + (matchW s p).1 - (matchW s p).2) 0) := by
  unfold matchW at h ⊢
  by_cases h1 : s.length ≤ p
  · rw [if_pos h1] at h; exact absurd rfl h
  · rw [if_neg h1] at h ⊢
    by_cases h2 : (bestW s p (min 512 p)).1 < 3
    · rw [if_pos h2] at h; exact absurd rfl h
    · rw [if_neg h2] at h ⊢
      have hb := bestW_is s p (min 512 p)
      generalize bestW s p (min 512 p) = q at *
      rcases hb with hb | ⟨b1, b2, b3⟩
      · omega
      · have r1 := runW_le s 34 (p - q.2) p
        have r2 := runW_in s 34 (p - q.2) p (by omega)
        have r3 := runW_same s 34 (p - q.2) p
        have r4 := runW_most s 34 (p - q.2) p
        rw [← b3] at r1 r2 r3 r4
        refine ⟨by omega, r1, b1, by omega, by omega, r2, fun i hi => ?_, ?_⟩
        · rw [show p + i - q.2 = p - q.2 + i by omega]; exact r3 i hi
        · rw [show p + q.1 - q.2 = p - q.2 + q.1 by omega]
          rcases r4 with r | r | r
          · exact .inl r
          · exact .inr (.inl (by omega))
          · exact .inr (.inr fun e => r e.symm)
theorem matchW_ge {s : List Nat} {p j m : Nat} (hp : p < s.length) (h1 : 1 ≤ j) (h2 : j ≤ 512) (h3 : j ≤ p) (hm : 3 ≤ m) (hm2 : m ≤ 34) (hl : p + m ≤ s.length) (hs : ∀ i, i < m → s.getD (p - j + i) 0 = s.getD (p + i) 0) : m ≤ (matchW s p).1 := by
  have hr := runW_ge s 34 (p - j) p m hm2 hl hs
  have hb := bestW_ge s p (min 512 p) j h1 (by omega)
  unfold matchW
  rw [if_neg (by omega), if_neg (by omega)]
  omega
/-! ### tokens: (a byte, how long, how far back) -/
def splitW (s : List Nat) : Nat → Nat → List (Nat × Int × Int)
  | 0, _ => []
  | f + 1, p => if s.length ≤ p then [] else if (matchW s p).1 = 0 then (s.getD p 0, 0, 0) :: splitW s f (p + 1) else (0, ((matchW s p).1 : Int), ((matchW s p).2 : Int)) :: splitW s f (p + (matchW s p).1)
/-- n bytes more, each one that stands k back -/
def copyW (k : Nat) : Nat → List Nat → List Nat
  | 0, b => b
  | n + 1, b => copyW k n (b ++ [b.getD (b.length - k) 0])
theorem copyW_len (k : Nat) : ∀ (n : Nat) (b : List Nat), (copyW k n b).length = b.length + n
  | 0, _ => rfl
  | n + 1, b => by
    show (copyW k n _).length = _
    rw [copyW_len k n, List.length_append]
    simp
    omega
theorem copyW_take {s : List Nat} {k : Nat} : ∀ {n p : Nat}, 1 ≤ k → k ≤ p → p + n ≤ s.length → (∀ i, i < n → s.getD (p + i - k) 0 = s.getD (p + i) 0) → copyW k n (s.take p) = s.take (p + n)
  | 0, p, _, _, _, _ => rfl
  | n + 1, p, h1, h2, h3, h4 => by
    show copyW k n (s.take p ++ [(s.take p).getD ((s.take p).length - k) 0]) = _
    have hl : (s.take p).length = p := by rw [List.length_take]; omega
    have e : s.take p ++ [(s.take p).getD ((s.take p).length - k) 0] = s.take (p + 1) := by
      rw [hl, getD_take _ _ _ (by omega), take_snoc s p (by omega)]
      have := h4 0 (by omega)
      rw [Nat.add_zero] at this
      rw [this]
    rw [e, copyW_take (p := p + 1) h1 (by omega) (by omega) (fun i hi => by
      have := h4 (i + 1) (by omega)
      rw [show p + (i + 1) = p + 1 + i by omega] at this
      exact this)]
    congr 1
    omega
/-- what tokens are joined to behind b, and the error -/
def joinW (most : Int) : List (Nat × Int × Int) → List Nat → List Nat × Nat
  | [], b => (b, 0)
  | (c, n, k) :: l, b =>
    if n = 0 then (if k ≠ 0 then ([], 1) else if most < ((b.length + 1 : Nat) : Int) then ([], 90) else joinW most l (b ++ [c]))
    else if n < 3 ∨ 34 < n ∨ k < 1 ∨ 512 < k ∨ c ≠ 0 then ([], 1)
    else if (b.length : Int) < k then ([], 80)
    else if most < ((b.length + n.toNat : Nat) : Int) then ([], 90)
    else joinW most l (copyW k.toNat n.toNat b)
/-- what was split is joined -/
theorem join_split {s : List Nat} {most : Int} (hm : (s.length : Int) ≤ most) : ∀ (f p : Nat), p ≤ s.length → s.length ≤ p + f → joinW most (splitW s f p) (s.take p) = (s, 0)
  | 0, p, h1, h2 => by
    show (s.take p, 0) = _
    rw [List.take_of_length_le (by omega)]
  | f + 1, p, h1, h2 => by
    unfold splitW
    by_cases e : s.length ≤ p
    · rw [if_pos e]
      show (s.take p, 0) = _
      rw [List.take_of_length_le e]
    · have hl : (s.take p).length = p := by rw [List.length_take]; omega
      rw [if_neg e]
      by_cases e2 : (matchW s p).1 = 0
      · rw [if_pos e2]
        unfold joinW
        rw [if_pos rfl, if_neg (by omega), if_neg (by rw [hl]; omega), ← take_snoc s p (by omega)]
        exact join_split hm f (p + 1) (by omega) (by omega)
      · obtain ⟨q1, q2, q3, q4, q5, q6, q7, _⟩ := matchW_is e2
        rw [if_neg e2]
        unfold joinW
        rw [if_neg (by omega), if_neg (by omega), if_neg (by rw [hl]; omega), if_neg (by rw [hl]; omega)]
        rw [show ((matchW s p).1 : Int).toNat = (matchW s p).1 by omega, show ((matchW s p).2 : Int).toNat = (matchW s p).2 by omega, copyW_take q3 q5 q6 q7]
        exact join_split hm f (p + (matchW s p).1) q6 (by omega)
/-- there are no more tokens than bytes, and no more fuel is needed -/
theorem splitW_len (s : List Nat) : ∀ (f p : Nat), (splitW s f p).length ≤ s.length - p
  | 0, _ => Nat.zero_le _
  | f + 1, p => by
    unfold splitW
    split
    · exact Nat.zero_le _
    · split
      · have := splitW_len s f (p + 1)
        rw [List.length_cons]
        omega
      · rename_i e2
        obtain ⟨q1, _, _, _, _, q6, _⟩ := matchW_is e2
        have := splitW_len s f (p + (matchW s p).1)
        rw [List.length_cons]
        omega
theorem splitW_fuel (s : List Nat) : ∀ (f g p : Nat), s.length ≤ p + f → s.length ≤ p + g → splitW s f p = splitW s g p
  | 0, 0, _, _, _ => rfl
  | 0, g + 1, p, h1, _ => by unfold splitW; rw [if_pos (by omega)]
  | f + 1, 0, p, _, h2 => by unfold splitW; rw [if_pos (by omega)]
  | f + 1, g + 1, p, h1, h2 => by
    unfold splitW
    split
    · rfl
    · split
      · rw [splitW_fuel s f g (p + 1) (by omega) (by omega)]
      · rename_i e2
        obtain ⟨q1, _⟩ := matchW_is e2
        rw [splitW_fuel s f g (p + (matchW s p).1) (by omega) (by omega)]
/-- each token of a text: a byte, or a match with its window ahead -/
theorem splitW_tok {s : List Nat} (hs : Bys s) : ∀ (f p : Nat) (t : (Nat × Int × Int)), t ∈ splitW s f p → (t.2.1 = 0 ∧ t.2.2 = 0 ∧ t.1 < 256) ∨ (t.1 = 0 ∧ 3 ≤ t.2.1 ∧ t.2.1 ≤ 34 ∧ 1 ≤ t.2.2 ∧ t.2.2 ≤ 512)
  | 0, _, _, h => by simp [splitW] at h
  | f + 1, p, t, h => by
    unfold splitW at h
    split at h
    · simp at h
    · split at h
      · rcases List.mem_cons.1 h with rfl | h
        · exact .inl ⟨rfl, rfl, hs p⟩
        · exact splitW_tok hs f _ t h
      · rename_i e2
        obtain ⟨q1, q2, q3, q4, _⟩ := matchW_is e2
        rcases List.mem_cons.1 h with rfl | h
        · refine .inr ⟨rfl, ?_, ?_, ?_, ?_⟩
          · show (3 : Int) ≤ ((matchW s p).1 : Int); omega
          · show ((matchW s p).1 : Int) ≤ 34; omega
          · show (1 : Int) ≤ ((matchW s p).2 : Int); omega
          · show ((matchW s p).2 : Int) ≤ 512; omega
        · exact splitW_tok hs f _ t h
end Go.Proofs.Ytpjihjbgihionaa
namespace Go.Proofs.Ytpjihjbgihionaa
open Go.RowKit
set_option linter.unusedVariables false

/-- three bytes from a place on -/
def keyW (L : List Nat) (i : Nat) : List Nat := (L.drop i).take 3
theorem keyW_len {L : List Nat} {i : Nat} (h : i + 3 ≤ L.length) : (keyW L i).length = 3 := by simp [keyW]; omega
theorem keyW_getD {L : List Nat} {i j : Nat} (h : j < 3) : (keyW L i).getD j 0 = L.getD (i + j) 0 := by
  unfold keyW
  rw [getD_take _ _ _ h, getD_drop]
theorem keyW_iff {L : List Nat} {i j : Nat} (hi : i + 3 ≤ L.length) (hj : j + 3 ≤ L.length) : keyW L i = keyW L j ↔ ∀ k, k < 3 → L.getD (i + k) 0 = L.getD (j + k) 0 := by
  constructor
  · intro h k hk
    rw [← keyW_getD hk, ← keyW_getD hk, h]
  · intro h
    refine getD_ext 3 (keyW_len hi) (keyW_len hj) fun k hk => ?_
    rw [keyW_getD hk, keyW_getD hk]
    exact h k hk
/-- the last place ahead of n with the bytes at i, or -1 -/
def lastW (L : List Nat) (i : Nat) : Nat → Int
  | 0 => -1
  | n + 1 => if keyW L n = keyW L i then (n : Int) else lastW L i n
theorem lastW_is (L : List Nat) (i : Nat) : ∀ n, (lastW L i n = -1 ∧ ∀ j, j < n → keyW L j ≠ keyW L i) ∨ (∃ m : Nat, m < n ∧ lastW L i n = (m : Int) ∧ keyW L m = keyW L i ∧ ∀ j, m < j → j < n → keyW L j ≠ keyW L i)
  | 0 => .inl ⟨rfl, fun j h => by omega⟩
  | n + 1 => by
    unfold lastW
    by_cases h : keyW L n = keyW L i
    · rw [if_pos h]
      exact .inr ⟨n, by omega, rfl, h, fun j h1 h2 => by omega⟩
    · rw [if_neg h]
      rcases lastW_is L i n with ⟨h1, h2⟩ | ⟨m, h1, h2, h3, h4⟩
      · refine .inl ⟨h1, fun j hj => ?_⟩
        rcases Nat.lt_or_ge j n with hh | hh
        · exact h2 j hh
        · obtain rfl : j = n := by omega
          exact h
      · refine .inr ⟨m, by omega, h2, h3, fun j hj hj2 => ?_⟩
        rcases Nat.lt_or_ge j n with hh | hh
        · exact h4 j hj hh
        · obtain rfl : j = n := by omega
          exact h
theorem lastW_lt (L : List Nat) (i n : Nat) : -1 ≤ lastW L i n ∧ lastW L i n < (n : Int) := by
  rcases lastW_is L i n with ⟨h, _⟩ | ⟨m, h1, h2, _⟩ <;> omega
theorem lastW_congr {L : List Nat} {i j : Nat} (h : keyW L i = keyW L j) : ∀ n, lastW L i n = lastW L j n
  | 0 => rfl
  | n + 1 => by unfold lastW; rw [h, lastW_congr h n]
theorem run_three {L : List Nat} {j p : Nat} (hp : p + 3 ≤ L.length) (hj : j ≤ p) : 3 ≤ runW L 34 j p ↔ keyW L j = keyW L p := by
  rw [keyW_iff (by omega) hp]
  constructor
  · intro h k hk
    exact runW_same L 34 j p k (by omega)
  · intro h
    exact runW_ge L 34 j p 3 (by omega) hp h
theorem run_stop {L : List Nat} {a b n : Nat} (h1 : n ≤ 34) (h2 : b + n ≤ L.length) (h3 : ∀ i, i < n → L.getD (a + i) 0 = L.getD (b + i) 0) (h4 : n = 34 ∨ L.length ≤ b + n ∨ L.getD (a + n) 0 ≠ L.getD (b + n) 0) : runW L 34 a b = n := by
  have q1 := runW_ge L 34 a b n h1 h2 h3
  have q2 := runW_le L 34 a b
  have q3 := runW_in L 34 a b (by omega)
  have q4 := runW_same L 34 a b
  rcases Nat.lt_or_ge n (runW L 34 a b) with h | h
  · exfalso
    rcases h4 with h4 | h4 | h4
    · omega
    · omega
    · exact h4 (q4 n h)
  · omega
/-- the best of the k nearest, of those alone that have three bytes -/
def best3 (s : List Nat) (p : Nat) : Nat → Nat × Nat
  | 0 => (0, 0)
  | k + 1 => if 3 ≤ runW s 34 (p - (k + 1)) p ∧ (best3 s p k).1 < runW s 34 (p - (k + 1)) p then (runW s 34 (p - (k + 1)) p, k + 1) else best3 s p k
theorem best3_best (s : List Nat) (p : Nat) : ∀ k, ((bestW s p k).1 < 3 ∧ best3 s p k = (0, 0)) ∨ (3 ≤ (bestW s p k).1 ∧ best3 s p k = bestW s p k)
  | 0 => .inl ⟨by unfold bestW; decide, rfl⟩
  | k + 1 => by
    unfold bestW best3
    generalize runW s 34 (p - (k + 1)) p = r
    rcases best3_best s p k with ⟨h1, h2⟩ | ⟨h1, h2⟩
    · rw [h2]
      by_cases h3 : 3 ≤ r
      · rw [if_pos (show (bestW s p k).1 < r by omega), if_pos ⟨h3, show 0 < r by omega⟩]
        exact .inr ⟨h3, rfl⟩
      · rw [if_neg (show ¬ (3 ≤ r ∧ ((0, 0) : Nat × Nat).1 < r) from fun h => h3 h.1)]
        by_cases h4 : (bestW s p k).1 < r
        · rw [if_pos h4]
          exact .inl ⟨by show r < 3; omega, rfl⟩
        · rw [if_neg h4]
          exact .inl ⟨h1, rfl⟩
    · rw [h2]
      by_cases h3 : (bestW s p k).1 < r
      · rw [if_pos h3, if_pos ⟨by omega, h3⟩]
        exact .inr ⟨by show 3 ≤ r; omega, rfl⟩
      · rw [if_neg h3, if_neg (show ¬ (3 ≤ r ∧ (bestW s p k).1 < r) from fun h => h3 h.2)]
        exact .inr ⟨h1, rfl⟩
theorem match_best3 {s : List Nat} {p : Nat} (hp : p < s.length) : matchW s p = best3 s p (min 512 p) := by
  unfold matchW
  rw [if_neg (by omega)]
  rcases best3_best s p (min 512 p) with ⟨h1, h2⟩ | ⟨h1, h2⟩
  · rw [if_pos h1, h2]
  · rw [if_neg (by omega), h2]
/-- a place too near the end matches nothing -/
theorem match_end {s : List Nat} {p : Nat} (hp : s.length < p + 3) : matchW s p = (0, 0) := by
  unfold matchW
  split
  · rfl
  · rename_i h
    have hb := bestW_is s p (min 512 p)
    rw [if_pos]
    rcases hb with hb | ⟨_, _, hb⟩
    · omega
    · have := runW_in s 34 (p - (bestW s p (min 512 p)).2) p (by omega)
      omega
/-- places without the three bytes are skipped -/
theorem best3_skip {s : List Nat} {p a : Nat} (hp : p + 3 ≤ s.length) : ∀ b, a ≤ b → b ≤ p → (∀ k, a < k → k ≤ b → keyW s (p - k) ≠ keyW s p) → best3 s p b = best3 s p a
  | 0, h, _, _ => by obtain rfl : a = 0 := by omega
                     rfl
  | b + 1, h, hb, hk => by
    rcases Nat.lt_or_ge b a with h1 | h1
    · obtain rfl : a = b + 1 := by omega
      rfl
    · rw [best3, if_neg]
      · exact best3_skip hp b h1 (by omega) (fun k q1 q2 => hk k q1 (by omega))
      · rintro ⟨h3, _⟩
        exact hk (b + 1) (by omega) (Nat.le_refl _) ((run_three hp (by omega)).1 h3)
/-- how far the search is: f, the next place; m, the best so far -/
def SeekW (s : List Nat) (p : Nat) (f : Int) (m : Nat × Nat) : Prop := ∃ q : Nat, (q : Int) = (p : Int) - 1 - f ∧ q ≤ p ∧ m = best3 s p (min 512 q) ∧ (f = -1 ∨ ∃ n : Nat, f = (n : Int) ∧ n < p ∧ keyW s n = keyW s p)
theorem SeekW.from {s : List Nat} {p a : Nat} (hp : p + 3 ≤ s.length) (ha : a ≤ p) {m : Nat × Nat} (hm : m = best3 s p (p - a)) (h512 : p - a ≤ 512) : SeekW s p (lastW s p a) m := by
  have hb := lastW_lt s p a
  refine ⟨((p : Int) - 1 - lastW s p a).toNat, by omega, by omega, ?_, ?_⟩
  · rw [hm]
    symm
    refine best3_skip hp _ (by omega) (by omega) fun k h1 h2 => ?_
    rcases lastW_is s p a with ⟨h, hn⟩ | ⟨m', h3, h4, h5, h6⟩
    · exact hn (p - k) (by omega)
    · exact h6 (p - k) (by omega) (by omega)
  · rcases lastW_is s p a with ⟨h, hn⟩ | ⟨m', h3, h4, h5, h6⟩
    · exact .inl h
    · exact .inr ⟨m', h4, by omega, h5⟩
theorem SeekW.first {s : List Nat} {p : Nat} (hp : p + 3 ≤ s.length) : SeekW s p (lastW s p p) (0, 0) :=
  SeekW.from hp (Nat.le_refl _) (by rw [Nat.sub_self]; rfl) (by omega)
theorem SeekW.next {s : List Nat} {p n : Nat} {m : Nat × Nat} (hp : p + 3 ≤ s.length) (h : SeekW s p (n : Int) m) (hn : n < p) (h512 : p - n ≤ 512) :
    SeekW s p (lastW s n n) (if m.1 < runW s 34 n p then (runW s 34 n p, p - n) else m) := by
  obtain ⟨q, h1, h2, h3, h4⟩ := h
  have hk : keyW s n = keyW s p := by
    rcases h4 with h4 | ⟨n', h4, _, h5⟩
    · omega
    · obtain rfl : n = n' := by omega
      exact h5
  clear h4
  rw [lastW_congr hk]
  refine SeekW.from hp (by omega) ?_ h512
  obtain ⟨k, hkk⟩ : ∃ k, p - n = k + 1 := ⟨p - n - 1, by omega⟩
  have hq : min 512 q = k := by omega
  rw [hkk, best3, ← hkk, show p - (p - n) = n by omega, h3, hq]
  have h3' := (run_three hp (show n ≤ p by omega)).2 hk
  by_cases h : (best3 s p k).1 < runW s 34 n p
  · rw [if_pos h, if_pos ⟨h3', h⟩]
  · rw [if_neg h, if_neg (fun hh => h hh.2)]
theorem SeekW.key {s : List Nat} {p n : Nat} {m : Nat × Nat} (h : SeekW s p (n : Int) m) : n < p ∧ keyW s n = keyW s p := by
  obtain ⟨q, h1, h2, h3, h4⟩ := h
  rcases h4 with h4 | ⟨n', h4, h5, h6⟩
  · omega
  · obtain rfl : n = n' := by omega
    exact ⟨h5, h6⟩
theorem SeekW.done {s : List Nat} {p : Nat} {f : Int} {m : Nat × Nat} (hp : p < s.length) (h : SeekW s p f m) (hf : f = -1 ∨ 512 < (p : Int) - f) : m = matchW s p := by
  obtain ⟨q, h1, h2, h3, h4⟩ := h
  clear h4
  rw [match_best3 hp, h3, show min 512 q = min 512 p by omega]
theorem SeekW.cases {s : List Nat} {p : Nat} {f : Int} {m : Nat × Nat} (h : SeekW s p f m) : f = -1 ∨ ∃ n : Nat, f = (n : Int) ∧ n < p := by
  obtain ⟨q, h1, h2, h3, h4⟩ := h
  rcases h4 with h4 | ⟨n, h4, h5, _⟩
  · exact .inl h4
  · exact .inr ⟨n, h4, h5⟩
/-! ### a text's end alone -/
theorem runW_drop (s : List Nat) (d : Nat) : ∀ n a b, runW (s.drop d) n a b = runW s n (a + d) (b + d)
  | 0, _, _ => rfl
  | n + 1, a, b => by
    unfold runW
    rw [getD_drop, getD_drop, runW_drop s d n, List.length_drop, show d + a = a + d by omega, show d + b = b + d by omega, show a + 1 + d = a + d + 1 by omega, show b + 1 + d = b + d + 1 by omega]
    by_cases h : b + d < s.length
    · by_cases h2 : s.getD (a + d) 0 = s.getD (b + d) 0
      · rw [if_pos ⟨by omega, h2⟩, if_pos ⟨h, h2⟩]
      · rw [if_neg (fun x => h2 x.2), if_neg (fun x => h2 x.2)]
    · rw [if_neg (fun x => h (by omega)), if_neg (fun x => h x.1)]
theorem bestW_drop (s : List Nat) (d p : Nat) : ∀ k, k ≤ p → bestW (s.drop d) p k = bestW s (p + d) k
  | 0, _ => rfl
  | k + 1, h => by
    unfold bestW
    rw [bestW_drop s d p k (by omega), runW_drop, show p - (k + 1) + d = p + d - (k + 1) by omega]
theorem matchW_drop (s : List Nat) {d p : Nat} (h : d = 0 ∨ p = 512) : matchW (s.drop d) p = matchW s (p + d) := by
  have e : min 512 p = min 512 (p + d) := by omega
  unfold matchW
  rw [bestW_drop s d p _ (by omega), List.length_drop, e]
  by_cases h1 : s.length ≤ p + d
  · rw [if_pos (by omega), if_pos h1]
  · rw [if_neg (by omega), if_neg h1]
/-! ### the map -/
/-- a text of these bytes as a map's key -/
def kLit (l : List Nat) : Lit := .string (l.map UInt8.ofNat)
theorem kLit_key (l : List Nat) : WideAt.IsKeyLit (kLit l) := trivial
theorem kLit_inj {a b : List Nat} (ha : Bys a) (hb : Bys b) (h : kLit a = kLit b) : a = b := by
  unfold kLit at h
  injection h with h
  have h' := congrArg (List.map UInt8.toNat) h
  rw [List.map_map, List.map_map] at h'
  have e : ∀ l : List Nat, Bys l → l.map (UInt8.toNat ∘ UInt8.ofNat) = l := fun l hl => by
    conv => rhs; rw [← List.map_id l]
    refine List.map_congr_left fun x hx => ?_
    have := hl.mem hx
    simp [Nat.mod_eq_of_lt this]
  rwa [e a ha, e b hb] at h'
theorem kLit_tx {l : List Nat} (h : Bys l) : Lit.string (tx l).data.toList = kLit l := by
  unfold kLit
  congr 1
  have h1 := sl_tx h
  unfold sl at h1
  have h2 := congrArg (List.map UInt8.ofNat) h1
  rw [List.map_map] at h2
  rw [← h2]
  symm
  conv => rhs; rw [← List.map_id (tx l).data.toList]
  exact List.map_congr_left fun x hx => by simp
theorem keyW_bys {L : List Nat} (h : Bys L) (i : Nat) : Bys (keyW L i) := (h.drop i).take 3
/-- the map behind n places -/
def mapW (L : List Nat) : Nat → DataW Unit
  | 0 => .map []
  | n + 1 => (mapW L n).put (kLit (keyW L n)) (.lit (.int .i64 (n : Int)))
theorem mapW_isMap (L : List Nat) : ∀ n, Maps.IsMap (mapW L n)
  | 0 => Maps.isMap_empty
  | n + 1 => (mapW_isMap L n).put _ _
theorem mapW_has {L : List Nat} (hL : Bys L) (i : Nat) : ∀ n, (lastW L i n = -1 ∧ Maps.has (mapW L n) (kLit (keyW L i)) = false) ∨ (0 ≤ lastW L i n ∧ Maps.has (mapW L n) (kLit (keyW L i)) = true ∧ ∀ z, (mapW L n).atKey (kLit (keyW L i)) z = .lit (.int .i64 (lastW L i n)))
  | 0 => .inl ⟨rfl, rfl⟩
  | n + 1 => by
    unfold mapW lastW
    by_cases h : keyW L n = keyW L i
    · rw [if_pos h, h]
      exact .inr ⟨by omega, Maps.has_put_same (mapW_isMap L n) (kLit_key _) _, fun z => Maps.atKey_put_same (mapW_isMap L n) (kLit_key _) _ z⟩
    · have hne : kLit (keyW L i) ≠ kLit (keyW L n) := fun e => h (kLit_inj (keyW_bys hL n) (keyW_bys hL i) e.symm)
      rw [if_neg h, Maps.has_put_other hne]
      rcases mapW_has hL i n with ⟨h1, h2⟩ | ⟨h1, h2, h3⟩
      · exact .inl ⟨h1, h2⟩
      · exact .inr ⟨h1, h2, fun z => by rw [Maps.atKey_put_other hne]; exact h3 z⟩
/-- of each place the one ahead -/
def aheadW (L : List Nat) (n : Nat) : List Int := (List.range n).map fun i => lastW L i i
theorem aheadW_len (L : List Nat) (n : Nat) : (aheadW L n).length = n := by simp [aheadW]
theorem aheadW_get (L : List Nat) {n i : Nat} (h : i < n) : (aheadW L n).getD i 0 = lastW L i i := by simp [aheadW, h]
theorem aheadW_snoc (L : List Nat) (n : Nat) : aheadW L (n + 1) = aheadW L n ++ [lastW L n n] := by simp [aheadW, List.range_succ]
end Go.Proofs.Ytpjihjbgihionaa
