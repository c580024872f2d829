/- Rows sorted in place: swaps of ranges, rotations, merges of two sorted rows, by plain lists. -/
import Derived.Test.YtpjdlkbpnodcdaaG1
namespace Go.Proofs.Ytpjdlkbpnodcdaa
set_option linter.unusedVariables false

def swp (d : List Nat) (i j : Nat) : List Nat := (d.set i (d.getD j 0)).set j (d.getD i 0)
theorem swp_len (d : List Nat) (i j : Nat) : (swp d i j).length = d.length := by simp [swp]
theorem swp_getD (d : List Nat) (i j k : Nat) (hi : i < d.length) (hj : j < d.length) : (swp d i j).getD k 0 = if j = k then d.getD i 0 else if i = k then d.getD j 0 else d.getD k 0 := by
  unfold swp
  rw [getD_set _ _ _ _ (by rw [List.length_set]; exact hj), getD_set _ _ _ _ hi]
/-- n cells from a on against those from b on -/
def swpR (d : List Nat) (a b n : Nat) : List Nat := (List.range d.length).map fun j => if a ≤ j ∧ j < a + n then d.getD (j - a + b) 0 else if b ≤ j ∧ j < b + n then d.getD (j - b + a) 0 else d.getD j 0
theorem swpR_len (d : List Nat) (a b n : Nat) : (swpR d a b n).length = d.length := by simp [swpR]
theorem swpR_getD (d : List Nat) (a b n k : Nat) (h : k < d.length) : (swpR d a b n).getD k 0 = if a ≤ k ∧ k < a + n then d.getD (k - a + b) 0 else if b ≤ k ∧ k < b + n then d.getD (k - b + a) 0 else d.getD k 0 := map_range_getD _ _ _ h
theorem swpR_zero (d : List Nat) (a b : Nat) : swpR d a b 0 = d := by
  refine getD_ext d.length (swpR_len _ _ _ _) rfl fun k hk => ?_
  rw [swpR_getD _ _ _ _ _ hk, if_neg (by omega), if_neg (by omega)]
theorem swpR_step (d : List Nat) (a b n i : Nat) (hab : a + n ≤ b) (hb : b + n ≤ d.length) (hi : i < n) : swp (swpR d a b i) (a + i) (b + i) = swpR d a b (i + 1) := by
  refine getD_ext d.length (by rw [swp_len, swpR_len]) (swpR_len _ _ _ _) fun k hk => ?_
  rw [swp_getD _ _ _ _ (by rw [swpR_len]; omega) (by rw [swpR_len]; omega), swpR_getD _ _ _ _ _ hk, swpR_getD _ _ _ _ _ hk, swpR_getD _ _ _ _ _ (by omega), swpR_getD _ _ _ _ _ (by omega)]
  repeat' split
  all_goals first | omega | (congr 1; omega) | rfl
theorem swpR_parts (x u y v z : List Nat) (n b : Nat) (hu : u.length = n) (hv : v.length = n) (hb : b = x.length + n + y.length) : swpR (x ++ (u ++ (y ++ (v ++ z)))) x.length b n = x ++ (v ++ (y ++ (u ++ z))) := by
  subst hb
  refine getD_ext (x ++ (u ++ (y ++ (v ++ z)))).length (swpR_len _ _ _ _) (by simp; omega) fun k hk => ?_
  rw [swpR_getD _ _ _ _ _ hk]
  simp only [List.length_append] at hk
  simp only [getD_app]
  repeat' split
  all_goals first | omega | (congr 1; omega) | rfl
/-! ### sorted rows -/
/-- by what k tells, then by the number -/
def ltk (k : Nat → Nat) (x y : Nat) : Prop := k x < k y ∨ (k x = k y ∧ x < y)
theorem ltk_trans {k : Nat → Nat} {x y z : Nat} (h1 : ltk k x y) (h2 : ltk k y z) : ltk k x z := by unfold ltk at *; omega
/-- each is ahead of all behind it -/
def Srt (k : Nat → Nat) (L : List Nat) : Prop := L.Pairwise (ltk k)
theorem Srt.get {k : Nat → Nat} {L : List Nat} (h : Srt k L) {i j : Nat} (hij : i < j) (hj : j < L.length) : ltk k (L.getD i 0) (L.getD j 0) := by
  have := List.pairwise_iff_getElem.1 h i j (by omega) hj hij
  rwa [List.getD_eq_getElem?_getD, List.getElem?_eq_getElem (by omega), List.getD_eq_getElem?_getD, List.getElem?_eq_getElem hj]
theorem mem_getD {L : List Nat} {x : Nat} (h : x ∈ L) : ∃ i, i < L.length ∧ x = L.getD i 0 := by
  obtain ⟨i, hi, rfl⟩ := List.getElem_of_mem h
  exact ⟨i, hi, by rw [List.getD_eq_getElem?_getD, List.getElem?_eq_getElem hi]; rfl⟩
theorem mem_take {L : List Nat} {x n : Nat} (h : x ∈ L.take n) : ∃ i, i < L.length ∧ i < n ∧ x = L.getD i 0 := by
  obtain ⟨i, hi, rfl⟩ := mem_getD h
  rw [List.length_take] at hi
  exact ⟨i, by omega, by omega, getD_take _ _ _ (by omega)⟩
theorem mem_drop {L : List Nat} {x n : Nat} (h : x ∈ L.drop n) : ∃ i, i < L.length ∧ n ≤ i ∧ x = L.getD i 0 := by
  obtain ⟨i, hi, rfl⟩ := mem_getD h
  rw [List.length_drop] at hi
  exact ⟨n + i, by omega, by omega, getD_drop _ _ _⟩
/-- where two sorted rows are cut -/
theorem sym_cut {k : Nat → Nat} {L R : List Nat} {i j : Nat} (hL : Srt k L) (hR : Srt k R) (hi : i ≤ L.length) (hj : j ≤ R.length)
    (h1 : i = 0 ∨ j = R.length ∨ ltk k (L.getD (i - 1) 0) (R.getD j 0)) (h2 : j = 0 ∨ i = L.length ∨ ltk k (R.getD (j - 1) 0) (L.getD i 0)) :
    (∀ l ∈ L.take i, ∀ r ∈ R.drop j, ltk k l r) ∧ (∀ r ∈ R.take j, ∀ l ∈ L.drop i, ltk k r l) := by
  have key : ∀ {A B : List Nat} {i j : Nat}, Srt k A → Srt k B → i ≤ A.length → j ≤ B.length → (i = 0 ∨ j = B.length ∨ ltk k (A.getD (i - 1) 0) (B.getD j 0)) → ∀ l ∈ A.take i, ∀ r ∈ B.drop j, ltk k l r := by
    intro A B i j hA hB hi hj h l hl r hr
    obtain ⟨p, p1, p2, rfl⟩ := mem_take hl
    obtain ⟨q, q1, q2, rfl⟩ := mem_drop hr
    rcases h with h | h | h
    · omega
    · omega
    · have e1 : ltk k (A.getD p 0) (B.getD j 0) := by
        by_cases e : p = i - 1
        · rw [e]; exact h
        · exact ltk_trans (hA.get (by omega) (by omega)) h
      by_cases e : q = j
      · rw [e]; exact e1
      · exact ltk_trans e1 (hB.get (by omega) q1)
  exact ⟨key hL hR hi hj h1, key hR hL hj hi h2⟩
theorem merged {k : Nat → Nat} {L R S1 S2 : List Nat} {i j : Nat} (p1 : S1.Perm (L.take i ++ R.take j)) (p2 : S2.Perm (L.drop i ++ R.drop j)) (s1 : Srt k S1) (s2 : Srt k S2) (hL : Srt k L) (hR : Srt k R)
    (h : (∀ l ∈ L.take i, ∀ r ∈ R.drop j, ltk k l r) ∧ (∀ r ∈ R.take j, ∀ l ∈ L.drop i, ltk k r l)) : (S1 ++ S2).Perm (L ++ R) ∧ Srt k (S1 ++ S2) := by
  constructor
  · refine (p1.append p2).trans ?_
    have e : (L.take i ++ R.take j ++ (L.drop i ++ R.drop j)).Perm ((L.take i ++ L.drop i) ++ (R.take j ++ R.drop j)) := by
      simp only [List.append_assoc]
      refine List.Perm.append_left _ ?_
      rw [← List.append_assoc, ← List.append_assoc]
      exact List.Perm.append_right _ List.perm_append_comm
    rwa [List.take_append_drop, List.take_append_drop] at e
  · refine List.pairwise_append.2 ⟨s1, s2, fun u hu v hv => ?_⟩
    have hL' : (L.take i ++ L.drop i).Pairwise (ltk k) := by rw [List.take_append_drop]; exact hL
    have hR' : (R.take j ++ R.drop j).Pairwise (ltk k) := by rw [List.take_append_drop]; exact hR
    rcases List.mem_append.1 (p1.subset hu) with h1 | h1 <;> rcases List.mem_append.1 (p2.subset hv) with h2 | h2
    · exact (List.pairwise_append.1 hL').2.2 u h1 v h2
    · exact h.1 u h1 v h2
    · exact h.2 u h1 v h2
    · exact (List.pairwise_append.1 hR').2.2 u h1 v h2
theorem srt_take {k : Nat → Nat} {L : List Nat} (h : Srt k L) (n : Nat) : Srt k (L.take n) := h.sublist (List.take_sublist _ _)
theorem srt_drop {k : Nat → Nat} {L : List Nat} (h : Srt k L) (n : Nat) : Srt k (L.drop n) := h.sublist (List.drop_sublist _ _)
/-- where one of two is empty nothing is to be merged -/
theorem srt_app {k : Nat → Nat} {A B : List Nat} (hA : Srt k A) (hB : Srt k B) (h : A.length = 0 ∨ B.length = 0) : Srt k (A ++ B) := by
  rcases h with h | h
  · rw [List.eq_nil_of_length_eq_zero h]; exact hB
  · rw [List.eq_nil_of_length_eq_zero h, List.append_nil]; exact hA
/-- what is turned round where it stands: one element and those behind it -/
theorem swp_next (x : List Nat) (v r : Nat) (z : List Nat) (i : Nat) (hi : i = x.length) : swp (x ++ (v :: r :: z)) i (i + 1) = x ++ (r :: v :: z) := by
  subst hi
  refine getD_ext (x ++ (v :: r :: z)).length (swp_len _ _ _) (by simp) fun k hk => ?_
  rw [swp_getD _ _ _ _ (by simp) (by simp)]
  simp only [List.length_append, List.length_cons] at hk
  simp only [getD_app]
  rcases Nat.lt_trichotomy k x.length with h | h | h
  · rw [if_neg (by omega), if_neg (by omega), if_pos h, if_pos h]
  · subst h
    rw [if_neg (by omega), if_pos rfl, if_neg (by omega), if_neg (by omega), Nat.add_sub_cancel_left, Nat.sub_self]
    rfl
  · obtain ⟨e, rfl⟩ : ∃ e, k = x.length + 1 + e := ⟨k - x.length - 1, by omega⟩
    cases e with
    | zero =>
      rw [if_pos rfl, if_neg (by omega), if_neg (by omega), Nat.add_zero, Nat.add_sub_cancel_left, Nat.sub_self]
      rfl
    | succ e =>
      rw [if_neg (by omega), if_neg (by omega), if_neg (by omega), if_neg (by omega), show x.length + 1 + (e + 1) - x.length = e + 2 by omega]
      rfl
theorem swp_comm (d : List Nat) (i j : Nat) (hi : i < d.length) (hj : j < d.length) : swp d i j = swp d j i := by
  refine getD_ext d.length (swp_len _ _ _) (swp_len _ _ _) fun k hk => ?_
  rw [swp_getD _ _ _ _ hi hj, swp_getD _ _ _ _ hj hi]
  by_cases h1 : j = k <;> by_cases h2 : i = k
  · subst h1; subst h2; rfl
  · rw [if_pos h1, if_neg h2, if_pos h1]
  · rw [if_neg h1, if_pos h2, if_pos h2]
  · rw [if_neg h1, if_neg h2, if_neg h2, if_neg h1]
theorem swp_back (x : List Nat) (v r : Nat) (z : List Nat) (i j : Nat) (hi : i = x.length) (hj : j = i + 1) : swp (x ++ (v :: r :: z)) j i = x ++ (r :: v :: z) := by
  subst hj
  rw [swp_comm _ _ _ (by simp; omega) (by simp; omega)]
  exact swp_next x v r z i hi
/-- what cmp tells of two -/
def cmpN (a b : Nat) : Int := if a < b then -1 else if b < a then 1 else 0
theorem cmpN_lt {a b : Nat} : cmpN a b < 0 ↔ a < b := by unfold cmpN; repeat (first | omega | split)
/-- a row in whose part behind x, before y, the elements of B stand in order -/
theorem ins_out {k : Nat → Nat} {B : List Nat} (hB : B.Pairwise (· < ·)) {i : Nat} (hi : i < B.length) {P1 P2 : List Nat} (hp : (P1 ++ P2).Perm (B.take i)) (hs : Srt k (P1 ++ P2)) (h2 : ∀ z ∈ P2, ltk k (B.getD i 0) z)
    (h1 : P1 = [] ∨ ∃ P p, P1 = P ++ [p] ∧ ¬ k (B.getD i 0) < k p) : (P1 ++ (B.getD i 0 :: P2)).Perm (B.take (i + 1)) ∧ Srt k (P1 ++ (B.getD i 0 :: P2)) := by
  have hm : ∀ z ∈ P1 ++ P2, z < B.getD i 0 := fun z hz => by
    obtain ⟨j, j1, j2, rfl⟩ := mem_take (hp.subset hz)
    have := List.pairwise_iff_getElem.1 hB j i j1 hi j2
    rwa [List.getD_eq_getElem?_getD, List.getElem?_eq_getElem j1, List.getD_eq_getElem?_getD, List.getElem?_eq_getElem hi]
  have hlow : ∀ z ∈ P1, ltk k z (B.getD i 0) := by
    rcases h1 with rfl | ⟨P, p, rfl, h⟩
    · intro z hz; cases hz
    · have hl : ltk k p (B.getD i 0) := by
        have := hm p (by simp)
        unfold ltk
        omega
      intro z hz
      rcases List.mem_append.1 hz with hz | hz
      · refine ltk_trans ?_ hl
        have := (List.pairwise_append.1 (List.pairwise_append.1 hs).1).2.2 z hz p (by simp)
        exact this
      · rw [List.mem_singleton.1 hz]; exact hl
  obtain ⟨s1, s2, s3⟩ := List.pairwise_append.1 hs
  constructor
  · rw [take_snoc B i hi]
    refine (List.perm_middle).trans ?_
    refine ((List.Perm.cons _ hp)).trans ?_
    exact (List.perm_append_singleton _ _).symm
  · refine List.pairwise_append.2 ⟨s1, List.pairwise_cons.2 ⟨h2, s2⟩, fun u hu v hv => ?_⟩
    rcases List.mem_cons.1 hv with rfl | hv
    · exact hlow u hu
    · exact s3 u hu v hv
end Go.Proofs.Ytpjdlkbpnodcdaa
