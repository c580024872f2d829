/- A row that is sorted block by block, blocks merged two by two, by plain lists. -/
import Derived.Test.YtpjdlkbpnodcdaaPMrgN
namespace Go.Proofs.Ytpjdlkbpnodcdaa
set_option linter.unusedVariables false

/-- the elements from s on, up to t -/
def seg (d : List Nat) (s t : Nat) : List Nat := (d.take t).drop s
theorem seg_len {d : List Nat} {s t : Nat} (h : t ≤ d.length) : (seg d s t).length = t - s := by unfold seg; rw [List.length_drop, List.length_take]; omega
theorem seg_getD {d : List Nat} {s t j : Nat} (h : s + j < t) : (seg d s t).getD j 0 = d.getD (s + j) 0 := by unfold seg; rw [getD_drop, getD_take _ _ _ h]
theorem seg_ext {d d' : List Nat} {s t : Nat} (h1 : t ≤ d.length) (h2 : t ≤ d'.length) (h : ∀ i, s ≤ i → i < t → d.getD i 0 = d'.getD i 0) : seg d s t = seg d' s t :=
  getD_ext (t - s) (seg_len h1) (seg_len h2) fun j hj => by rw [seg_getD (by omega), seg_getD (by omega)]; exact h _ (by omega) (by omega)
theorem seg_parts {d : List Nat} {s t : Nat} (h : s ≤ t) : d = d.take s ++ (seg d s t ++ d.drop t) := by
  unfold seg
  have e : d.take s = (d.take t).take s := by rw [List.take_take, Nat.min_eq_left h]
  rw [e, ← List.append_assoc, List.take_append_drop, List.take_append_drop]
theorem seg_split {d : List Nat} {s m t : Nat} (h1 : s ≤ m) (h2 : m ≤ t) (h3 : t ≤ d.length) : seg d s t = seg d s m ++ seg d m t := by
  refine getD_ext (t - s) (seg_len h3) (by rw [List.length_append, seg_len (by omega), seg_len h3]; omega) fun j hj => ?_
  rw [seg_getD (by omega), getD_app, seg_len (by omega)]
  split
  · rw [seg_getD (by omega)]
  · rw [seg_getD (by omega)]; congr 1; omega
theorem seg_all {d : List Nat} {n : Nat} (h : d.length = n) : seg d 0 n = d := by unfold seg; rw [List.take_of_length_le (by omega)]; rfl
theorem mem_seg {d : List Nat} {s t x : Nat} (ht : t ≤ d.length) (h : x ∈ seg d s t) : ∃ i, s ≤ i ∧ i < t ∧ x = d.getD i 0 := by
  obtain ⟨j, hj, rfl⟩ := mem_getD h
  rw [seg_len ht] at hj
  exact ⟨s + j, by omega, by omega, seg_getD (by omega)⟩
/-- sorted, and the same elements as at first -/
def Okk (k : Nat → Nat) (I d : List Nat) (s t : Nat) : Prop := Srt k (seg d s t) ∧ (seg d s t).Perm (seg I s t)
/-- a part in place of another one -/
def putS (d S : List Nat) (a b : Nat) : List Nat := d.take a ++ (S ++ d.drop b)
theorem putS_len {d S : List Nat} {a b : Nat} (hab : a ≤ b) (hb : b ≤ d.length) (hS : S.length = b - a) : (putS d S a b).length = d.length := by
  unfold putS
  rw [List.length_append, List.length_append, List.length_take, List.length_drop]
  omega
theorem putS_out {d S : List Nat} {a b i : Nat} (hab : a ≤ b) (hb : b ≤ d.length) (hS : S.length = b - a) (h : i < a ∨ b ≤ i) : (putS d S a b).getD i 0 = d.getD i 0 := by
  unfold putS
  have hl : (d.take a).length = a := by rw [List.length_take]; omega
  rw [getD_app, hl]
  rcases h with h | h
  · rw [if_pos h, getD_take _ _ _ h]
  · rw [if_neg (by omega), getD_app, if_neg (by omega), getD_drop]
    congr 1; omega
theorem putS_in {d S : List Nat} {a b : Nat} (hab : a ≤ b) (hb : b ≤ d.length) (hS : S.length = b - a) : seg (putS d S a b) a b = S := by
  refine getD_ext (b - a) (seg_len (by rw [putS_len hab hb hS]; exact hb)) hS fun j hj => ?_
  rw [seg_getD (by omega)]
  unfold putS
  have hl : (d.take a).length = a := by rw [List.length_take]; omega
  rw [getD_app, hl, if_neg (by omega), getD_app, if_pos (by omega)]
  congr 1; omega
theorem putS_perm {d S I : List Nat} {a b : Nat} (hab : a ≤ b) (hS : S.Perm (seg d a b)) (hp : d.Perm I) : (putS d S a b).Perm I := by
  refine List.Perm.trans ?_ hp
  conv => rhs; rw [seg_parts (d := d) hab]
  exact List.Perm.append_left _ (List.Perm.append_right _ hS)
theorem Okk.out {k : Nat → Nat} {I d S : List Nat} {a b s t : Nat} (h : Okk k I d s t) (hab : a ≤ b) (hb : b ≤ d.length) (hS : S.length = b - a) (ht : t ≤ d.length) (ho : t ≤ a ∨ b ≤ s) : Okk k I (putS d S a b) s t := by
  have e : seg (putS d S a b) s t = seg d s t := seg_ext (by rw [putS_len hab hb hS]; exact ht) ht fun i h1 h2 => putS_out hab hb hS (by omega)
  unfold Okk
  rw [e]; exact h
theorem Okk.put {k : Nat → Nat} {I d S : List Nat} {a b : Nat} (hab : a ≤ b) (hb : b ≤ d.length) (hS : S.length = b - a) (h1 : Srt k S) (h2 : S.Perm (seg I a b)) : Okk k I (putS d S a b) a b := by
  unfold Okk
  rw [putS_in hab hb hS]; exact ⟨h1, h2⟩
/-- the first pass: blocks of twenty, up to a -/
structure Ph1 (k : Nat → Nat) (I : List Nat) (n a : Nat) (d : List Nat) : Prop where
  len : d.length = n
  perm : d.Perm I
  low : ∀ s, 20 ∣ s → s < a → Okk k I d s (min (s + 20) n)
  high : ∀ i, a ≤ i → d.getD i 0 = I.getD i 0
theorem Ph1.first (k : Nat → Nat) (I : List Nat) : Ph1 k I I.length 0 I := ⟨rfl, List.Perm.refl _, fun s _ h => by omega, fun _ _ => rfl⟩
theorem Ph1.row {k : Nat → Nat} {I d : List Nat} {n a b : Nat} (h : Ph1 k I n a d) (hI : I.length = n) (hab : a ≤ b) (hb : b ≤ n) : d = d.take a ++ (seg I a b ++ d.drop b) := by
  have e : seg I a b = seg d a b := seg_ext (by omega) (by have := h.len; omega) fun i h1 h2 => (h.high i h1).symm
  rw [e]; exact seg_parts hab
theorem Ph1.step {k : Nat → Nat} {I d S : List Nat} {n a b : Nat} (h : Ph1 k I n a d) (hI : I.length = n) (ha : 20 ∣ a) (hab : a ≤ b) (hb : b = min (a + 20) n) (hS : S.Perm (seg I a b)) (hs : Srt k S) : Ph1 k I n b (putS d S a b) := by
  have hl := hS.length_eq
  rw [seg_len (by omega)] at hl
  have hd := h.len
  have hbn : b ≤ d.length := by omega
  have e : seg I a b = seg d a b := seg_ext (by omega) (by omega) fun i h1 h2 => (h.high i h1).symm
  refine ⟨by rw [putS_len hab hbn hl]; exact hd, putS_perm hab (by rw [← e]; exact hS) h.perm, fun s h1 h2 => ?_, fun i hi => ?_⟩
  · by_cases hsa : s < a
    · exact (h.low s h1 hsa).out hab hbn hl (by omega) (.inl (by obtain ⟨x, rfl⟩ := ha; obtain ⟨z, rfl⟩ := h1; omega))
    · obtain rfl : s = a := by obtain ⟨x, rfl⟩ := ha; obtain ⟨z, rfl⟩ := h1; omega
      rw [← hb]
      exact Okk.put hab hbn hl hs hS
  · rw [putS_out hab hbn hl (.inr hi)]; exact h.high i (by omega)
/-- a pass of merges: blocks of 2 * bs below a, of bs from a on -/
structure Ph2 (k : Nat → Nat) (I : List Nat) (n bs a : Nat) (d : List Nat) : Prop where
  len : d.length = n
  perm : d.Perm I
  low : ∀ s, 2 * bs ∣ s → s < a → s < n → Okk k I d s (min (s + 2 * bs) n)
  high : ∀ s, bs ∣ s → a ≤ s → s < n → Okk k I d s (min (s + bs) n)
theorem Ph1.second {k : Nat → Nat} {I d : List Nat} {n : Nat} (h : Ph1 k I n n d) : Ph2 k I n 20 0 d := ⟨h.len, h.perm, fun s _ h1 => by omega, fun s h1 _ h2 => h.low s h1 h2⟩
theorem Ph2.next {k : Nat → Nat} {I d : List Nat} {n bs a : Nat} (h : Ph2 k I n bs a d) (ha : n ≤ a) : Ph2 k I n (2 * bs) 0 d := ⟨h.len, h.perm, fun s _ h1 => by omega, fun s h1 _ h2 => h.low s h1 (by omega) h2⟩
theorem Ph2.last {k : Nat → Nat} {I d : List Nat} {n bs : Nat} (h : Ph2 k I n bs 0 d) (h0 : 0 < n) (hb : n ≤ bs) : Srt k d := by
  have := (h.high 0 (Nat.dvd_zero _) (Nat.le_refl _) h0).1
  rw [Nat.zero_add, Nat.min_eq_right hb, seg_all h.len] at this
  exact this
/-- what is left alone at the end of a pass: one block, or none -/
theorem Ph2.rest {k : Nat → Nat} {I d : List Nat} {n bs a : Nat} (h : Ph2 k I n bs a d) (ha : 2 * bs ∣ a) (hm : n ≤ a + bs) : Ph2 k I n bs n d := by
  refine ⟨h.len, h.perm, fun s h1 h2 h3 => ?_, fun s _ h1 h2 => by omega⟩
  by_cases hs : s < a
  · exact h.low s h1 hs h3
  · have hsa : s = a := by
      obtain ⟨x, rfl⟩ := ha
      obtain ⟨z, rfl⟩ := h1
      have h0 : 0 < bs := by
        rcases Nat.eq_zero_or_pos bs with e | e
        · subst e
          simp only [Nat.mul_zero, Nat.zero_mul] at hm h3
          omega
        · exact e
      have h4 : 2 * bs * z < 2 * bs * (x + 1) := by rw [Nat.mul_add, Nat.mul_one]; omega
      have h5 : z < x + 1 := Nat.lt_of_mul_lt_mul_left h4
      have h6 : 2 * bs * x < 2 * bs * (z + 1) := by rw [Nat.mul_add, Nat.mul_one]; omega
      have h7 : x < z + 1 := Nat.lt_of_mul_lt_mul_left h6
      rw [show z = x by omega]
    subst hsa
    have := h.high s (Nat.dvd_trans (Nat.dvd_mul_left bs 2) ha) (Nat.le_refl _) h3
    rwa [show min (s + bs) n = min (s + 2 * bs) n by omega] at this
/-- two blocks are merged -/
theorem Ph2.two {k : Nat → Nat} {I d : List Nat} {n bs a b : Nat} (h : Ph2 k I n bs a d) (hI : I.Pairwise (· < ·)) (hIn : I.length = n) (h0 : 0 < bs) (ha : 2 * bs ∣ a) (hm : a + bs < n) (hb : b = min (a + 2 * bs) n) :
    Two k I (d.take a) (seg d a (a + bs)) (seg d (a + bs) b) (d.drop b) a (a + bs) b n ∧ d.take a ++ (seg d a (a + bs) ++ (seg d (a + bs) b ++ d.drop b)) = d := by
  have hd := h.len
  have d1 : bs ∣ a := Nat.dvd_trans (Nat.dvd_mul_left bs 2) ha
  have o1 := h.high a d1 (Nat.le_refl _) (by omega)
  have o2 := h.high (a + bs) (Nat.dvd_add d1 (Nat.dvd_refl _)) (by omega) hm
  rw [show min (a + bs) n = a + bs by omega] at o1
  rw [show min (a + bs + bs) n = b by omega] at o2
  have e : d.take a ++ (seg d a (a + bs) ++ (seg d (a + bs) b ++ d.drop b)) = d := by
    rw [← List.append_assoc (seg d a (a + bs)), ← seg_split (by omega) (by omega) (by omega)]
    exact (seg_parts (by omega)).symm
  refine ⟨⟨by rw [List.length_take]; omega, by rw [seg_len (by omega)]; omega, by rw [seg_len (by omega)]; omega, by rw [seg_len (by omega)]; omega, by rw [seg_len (by omega)]; omega, o1.1, o2.1, fun l hl r hr => ?_, by rw [e]; exact h.perm, by rw [e]; exact hd⟩, e⟩
  obtain ⟨i, i1, i2, rfl⟩ := mem_seg (by omega) (o1.2.subset hl)
  obtain ⟨j, j1, j2, rfl⟩ := mem_seg (by omega) (o2.2.subset hr)
  have := List.pairwise_iff_getElem.1 hI i j (by omega) (by omega) (by omega)
  rwa [List.getD_eq_getElem?_getD, List.getElem?_eq_getElem (by omega), List.getD_eq_getElem?_getD, List.getElem?_eq_getElem (by omega)]
theorem Ph2.step {k : Nat → Nat} {I d S : List Nat} {n bs a b : Nat} (h : Ph2 k I n bs a d) (hI : I.length = n) (h0 : 0 < bs) (ha : 2 * bs ∣ a) (hm : a + bs < n) (hb : b = min (a + 2 * bs) n) (hp : S.Perm (seg d a (a + bs) ++ seg d (a + bs) b)) (hs : Srt k S) : Ph2 k I n bs b (putS d S a b) := by
  have hd := h.len
  have d1 : bs ∣ a := Nat.dvd_trans (Nat.dvd_mul_left bs 2) ha
  have o1 := h.high a d1 (Nat.le_refl _) (by omega)
  have o2 := h.high (a + bs) (Nat.dvd_add d1 (Nat.dvd_refl _)) (by omega) hm
  rw [show min (a + bs) n = a + bs by omega] at o1
  rw [show min (a + bs + bs) n = b by omega] at o2
  have hl := hp.length_eq
  rw [List.length_append, seg_len (by omega), seg_len (by omega)] at hl
  have hab : a ≤ b := by omega
  have hbn : b ≤ d.length := by omega
  have hl' : S.length = b - a := by omega
  rw [← seg_split (by omega) (by omega) (by omega)] at hp
  have hpI : S.Perm (seg I a b) := by
    refine hp.trans ?_
    rw [seg_split (d := d) (m := a + bs) (by omega) (by omega) (by omega), seg_split (d := I) (m := a + bs) (by omega) (by omega) (by omega)]
    exact o1.2.append o2.2
  refine ⟨by rw [putS_len hab hbn hl']; exact hd, putS_perm hab hp h.perm, fun s h1 h2 h3 => ?_, fun s h1 h2 h3 => ?_⟩
  · by_cases hsa : s < a
    · refine (h.low s h1 hsa h3).out hab hbn hl' (by omega) (.inl ?_)
      obtain ⟨x, rfl⟩ := ha
      obtain ⟨z, rfl⟩ := h1
      have : z < x := Nat.lt_of_mul_lt_mul_left hsa
      have := Nat.mul_le_mul_left (2 * bs) (show z + 1 ≤ x from this)
      rw [Nat.mul_add, Nat.mul_one] at this
      omega
    · have e : s = a := by
        obtain ⟨x, rfl⟩ := ha
        obtain ⟨z, rfl⟩ := h1
        have h4 : 2 * bs * z < 2 * bs * (x + 1) := by rw [Nat.mul_add, Nat.mul_one]; omega
        have h5 : z < x + 1 := Nat.lt_of_mul_lt_mul_left h4
        have h6 : 2 * bs * x < 2 * bs * (z + 1) := by rw [Nat.mul_add, Nat.mul_one]; omega
        have h7 : x < z + 1 := Nat.lt_of_mul_lt_mul_left h6
        rw [show z = x by omega]
      subst e
      rw [← hb]
      exact Okk.put hab hbn hl' hs hpI
  · exact (h.high s h1 (by omega) h3).out hab hbn hl' (by omega) (.inr h2)
end Go.Proofs.Ytpjdlkbpnodcdaa
