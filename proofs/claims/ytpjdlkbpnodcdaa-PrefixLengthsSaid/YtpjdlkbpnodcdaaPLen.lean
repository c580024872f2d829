/- The lengths for frequencies, by plain numbers: of trees of two lightest, again with halves where one is too long; that this ends; that they make a whole code; what comes more often has no longer word. -/
import Derived.Test.YtpjdlkbpnodcdaaPHuf
namespace Go.Proofs.Ytpjdlkbpnodcdaa
set_option linter.unusedVariables false

theorem sum_lt_mul {g : (Nat × Nat) → Nat} {K : Nat} : ∀ {l : List (Nat × Nat)}, (∀ t ∈ l, g t ≤ K) → (∃ u ∈ l, g u < K) → (l.map g).sum < l.length * K
  | [], _, ⟨u, hu, _⟩ => by simp at hu
  | t :: l, h, ⟨u, hu, hk⟩ => by
    have h1 := h t (by simp)
    have hle : (l.map g).sum ≤ l.length * K := by
      have : ∀ {m : List (Nat × Nat)}, (∀ t ∈ m, g t ≤ K) → (m.map g).sum ≤ m.length * K := by
        intro m hm
        induction m with
        | nil => simp
        | cons v m ih =>
          have := hm v (by simp)
          have := ih (fun t ht => hm t (by simp [ht]))
          simp only [List.map_cons, List.sum_cons, List.length_cons, Nat.add_mul]
          omega
      exact this fun t ht => h t (by simp [ht])
    simp only [List.map_cons, List.sum_cons, List.length_cons, Nat.add_mul]
    rcases List.mem_cons.1 hu with rfl | hu
    · omega
    · have := sum_lt_mul (l := l) (fun t ht => h t (by simp [ht])) ⟨u, hu, hk⟩
      omega
/-- of weights of one none is too deep -/
theorem deep_ones {f c lim : Nat} {l : List (Nat × Nat)} (h : OkT c l) (hf : l.length ≤ f + 1) (h1 : ∀ t ∈ l, t.1 = 1) (hn : l.length ≤ 2 ^ lim) {u : (Nat × Nat)} (hu : u ∈ l) : deepT f c l u.2 ≤ lim := by
  rcases Nat.lt_or_ge lim (deepT f c l u.2) with hd | hd
  · exfalso
    have hfu := deepT_le f c l u.2
    have hall : ∀ t ∈ l, lim ≤ deepT f c l t.2 := fun t ht => by
      have := (deep_order f c l h hf).2 t ht (fun v hv _ => by rw [h1 t ht, h1 v hv]; omega) u hu
      omega
    have hk := deep_kraft f f c l h (List.length_pos_of_mem hu) hf (fun t _ => deepT_le _ _ _ _)
    have hlt := sum_lt_mul (g := fun t => 2 ^ (f - deepT f c l t.2)) (K := 2 ^ (f - lim)) (l := l) (fun t ht => Nat.pow_le_pow_right (by decide) (by have := hall t ht; omega)) ⟨u, hu, Nat.pow_lt_pow_right (by decide) (by omega)⟩
    rw [hk] at hlt
    have h2 : l.length * 2 ^ (f - lim) ≤ 2 ^ lim * 2 ^ (f - lim) := Nat.mul_le_mul_right _ hn
    rw [← Nat.pow_add, show lim + (f - lim) = f by omega] at h2
    omega
  · exact hd
/-- of few in all none is deep -/
theorem deep_few {f c : Nat} {l : List (Nat × Nat)} (h : OkT c l) (hf : l.length ≤ f + 1) (h1 : ∀ t ∈ l, 1 ≤ t.1) (hs : (l.map (·.1)).sum < 987) {u : (Nat × Nat)} (hu : u ∈ l) : deepT f c l u.2 ≤ 13 := by
  have hb := deep_fib f c l h hf u hu 1 (h1 u hu) (fun v hv _ => h1 v hv)
  have hmono : ∀ {a b : Nat}, a ≤ b → fibN a ≤ fibN b := fun {a b} hab => by
    obtain ⟨d, rfl⟩ : ∃ d, b = a + d := ⟨b - a, by omega⟩
    induction d with
    | zero => exact Nat.le_refl _
    | succ d ih => exact Nat.le_trans (ih (by omega)) (fibN_le (a + d))
  rcases Nat.lt_or_ge 13 (deepT f c l u.2) with hd | hd
  · exfalso
    have e1 : fibN 15 ≤ fibN (deepT f c l u.2 + 1) := hmono (by omega)
    have e2 : fibN 14 ≤ fibN (deepT f c l u.2) := hmono (by omega)
    have e3 := Nat.mul_le_mul_left (fibN (deepT f c l u.2 + 1)) (h1 u hu)
    rw [show fibN 15 = 610 by decide] at e1
    rw [show fibN 14 = 377 by decide] at e2
    omega
  · exact hd
/-- the trees at first: of each symbol that comes -/
def treesF (fr : List Nat) : List (Nat × Nat) := ((List.range fr.length).filter fun i => decide (0 < fr.getD i 0)).map fun i => (fr.getD i 0, i)
theorem treesF_ok (fr : List Nat) : OkT fr.length (treesF fr) := by
  refine ⟨?_, fun t ht => ?_⟩
  · unfold treesF
    rw [List.pairwise_map]
    exact (List.pairwise_lt_range (n := fr.length)).filter _
  · obtain ⟨i, hi, rfl⟩ := List.mem_map.1 ht
    exact List.mem_range.1 (List.mem_filter.1 hi).1
theorem treesF_mem {fr : List Nat} {i : Nat} (hi : i < fr.length) (h : 0 < fr.getD i 0) : (fr.getD i 0, i) ∈ treesF fr :=
  List.mem_map.2 ⟨i, List.mem_filter.2 ⟨List.mem_range.2 hi, decide_eq_true h⟩, rfl⟩
theorem treesF_of {fr : List Nat} {t : (Nat × Nat)} (h : t ∈ treesF fr) : t.2 < fr.length ∧ t.1 = fr.getD t.2 0 ∧ 0 < t.1 := by
  obtain ⟨i, hi, rfl⟩ := List.mem_map.1 h
  obtain ⟨h1, h2⟩ := List.mem_filter.1 hi
  exact ⟨List.mem_range.1 h1, rfl, of_decide_eq_true h2⟩
theorem treesF_len (fr : List Nat) : (treesF fr).length ≤ fr.length := by
  unfold treesF
  rw [List.length_map]
  exact Nat.le_trans (List.length_filter_le _ _) (by simp)
/-- how deep symbol i stands -/
def depF (fr : List Nat) (i : Nat) : Nat := if fr.getD i 0 = 0 then 0 else if (treesF fr).length = 1 then 1 else deepT fr.length fr.length (treesF fr) i
def depthsF (fr : List Nat) : List Nat := (List.range fr.length).map (depF fr)
theorem depthsF_len (fr : List Nat) : (depthsF fr).length = fr.length := by simp [depthsF]
theorem depthsF_getD {fr : List Nat} {i : Nat} (h : i < fr.length) : (depthsF fr).getD i 0 = depF fr i := map_range_getD _ _ _ h
/-- each that comes as half of it and 1 -/
def halveF (fr : List Nat) : List Nat := fr.map fun n => (n + 1) / 2
theorem halveF_len (fr : List Nat) : (halveF fr).length = fr.length := by simp [halveF]
theorem halveF_getD (fr : List Nat) (i : Nat) : (halveF fr).getD i 0 = (fr.getD i 0 + 1) / 2 := by
  unfold halveF
  rw [List.getD_eq_getElem?_getD, List.getD_eq_getElem?_getD, List.getElem?_map]
  cases fr[i]? <;> rfl
theorem halveF_pos (fr : List Nat) (i : Nat) : 0 < (halveF fr).getD i 0 ↔ 0 < fr.getD i 0 := by rw [halveF_getD]; omega
theorem treesF_halve_len (fr : List Nat) : (treesF (halveF fr)).length = (treesF fr).length := by
  unfold treesF
  rw [List.length_map, List.length_map, halveF_len]
  congr 1
  refine List.filter_congr fun i _ => decide_eq_decide.2 (halveF_pos fr i)
/-- none is longer than lim -/
def fitsF (fr : List Nat) (lim : Nat) : Bool := decide (∀ d ∈ depthsF fr, d ≤ lim)
/-- the lengths, with k tries -/
def lensF (lim : Nat) : Nat → List Nat → List Nat
  | 0, fr => depthsF fr
  | k + 1, fr => if fitsF fr lim = true then depthsF fr else lensF lim k (halveF fr)
theorem fits_ones {fr : List Nat} {lim : Nat} (h1 : 1 ≤ lim) (hn : (treesF fr).length ≤ 2 ^ lim) (hf : ∀ i, fr.getD i 0 ≤ 1) : fitsF fr lim = true := by
  refine decide_eq_true fun d hd => ?_
  obtain ⟨i, hi, rfl⟩ := List.mem_map.1 hd
  have hi' := List.mem_range.1 hi
  unfold depF
  split
  · omega
  · rename_i h0
    split
    · omega
    · have hm := treesF_mem hi' (by omega : 0 < fr.getD i 0)
      exact deep_ones (treesF_ok fr) (by have := treesF_len fr; omega) (fun t ht => by
        obtain ⟨_, q2, q3⟩ := treesF_of ht
        have := hf t.2
        omega) hn hm
/-- it ends: after so many halvings all fit -/
theorem lensF_ends {lim : Nat} (h1 : 1 ≤ lim) : ∀ {k : Nat} {fr : List Nat}, (treesF fr).length ≤ 2 ^ lim → (∀ i, fr.getD i 0 ≤ 2 ^ k) → ∀ d ∈ lensF lim k fr, d ≤ lim
  | 0, fr, hn, hf => of_decide_eq_true (fits_ones h1 hn fun i => hf i)
  | k + 1, fr, hn, hf => by
    unfold lensF
    split
    · exact of_decide_eq_true (by assumption)
    · refine lensF_ends h1 (by rw [treesF_halve_len]; exact hn) fun i => ?_
      have := hf i
      rw [halveF_getD, Nat.pow_succ] at *
      omega
theorem lensF_len (lim : Nat) : ∀ (k : Nat) (fr : List Nat), (lensF lim k fr).length = fr.length
  | 0, fr => depthsF_len fr
  | k + 1, fr => by
    unfold lensF
    split
    · exact depthsF_len fr
    · rw [lensF_len lim k, halveF_len]
/-- whatever fits, of some frequencies that are above 0 where these are -/
theorem lensF_some (lim : Nat) : ∀ (k : Nat) (fr : List Nat), ∃ fr', lensF lim k fr = depthsF fr' ∧ fr'.length = fr.length ∧ (treesF fr').length = (treesF fr).length ∧ ∀ i, 0 < fr'.getD i 0 ↔ 0 < fr.getD i 0
  | 0, fr => ⟨fr, rfl, rfl, rfl, fun _ => Iff.rfl⟩
  | k + 1, fr => by
    unfold lensF
    split
    · exact ⟨fr, rfl, rfl, rfl, fun _ => Iff.rfl⟩
    · obtain ⟨fr', q1, q2, q3, q4⟩ := lensF_some lim k (halveF fr)
      exact ⟨fr', q1, by rw [q2, halveF_len], by rw [q3, treesF_halve_len], fun i => (q4 i).trans (halveF_pos fr i)⟩
theorem deepT_pos : ∀ (f c : Nat) (l : List (Nat × Nat)), OkT c l → 2 ≤ l.length → l.length ≤ f + 1 → ∀ t ∈ l, 1 ≤ deepT f c l t.2
  | 0, c, l, _, h2, hf, _, _ => by omega
  | f + 1, c, l, h, h2, hf, t, ht => by
    rcases pick_cases h ht with rfl | rfl | ht'
    · rw [deepT_a h2]; omega
    · rw [deepT_b h2]; omega
    · rw [deepT_m h h2 ht']
      have hp := List.length_pos_of_mem ht'
      have hl : (nextT c l).length = (pickM l).length + 1 := by unfold nextT; simp
      have hn := nextT_len h h2
      exact deepT_pos f (c + 1) (nextT c l) (nextT_ok h) (by omega) (by omega) t (mem_next ht')
theorem sumW_list (g : Nat → Nat) : ∀ m, sumW g (fun _ => true) m = ((List.range m).map g).sum
  | 0 => rfl
  | m + 1 => by
    rw [sumW_yes rfl, sumW_list g m, List.range_succ, List.map_append, List.sum_append]
    simp
theorem sum_filter (g : Nat → Nat) (p : Nat → Bool) : ∀ (l : List Nat), (∀ i ∈ l, p i = false → g i = 0) → (l.map g).sum = ((l.filter p).map g).sum
  | [], _ => rfl
  | i :: l, h => by
    have ih := sum_filter g p l fun j hj => h j (by simp [hj])
    have h1 := h i (by simp)
    simp only [List.map_cons, List.sum_cons, ih]
    cases hp : p i with
    | true => rw [List.filter_cons_of_pos hp]; simp
    | false => rw [List.filter_cons_of_neg (by simp [hp]), h1 hp]; simp
theorem depF_zero {fr : List Nat} {i : Nat} : (treesF fr).length = 0 → i < fr.length → fr.getD i 0 = 0 := fun h hi => by
  rcases Nat.eq_zero_or_pos (fr.getD i 0) with h0 | h0
  · exact h0
  · have := List.length_pos_of_mem (treesF_mem hi h0)
    omega
/-- a length is 0 just where nothing comes -/
theorem depF_pos {fr : List Nat} {i : Nat} (hi : i < fr.length) : 0 < depF fr i ↔ 0 < fr.getD i 0 := by
  unfold depF
  split
  · omega
  · rename_i h0
    have hm := treesF_mem hi (by omega : 0 < fr.getD i 0)
    split
    · omega
    · rename_i h1
      have hp := List.length_pos_of_mem hm
      have := deepT_pos fr.length fr.length (treesF fr) (treesF_ok fr) (by omega) (by have := treesF_len fr; omega) _ hm
      exact ⟨fun _ => by omega, fun _ => this⟩
theorem kraft_dep {fr : List Nat} : kraftW (depthsF fr) = ((treesF fr).map fun t => 2 ^ (15 - depF fr t.2)).sum := by
  unfold kraftW
  rw [sumW_list, depthsF_len, sum_filter _ (fun i => decide (0 < fr.getD i 0))]
  · unfold treesF
    rw [List.map_map]
    congr 1
    refine List.map_congr_left fun i hi => ?_
    obtain ⟨h1, h2⟩ := List.mem_filter.1 hi
    have h1 := List.mem_range.1 h1
    have h2 := of_decide_eq_true h2
    rw [wgtL_pos (by rw [depthsF_getD h1]; exact (depF_pos h1).2 h2), depthsF_getD h1]
    rfl
  · intro i hi hp
    have hi := List.mem_range.1 hi
    have h0 : ¬ 0 < fr.getD i 0 := of_decide_eq_false hp
    unfold wgtL wgt
    rw [depthsF_getD hi, if_pos]
    have := depF_pos (fr := fr) hi
    omega
theorem kraft_none {fr : List Nat} (h : (treesF fr).length = 0) : kraftW (depthsF fr) = 0 := by
  rw [kraft_dep, List.eq_nil_of_length_eq_zero h]
  rfl
theorem kraft_one {fr : List Nat} (h : (treesF fr).length = 1) : kraftW (depthsF fr) = 2 ^ 14 := by
  rw [kraft_dep]
  match ht : treesF fr, h with
  | [t], _ =>
    have hm : t ∈ treesF fr := by rw [ht]; simp
    obtain ⟨q1, q2, q3⟩ := treesF_of hm
    have e : depF fr t.2 = 1 := by
      unfold depF
      rw [if_neg (by omega), if_pos (by rw [ht]; rfl)]
    simp [e]
theorem kraft_whole {fr : List Nat} (h : 2 ≤ (treesF fr).length) (h15 : ∀ d ∈ depthsF fr, d ≤ 15) : kraftW (depthsF fr) = 2 ^ 15 := by
  have e : ∀ t ∈ treesF fr, depF fr t.2 = deepT fr.length fr.length (treesF fr) t.2 := fun t ht => by
    obtain ⟨_, q2, q3⟩ := treesF_of ht
    unfold depF
    rw [if_neg (by omega), if_neg (by omega)]
  rw [kraft_dep, List.map_congr_left (f := fun (t : (Nat × Nat)) => 2 ^ (15 - depF fr t.2)) (g := fun (t : (Nat × Nat)) => 2 ^ (15 - deepT fr.length fr.length (treesF fr) t.2)) (fun t ht => by rw [e t ht])]
  refine deep_kraft 15 fr.length fr.length (treesF fr) (treesF_ok fr) (by omega) (by have := treesF_len fr; omega) fun t ht => ?_
  rw [← e t ht]
  exact h15 _ (List.mem_map.2 ⟨t.2, List.mem_range.2 (treesF_of ht).1, rfl⟩)
/-- where there are few in all no length is above 13 -/
theorem fits_few {fr : List Nat} {lim : Nat} (hl : 13 ≤ lim) (hs : ((treesF fr).map (·.1)).sum < 987) : fitsF fr lim = true := by
  refine decide_eq_true fun d hd => ?_
  obtain ⟨i, hi, rfl⟩ := List.mem_map.1 hd
  have hi' := List.mem_range.1 hi
  unfold depF
  split
  · omega
  · split
    · omega
    · have hm := treesF_mem hi' (by omega : 0 < fr.getD i 0)
      have := deep_few (f := fr.length) (treesF_ok fr) (by have := treesF_len fr; omega) (fun t ht => (treesF_of ht).2.2) hs hm
      exact Nat.le_trans this hl
theorem treesF_sum {fr : List Nat} {b : Nat} (h : ∀ i, fr.getD i 0 ≤ b) : ((treesF fr).map (·.1)).sum ≤ fr.length * b := by
  have : ∀ {m : List (Nat × Nat)}, (∀ t ∈ m, t.1 ≤ b) → (m.map (·.1)).sum ≤ m.length * b := by
    intro m hm
    induction m with
    | nil => simp
    | cons v m ih =>
      have := hm v (by simp)
      have := ih (fun t ht => hm t (by simp [ht]))
      simp only [List.map_cons, List.sum_cons, List.length_cons, Nat.add_mul]
      omega
  refine Nat.le_trans (this fun t ht => ?_) (Nat.mul_le_mul_right _ (treesF_len fr))
  rw [(treesF_of ht).2.1]
  exact h _
/-- what comes more often has no longer word -/
theorem dep_order {fr : List Nat} {i k : Nat} (hi : i < fr.length) (hk : k < fr.length) (h0 : 0 < fr.getD k 0) (h : fr.getD k 0 < fr.getD i 0) : depF fr i ≤ depF fr k := by
  have mi := treesF_mem hi (by omega : 0 < fr.getD i 0)
  have mk := treesF_mem hk h0
  have e : ∀ j, 0 < fr.getD j 0 → depF fr j = if (treesF fr).length = 1 then 1 else deepT fr.length fr.length (treesF fr) j := fun j hj => by
    unfold depF
    exact if_neg (by omega)
  rw [e i (by omega), e k h0]
  by_cases h1 : (treesF fr).length = 1
  · rw [if_pos h1, if_pos h1]; exact Nat.le_refl _
  · rw [if_neg h1, if_neg h1]
    exact (deep_order fr.length fr.length (treesF fr) (treesF_ok fr) (by have := treesF_len fr; omega)).1 _ mk _ mi (.inl h)
theorem lensF_first {lim k : Nat} {fr : List Nat} (h : fitsF fr lim = true) : lensF lim k fr = depthsF fr := by
  cases k with
  | zero => rfl
  | succ k => exact if_pos h
end Go.Proofs.Ytpjdlkbpnodcdaa
