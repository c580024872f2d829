/- Merges of two sorted rows in place, by plain lists: where they are cut, and what comes of it. -/
import Derived.Test.YtpjdlkbpnodcdaaPSym
namespace Go.Proofs.Ytpjdlkbpnodcdaa
set_option linter.unusedVariables false

theorem ins_at {k : Nat → Nat} {A : List Nat} {i v : Nat} (hA : Srt k A) (hi : i ≤ A.length) (h1 : i = 0 ∨ ltk k (A.getD (i - 1) 0) v) (h2 : i = A.length ∨ ltk k v (A.getD i 0)) : Srt k (A.take i ++ (v :: A.drop i)) := by
  have hA' : (A.take i ++ A.drop i).Pairwise (ltk k) := by rw [List.take_append_drop]; exact hA
  obtain ⟨s1, s2, s3⟩ := List.pairwise_append.1 hA'
  have lo : ∀ z ∈ A.take i, ltk k z v := fun z hz => by
    obtain ⟨j, j1, j2, rfl⟩ := mem_take hz
    rcases h1 with h1 | h1
    · omega
    · by_cases e : j = i - 1
      · rw [e]; exact h1
      · exact ltk_trans (hA.get (by omega) (by omega)) h1
  have hi' : ∀ z ∈ A.drop i, ltk k v z := fun z hz => by
    obtain ⟨j, j1, j2, rfl⟩ := mem_drop hz
    rcases h2 with h2 | h2
    · omega
    · by_cases e : j = i
      · rw [e]; exact h2
      · exact ltk_trans h2 (hA.get (by omega) (by omega))
  refine List.pairwise_append.2 ⟨s1, List.pairwise_cons.2 ⟨hi', s2⟩, fun u hu z hz => ?_⟩
  rcases List.mem_cons.1 hz with rfl | hz
  · exact lo u hu
  · exact s3 u hu z hz
theorem ins_perm {A : List Nat} (i v : Nat) : (A.take i ++ (v :: A.drop i)).Perm (v :: A) := by
  refine List.perm_middle.trans ?_
  rw [List.take_append_drop]
/-- two rows beside one another, as they come to be merged -/
structure Two (k : Nat → Nat) (I x L R y : List Nat) (a m b len : Nat) : Prop where
  ha : x.length = a
  hm : a + L.length = m
  hb : m + R.length = b
  hL : 0 < L.length
  hR : 0 < R.length
  sL : Srt k L
  sR : Srt k R
  lr : ∀ l ∈ L, ∀ r ∈ R, l < r
  perm : (x ++ (L ++ (R ++ y))).Perm I
  hl : (x ++ (L ++ (R ++ y))).length = len
theorem Two.bound {k : Nat → Nat} {I x L R y : List Nat} {a m b len : Nat} (h : Two k I x L R y a m b len) : a < m ∧ m < b ∧ b ≤ len := by
  obtain ⟨h1, h2, h3, h4, h5, _, _, _, _, h6⟩ := h
  simp only [List.length_append] at h6
  omega
/-- an element of the left one -/
theorem Two.left {k : Nat → Nat} {I x L R y : List Nat} {a m b len : Nat} (h : Two k I x L R y a m b len) {c : Nat} (h1 : a ≤ c) (h2 : c < m) : (x ++ (L ++ (R ++ y))).getD c 0 = L.getD (c - a) 0 := by
  have := h.ha; have := h.hm
  rw [getD_app, if_neg (by omega), getD_app, if_pos (by omega), h.ha]
theorem Two.right {k : Nat → Nat} {I x L R y : List Nat} {a m b len : Nat} (h : Two k I x L R y a m b len) {c : Nat} (h1 : m ≤ c) (h2 : c < b) : (x ++ (L ++ (R ++ y))).getD c 0 = R.getD (c - m) 0 := by
  have := h.ha; have := h.hm; have := h.hb
  rw [getD_app, if_neg (by omega), getD_app, if_neg (by omega), getD_app, if_pos (by omega)]
  congr 1
  omega
theorem Two.lt {k : Nat → Nat} {I x L R y : List Nat} {a m b len : Nat} (h : Two k I x L R y a m b len) {i j : Nat} (hi : i < L.length) (hj : j < R.length) : L.getD i 0 < R.getD j 0 := h.lr _ (getD_mem _ _ hi) _ (getD_mem _ _ hj)
/-- left of one: where it goes -/
theorem Two.low {k : Nat → Nat} {I x L R y : List Nat} {a m b len : Nat} (h : Two k I x L R y a m b len) (h1 : L.length = 1) {p : Nat} (p1 : m ≤ p) (p2 : p ≤ b)
    (q1 : p = m ∨ k ((x ++ (L ++ (R ++ y))).getD (p - 1) 0) < k ((x ++ (L ++ (R ++ y))).getD a 0)) (q2 : p = b ∨ ¬ k ((x ++ (L ++ (R ++ y))).getD p 0) < k ((x ++ (L ++ (R ++ y))).getD a 0)) :
    Srt k (R.take (p - m) ++ (L.getD 0 0 :: R.drop (p - m))) ∧ (R.take (p - m) ++ (L.getD 0 0 :: R.drop (p - m))).Perm (L ++ R) := by
  have hb := h.hb; have hm := h.hm; have ha := h.ha
  have ea : (x ++ (L ++ (R ++ y))).getD a 0 = L.getD 0 0 := by rw [h.left (Nat.le_refl _) (by omega), Nat.sub_self]
  rw [ea] at q1 q2
  constructor
  · refine ins_at h.sR (by omega) ?_ ?_
    · rcases q1 with q1 | q1
      · left; omega
      · by_cases e : p = m
        · left; omega
        · right
          rw [h.right (by omega) (by omega)] at q1
          left
          rwa [show p - m - 1 = p - 1 - m by omega]
    · rcases q2 with q2 | q2
      · left; omega
      · by_cases e : p = b
        · left; omega
        · right
          rw [h.right (by omega) (by omega)] at q2
          have := h.lt (i := 0) (j := p - m) (by omega) (by omega)
          unfold ltk
          omega
  · refine (ins_perm _ _).trans ?_
    match L, h1 with
    | [v], _ => exact List.Perm.refl _
/-- right of one: where it goes -/
theorem Two.high {k : Nat → Nat} {I x L R y : List Nat} {a m b len : Nat} (h : Two k I x L R y a m b len) (h1 : R.length = 1) {p : Nat} (p1 : a ≤ p) (p2 : p ≤ m)
    (q1 : p = a ∨ ¬ k ((x ++ (L ++ (R ++ y))).getD m 0) < k ((x ++ (L ++ (R ++ y))).getD (p - 1) 0)) (q2 : p = m ∨ k ((x ++ (L ++ (R ++ y))).getD m 0) < k ((x ++ (L ++ (R ++ y))).getD p 0)) :
    Srt k (L.take (p - a) ++ (R.getD 0 0 :: L.drop (p - a))) ∧ (L.take (p - a) ++ (R.getD 0 0 :: L.drop (p - a))).Perm (L ++ R) := by
  have hb := h.hb; have hm := h.hm; have ha := h.ha
  have ea : (x ++ (L ++ (R ++ y))).getD m 0 = R.getD 0 0 := by rw [h.right (Nat.le_refl _) (by omega), Nat.sub_self]
  rw [ea] at q1 q2
  constructor
  · refine ins_at h.sL (by omega) ?_ ?_
    · rcases q1 with q1 | q1
      · left; omega
      · by_cases e : p = a
        · left; omega
        · right
          rw [h.left (by omega) (by omega)] at q1
          rw [show p - a - 1 = p - 1 - a by omega]
          have := h.lt (i := p - 1 - a) (j := 0) (by omega) (by omega)
          unfold ltk
          omega
    · rcases q2 with q2 | q2
      · left; omega
      · by_cases e : p = m
        · left; omega
        · right
          rw [h.left (by omega) (by omega)] at q2
          exact .inl q2
  · refine (ins_perm _ _).trans ?_
    match R, h1 with
    | [v], _ => exact (List.perm_append_singleton _ _).symm
/-- where both are cut -/
structure CutAt (k : Nat → Nat) (x L R y : List Nat) (a m b mid s : Nat) : Prop where
  s1 : a ≤ s
  s2 : s ≤ m
  e1 : s ≤ mid
  e2 : mid + m - s ≤ b
  h1 : s - a = 0 ∨ mid - s = R.length ∨ ltk k (L.getD (s - a - 1) 0) (R.getD (mid - s) 0)
  h2 : mid - s = 0 ∨ s - a = L.length ∨ ltk k (R.getD (mid - s - 1) 0) (L.getD (s - a) 0)
theorem Two.cut {k : Nat → Nat} {I x L R y : List Nat} {a m b len : Nat} (h : Two k I x L R y a m b len) {mid s s0 r0 : Nat} (hmid : mid = (a + b) / 2) (hsr : (mid < m ∧ s0 = mid + m - b ∧ r0 = mid) ∨ (m ≤ mid ∧ s0 = a ∧ r0 = m)) (hs0 : s0 ≤ s) (hsr0 : s ≤ r0)
    (q1 : s = s0 ∨ k ((x ++ (L ++ (R ++ y))).getD (s - 1) 0) ≤ k ((x ++ (L ++ (R ++ y))).getD (mid + m - s) 0))
    (q2 : s = r0 ∨ k ((x ++ (L ++ (R ++ y))).getD (mid + m - 1 - s) 0) < k ((x ++ (L ++ (R ++ y))).getD s 0)) : CutAt k x L R y a m b mid s := by
  have hb := h.hb; have hm := h.hm; have ha := h.ha; have hL := h.hL; have hR := h.hR
  have hsa : a ≤ s := by omega
  have hsm : s ≤ m := by omega
  have hse : s ≤ mid := by omega
  have heb : mid + m - s ≤ b := by omega
  refine ⟨hsa, hsm, hse, heb, ?_, ?_⟩
  · rcases q1 with q1 | q1
    · omega
    · by_cases z1 : s - a = 0
      · exact .inl z1
      · by_cases z2 : mid - s = R.length
        · exact .inr (.inl z2)
        · right; right
          rw [h.left (by omega) (by omega), h.right (by omega) (by omega)] at q1
          rw [show mid + m - s - m = mid - s by omega, show s - 1 - a = s - a - 1 by omega] at q1
          have := h.lt (i := s - a - 1) (j := mid - s) (by omega) (by omega)
          unfold ltk
          omega
  · rcases q2 with q2 | q2
    · omega
    · by_cases z1 : mid - s = 0
      · exact .inl z1
      · by_cases z2 : s - a = L.length
        · exact .inr (.inl z2)
        · right; right
          rw [h.right (by omega) (by omega), h.left (by omega) (by omega)] at q2
          rw [show mid + m - 1 - s - m = mid - s - 1 by omega] at q2
          exact .inl q2
/-- the bounds of a comparison in the search -/
theorem Two.search {k : Nat → Nat} {I x L R y : List Nat} {a m b len : Nat} (h : Two k I x L R y a m b len) {mid s0 r0 c : Nat} (hmid : mid = (a + b) / 2) (hsr : (mid < m ∧ s0 = mid + m - b ∧ r0 = mid) ∨ (m ≤ mid ∧ s0 = a ∧ r0 = m)) (h1 : s0 ≤ c) (h2 : c < r0) : c < len ∧ c ≤ mid + m - 1 ∧ mid + m - 1 - c < len := by
  have hb := h.bound; have := h.hb; have := h.hm; have := h.ha
  omega
/-- the two parts that are merged each by itself -/
theorem CutAt.parts {k : Nat → Nat} {I x L R y : List Nat} {a m b len mid s : Nat} (h : Two k I x L R y a m b len) (c : CutAt k x L R y a m b mid s) (hmid : mid = (a + b) / 2) :
    (x ++ (L ++ (R ++ y)) = x ++ (L.take (s - a) ++ (L.drop (s - a) ++ (R.take (mid - s) ++ (R.drop (mid - s) ++ y))))) ∧ (L.take (s - a)).length = s - a ∧ (L.drop (s - a)).length = m - s ∧ (R.take (mid - s)).length = mid - s ∧ (R.drop (mid - s)).length = b - (mid + m - s) := by
  obtain ⟨c1, c2, c3, c4, c5, c6⟩ := c
  have hb := h.hb; have hm := h.hm; have ha := h.ha
  refine ⟨?_, by rw [List.length_take]; omega, by rw [List.length_drop]; omega, by rw [List.length_take]; omega, by rw [List.length_drop]; omega⟩
  rw [← List.append_assoc (L.take (s - a)), List.take_append_drop, ← List.append_assoc (R.take (mid - s)), List.take_append_drop]
theorem CutAt.done {k : Nat → Nat} {I x L R y : List Nat} {a m b len mid s : Nat} (h : Two k I x L R y a m b len) (c : CutAt k x L R y a m b mid s) {S1 S2 : List Nat} (p1 : S1.Perm (L.take (s - a) ++ R.take (mid - s))) (p2 : S2.Perm (L.drop (s - a) ++ R.drop (mid - s))) (s1 : Srt k S1) (s2 : Srt k S2) :
    (S1 ++ S2).Perm (L ++ R) ∧ Srt k (S1 ++ S2) := by
  have hb := h.hb; have hm := h.hm; have ha := h.ha
  obtain ⟨c1, c2, c3, c4, c5, c6⟩ := c
  exact merged p1 p2 s1 s2 h.sL h.sR (sym_cut h.sL h.sR (by omega) (by omega) c5 c6)
end Go.Proofs.Ytpjdlkbpnodcdaa
