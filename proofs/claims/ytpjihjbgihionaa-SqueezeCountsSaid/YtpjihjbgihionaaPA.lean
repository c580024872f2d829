/- Rows sorted in place: swaps of ranges, rotations, merges of two sorted rows, by plain lists. -/
import Derived.Test.YtpjihjbgihionaaG1
import Derived.Test.YtpjihjbgihionaaJ1
import Derived.BigRegion
namespace Go.Proofs.Ytpjihjbgihionaa
set_option linter.unusedVariables false

def swp (d : List Nat) (i j : Nat) : List Nat := (d.set i (d.getD j 0)).set j (d.getD i 0)
theorem swp_len (d : List Nat) (i j : Nat) : (swp d i j).length = d.length := by simp [swp]
theorem swp_getD (d : List Nat) (i j k : Nat) (hi : i < d.length) (hj : j < d.length) : (swp d i j).getD k 0 = if j = k then d.getD i 0 else if i = k then d.getD j 0 else d.getD k 0 := by
  unfold swp
  rw [getD_set _ _ _ _ (by rw [List.length_set]; exact hj), getD_set _ _ _ _ hi]
/-- n cells from a on against those from b on -/
def swpR (d : List Nat) (a b n : Nat) : List Nat := (List.range d.length).map fun j => if a ≤ j ∧ j < a + n then d.getD (j - a + b) 0 else if b ≤ j ∧ j < b + n then d.getD (j - b + a) 0 else d.getD j 0
theorem swpR_len (d : List Nat) (a b n : Nat) : (swpR d a b n).length = d.length := by simp [swpR]
theorem swpR_getD (d : List Nat) (a b n k : Nat) (h : k < d.length) : (swpR d a b n).getD k 0 = if a ≤ k ∧ k < a + n then d.getD (k - a + b) 0 else if b ≤ k ∧ k < b + n then d.getD (k - b + a) 0 else d.getD k 0 := map_range_getD _ _ _ h
theorem swpR_zero (d : List Nat) (a b : Nat) : swpR d a b 0 = d := by
  refine getD_ext d.length (swpR_len _ _ _ _) rfl fun k hk => ?_
  rw [swpR_getD _ _ _ _ _ hk, if_neg (by omega), if_neg (by omega)]
theorem swpR_step (d : List Nat) (a b n i : Nat) (hab : a + n ≤ b) (hb : b + n ≤ d.length) (hi : i < n) : swp (swpR d a b i) (a + i) (b + i) = swpR d a b (i + 1) := by
  refine getD_ext d.length (by rw [swp_len, swpR_len]) (swpR_len _ _ _ _) fun k hk => ?_
  rw [swp_getD _ _ _ _ (by rw [swpR_len]; omega) (by rw [swpR_len]; omega), swpR_getD _ _ _ _ _ hk, swpR_getD _ _ _ _ _ hk, swpR_getD _ _ _ _ _ (by omega), swpR_getD _ _ _ _ _ (by omega)]
  repeat' split
  all_goals first | omega | (congr 1; omega) | rfl
theorem swpR_parts (x u y v z : List Nat) (n b : Nat) (hu : u.length = n) (hv : v.length = n) (hb : b = x.length + n + y.length) : swpR (x ++ (u ++ (y ++ (v ++ z)))) x.length b n = x ++ (v ++ (y ++ (u ++ z))) := by
  subst hb
  refine getD_ext (x ++ (u ++ (y ++ (v ++ z)))).length (swpR_len _ _ _ _) (by simp; omega) fun k hk => ?_
  rw [swpR_getD _ _ _ _ _ hk]
  simp only [List.length_append] at hk
  simp only [getD_app]
  repeat' split
  all_goals first | omega | (congr 1; omega) | rfl
/-! ### sorted rows -/
/-- by what k tells, then by the number -/
def ltk (k : Nat → Nat) (x y : Nat) : Prop := k x < k y ∨ (k x = k y ∧ x < y)
theorem ltk_trans {k : Nat → Nat} {x y z : Nat} (h1 : ltk k x y) (h2 : ltk k y z) : ltk k x z := by unfold ltk at *; omega
/-- each is ahead of all behind it -/
def Srt (k : Nat → Nat) (L : List Nat) : Prop := L.Pairwise (ltk k)
theorem Srt.get {k : Nat → Nat} {L : List Nat} (h : Srt k L) {i j : Nat} (hij : i < j) (hj : j < L.length) : ltk k (L.getD i 0) (L.getD j 0) := by
  have := List.pairwise_iff_getElem.1 h i j (by omega) hj hij
  rwa [List.getD_eq_getElem?_getD, List.getElem?_eq_getElem (by omega), List.getD_eq_getElem?_getD, List.getElem?_eq_getElem hj]
theorem mem_getD {L : List Nat} {x : Nat} (h : x ∈ L) : ∃ i, i < L.length ∧ x = L.getD i 0 := by
  obtain ⟨i, hi, rfl⟩ := List.getElem_of_mem h
  exact ⟨i, hi, by rw [List.getD_eq_getElem?_getD, List.getElem?_eq_getElem hi]; rfl⟩
theorem mem_take {L : List Nat} {x n : Nat} (h : x ∈ L.take n) : ∃ i, i < L.length ∧ i < n ∧ x = L.getD i 0 := by
  obtain ⟨i, hi, rfl⟩ := mem_getD h
  rw [List.length_take] at hi
  exact ⟨i, by omega, by omega, getD_take _ _ _ (by omega)⟩
theorem mem_drop {L : List Nat} {x n : Nat} (h : x ∈ L.drop n) : ∃ i, i < L.length ∧ n ≤ i ∧ x = L.getD i 0 := by
  obtain ⟨i, hi, rfl⟩ := mem_getD h
  rw [List.length_drop] at hi
  exact ⟨n + i, by omega, by omega, getD_drop _ _ _⟩
/-- where two sorted rows are cut -/
theorem sym_cut {k : Nat → Nat} {L R : List Nat} {i j : Nat} (hL : Srt k L) (hR : Srt k R) (hi : i ≤ L.length) (hj : j ≤ R.length)
    (h1 : i = 0 ∨ j = R.length ∨ ltk k (L.getD (i - 1) 0) (R.getD j 0)) (h2 : j = 0 ∨ i = L.length ∨ ltk k (R.getD (j - 1) 0) (L.getD i 0)) :
    (∀ l ∈ L.take i, ∀ r ∈ R.drop j, ltk k l r) ∧ (∀ r ∈ R.take j, ∀ l ∈ L.drop i, ltk k r l) := by
  have key : ∀ {A B : List Nat} {i j : Nat}, Srt k A → Srt k B → i ≤ A.length → j ≤ B.length → (i = 0 ∨ j = B.length ∨ ltk k (A.getD (i - 1) 0) (B.getD j 0)) → ∀ l ∈ A.take i, ∀ r ∈ B.drop j, ltk k l r := by
    intro A B i j hA hB hi hj h l hl r hr
    obtain ⟨p, p1, p2, rfl⟩ := mem_take hl
    obtain ⟨q, q1, q2, rfl⟩ := mem_drop hr
    rcases h with h | h | h
    · omega
    · omega
    · have e1 : ltk k (A.getD p 0) (B.getD j 0) := by
        by_cases e : p = i - 1
        · rw [e]; exact h
        · exact ltk_trans (hA.get (by omega) (by omega)) h
      by_cases e : q = j
      · rw [e]; exact e1
      · exact ltk_trans e1 (hB.get (by omega) q1)
  exact ⟨key hL hR hi hj h1, key hR hL hj hi h2⟩
theorem merged {k : Nat → Nat} {L R S1 S2 : List Nat} {i j : Nat} (p1 : S1.Perm (L.take i ++ R.take j)) (p2 : S2.Perm (L.drop i ++ R.drop j)) (s1 : Srt k S1) (s2 : Srt k S2) (hL : Srt k L) (hR : Srt k R)
    (h : (∀ l ∈ L.take i, ∀ r ∈ R.drop j, ltk k l r) ∧ (∀ r ∈ R.take j, ∀ l ∈ L.drop i, ltk k r l)) : (S1 ++ S2).Perm (L ++ R) ∧ Srt k (S1 ++ S2) := by
  constructor
  · refine (p1.append p2).trans ?_
    have e : (L.take i ++ R.take j ++ (L.drop i ++ R.drop j)).Perm ((L.take i ++ L.drop i) ++ (R.take j ++ R.drop j)) := by
      simp only [List.append_assoc]
      refine List.Perm.append_left _ ?_
      rw [← List.append_assoc, ← List.append_assoc]
      exact List.Perm.append_right _ List.perm_append_comm
    rwa [List.take_append_drop, List.take_append_drop] at e
  · refine List.pairwise_append.2 ⟨s1, s2, fun u hu v hv => ?_⟩
    have hL' : (L.take i ++ L.drop i).Pairwise (ltk k) := by rw [List.take_append_drop]; exact hL
    have hR' : (R.take j ++ R.drop j).Pairwise (ltk k) := by rw [List.take_append_drop]; exact hR
    rcases List.mem_append.1 (p1.subset hu) with h1 | h1 <;> rcases List.mem_append.1 (p2.subset hv) with h2 | h2
    · exact (List.pairwise_append.1 hL').2.2 u h1 v h2
    · exact h.1 u h1 v h2
    · exact h.2 u h1 v h2
    · exact (List.pairwise_append.1 hR').2.2 u h1 v h2
theorem srt_take {k : Nat → Nat} {L : List Nat} (h : Srt k L) (n : Nat) : Srt k (L.take n) := h.sublist (List.take_sublist _ _)
theorem srt_drop {k : Nat → Nat} {L : List Nat} (h : Srt k L) (n : Nat) : Srt k (L.drop n) := h.sublist (List.drop_sublist _ _)
/-- where one of two is empty nothing is to be merged -/
theorem srt_app {k : Nat → Nat} {A B : List Nat} (hA : Srt k A) (hB : Srt k B) (h : A.length = 0 ∨ B.length = 0) : Srt k (A ++ B) := by
  rcases h with h | h
  · rw [List.eq_nil_of_length_eq_zero h]; exact hB
  · rw [List.eq_nil_of_length_eq_zero h, List.append_nil]; exact hA
/-- what is turned round where it stands: one element and those behind it -/
theorem swp_next (x : List Nat) (v r : Nat) (z : List Nat) (i : Nat) (hi : i = x.length) : swp (x ++ (v :: r :: z)) i (i + 1) = x ++ (r :: v :: z) := by
  subst hi
  refine getD_ext (x ++ (v :: r :: z)).length (swp_len _ _ _) (by simp) fun k hk => ?_
  rw [swp_getD _ _ _ _ (by simp) (by simp)]
  simp only [List.length_append, List.length_cons] at hk
  simp only [getD_app]
  rcases Nat.lt_trichotomy k x.length with h | h | h
  · rw [if_neg (by omega), if_neg (by omega), if_pos h, if_pos h]
  · subst h
    rw [if_neg (by omega), if_pos rfl, if_neg (by omega), if_neg (by omega), Nat.add_sub_cancel_left, Nat.sub_self]
    rfl
  · obtain ⟨e, rfl⟩ : ∃ e, k = x.length + 1 + e := ⟨k - x.length - 1, by omega⟩
    cases e with
    | zero =>
      rw [if_pos rfl, if_neg (by omega), if_neg (by omega), Nat.add_zero, Nat.add_sub_cancel_left, Nat.sub_self]
      rfl
    | succ e =>
      rw [if_neg (by omega), if_neg (by omega), if_neg (by omega), if_neg (by omega), show x.length + 1 + (e + 1) - x.length = e + 2 by omega]
      rfl
theorem swp_comm (d : List Nat) (i j : Nat) (hi : i < d.length) (hj : j < d.length) : swp d i j = swp d j i := by
  refine getD_ext d.length (swp_len _ _ _) (swp_len _ _ _) fun k hk => ?_
  rw [swp_getD _ _ _ _ hi hj, swp_getD _ _ _ _ hj hi]
  by_cases h1 : j = k <;> by_cases h2 : i = k
  · subst h1; subst h2; rfl
  · rw [if_pos h1, if_neg h2, if_pos h1]
  · rw [if_neg h1, if_pos h2, if_pos h2]
  · rw [if_neg h1, if_neg h2, if_neg h2, if_neg h1]
theorem swp_back (x : List Nat) (v r : Nat) (z : List Nat) (i j : Nat) (hi : i = x.length) (hj : j = i + 1) : swp (x ++ (v :: r :: z)) j i = x ++ (r :: v :: z) := by
  subst hj
  rw [swp_comm _ _ _ (by simp; omega) (by simp; omega)]
  exact swp_next x v r z i hi
/-- what cmp tells of two -/
def cmpN (a b : Nat) : Int := if a < b then -1 else if b < a then 1 else 0
theorem cmpN_lt {a b : Nat} : cmpN a b < 0 ↔ a < b := by unfold cmpN; repeat (first | omega | split)
/-- a row in whose part behind x, before y, the elements of B stand in order -/
theorem ins_out {k : Nat → Nat} {B : List Nat} (hB : B.Pairwise (· < ·)) {i : Nat} (hi : i < B.length) {P1 P2 : List Nat} (hp : (P1 ++ P2).Perm (B.take i)) (hs : Srt k (P1 ++ P2)) (h2 : ∀ z ∈ P2, ltk k (B.getD i 0) z)
    (h1 : P1 = [] ∨ ∃ P p, P1 = P ++ [p] ∧ ¬ k (B.getD i 0) < k p) : (P1 ++ (B.getD i 0 :: P2)).Perm (B.take (i + 1)) ∧ Srt k (P1 ++ (B.getD i 0 :: P2)) := by
  have hm : ∀ z ∈ P1 ++ P2, z < B.getD i 0 := fun z hz => by
    obtain ⟨j, j1, j2, rfl⟩ := mem_take (hp.subset hz)
    have := List.pairwise_iff_getElem.1 hB j i j1 hi j2
    rwa [List.getD_eq_getElem?_getD, List.getElem?_eq_getElem j1, List.getD_eq_getElem?_getD, List.getElem?_eq_getElem hi]
  have hlow : ∀ z ∈ P1, ltk k z (B.getD i 0) := by
    rcases h1 with rfl | ⟨P, p, rfl, h⟩
    · intro z hz; cases hz
    · have hl : ltk k p (B.getD i 0) := by
        have := hm p (by simp)
        unfold ltk
        omega
      intro z hz
      rcases List.mem_append.1 hz with hz | hz
      · refine ltk_trans ?_ hl
        have := (List.pairwise_append.1 (List.pairwise_append.1 hs).1).2.2 z hz p (by simp)
        exact this
      · rw [List.mem_singleton.1 hz]; exact hl
  obtain ⟨s1, s2, s3⟩ := List.pairwise_append.1 hs
  constructor
  · rw [take_snoc B i hi]
    refine (List.perm_middle).trans ?_
    refine ((List.Perm.cons _ hp)).trans ?_
    exact (List.perm_append_singleton _ _).symm
  · refine List.pairwise_append.2 ⟨s1, List.pairwise_cons.2 ⟨h2, s2⟩, fun u hu v hv => ?_⟩
    rcases List.mem_cons.1 hv with rfl | hv
    · exact hlow u hu
    · exact s3 u hu v hv
end Go.Proofs.Ytpjihjbgihionaa
namespace Go.Proofs.Ytpjihjbgihionaa
open Go.RowKit
set_option linter.unusedVariables false

/-- a pointer to the whole of a block -/
def pv (b : Nat) : Value := .pointer (some ⟨b, 0, none⟩)
def ptrs (N : Nat → Nat) (d : List Nat) : List Value := d.map fun x => pv (N x)
theorem ptrs_len (N : Nat → Nat) (d : List Nat) : (ptrs N d).length = d.length := by simp [ptrs]
theorem ptrs_get (N : Nat → Nat) (d : List Nat) (rest : List Value) {j : Nat} (h : j < d.length) : (ptrs N d ++ rest)[j]? = some (pv (N (d.getD j 0))) := by
  rw [List.getElem?_append_left (by rw [ptrs_len]; exact h)]
  unfold ptrs
  rw [List.getElem?_map, List.getElem?_eq_getElem h]
  simp [h]
theorem ptrs_set (N : Nat → Nat) (d : List Nat) (rest : List Value) {j : Nat} (h : j < d.length) (x : Nat) : (ptrs N d ++ rest).set j (pv (N x)) = ptrs N (d.set j x) ++ rest := by
  rw [List.set_append_left _ _ (by rw [ptrs_len]; exact h)]
  unfold ptrs
  rw [List.map_set]
theorem Blk.ptr {w : World} {g : Nat} {t : TypeId} {N : Nat → Nat} {d : List Nat} {rest : List Value} (h : Blk w g t (ptrs N d ++ rest)) {j : Nat} (hj : j < d.length) : w.cell? ⟨g, j, none⟩ = some (pv (N (d.getD j 0))) := by
  rw [h.cell, ptrs_get _ _ _ hj]
theorem Turned.refl {w : World} {R : Nat} {t : TypeId} {vs : List Value} (h : Blk w R t vs) : Turned w w R t vs := Turned.of_below (Below.refl _ _) h
theorem Turned.trans {w w1 w2 : World} {R : Nat} {t : TypeId} {vs vs' : List Value} (h : Turned w w1 R t vs) (k : Turned w1 w2 R t vs') : Turned w w2 R t vs' := ⟨h.1.trans k.1, k.2⟩
theorem Turned.drewN {w w1 : World} {R : Nat} {t : TypeId} {vs : List Value} (h : Turned w w1 R t vs) (n : Nat) : Turned w (w1.drewN n) R t vs := ⟨⟨h.1.os, h.1.tape, h.1.output, h.1.size, h.1.block⟩, h.2⟩
theorem Turned.drew {w w1 : World} {R : Nat} {t : TypeId} {vs : List Value} (h : Turned w w1 R t vs) : Turned w w1.drew R t vs := h.drewN 1
theorem Turned.put {w w1 : World} {R : Nat} {t : TypeId} {vs : List Value} (h : Turned w w1 R t vs) (j : Nat) (v : Value) : Turned w (w1.setCell ⟨R, j, none⟩ v) R t (vs.set j v) := ⟨h.1.trans (grown_setCell w1 ⟨R, j, none⟩ v), h.2.set j v⟩
/-- two are exchanged -/
theorem Turned.swap {w w1 : World} {g : Nat} {t : TypeId} {N : Nat → Nat} {d : List Nat} {rest : List Value} (h : Turned w w1 g t (ptrs N d ++ rest)) {i j : Nat} (hi : i < d.length) (hj : j < d.length) :
    Turned w (((w1.setCell ⟨g, i, none⟩ (pv (N (d.getD j 0)))).setCell ⟨g, j, none⟩ (pv (N (d.getD i 0)))).drew) g t (ptrs N (swp d i j) ++ rest) := by
  have h2 := ((h.put i (pv (N (d.getD j 0)))).put j (pv (N (d.getD i 0)))).drew
  rwa [ptrs_set _ _ _ hi, ptrs_set _ _ _ (by rw [List.length_set]; exact hj)] at h2
theorem swap_free {w : World} {g : Nat} {t : TypeId} {vs : List Value} (h : Blk w g t vs) (i j : Nat) (v : Value) : (w.setCell ⟨g, i, none⟩ v).frozen? ⟨g, j, none⟩ = false := (h.set i v).free j
theorem swap_some {w : World} {g : Nat} {t : TypeId} {vs : List Value} (h : Blk w g t vs) {i j : Nat} (hj : j < vs.length) (v : Value) : ∃ u, (w.setCell ⟨g, i, none⟩ v).cell? ⟨g, j, none⟩ = some u := by
  rw [(h.set i v).cell]
  exact ⟨_, List.getElem?_eq_getElem (by rw [List.length_set]; exact hj)⟩
set_option maxRecDepth 100000 in
set_option maxHeartbeats 2000000 in
theorem z_swap (g cap len a b n : Nat) (N : Nat → Nat) (d : List Nat) (rest : List Value) (fv : Value) (w : World) (hd : d.length = len) (hB : Blk w g 131 (ptrs N d ++ rest)) (hab : a + n ≤ b) (hb : b + n ≤ len) (hl : len ≤ 1000000) :
    Calls Try.prog 103 #[.slice (some ⟨g, 0, none⟩) len cap, .int .i64 (a : Int), .int .i64 (b : Int), .int .i64 (n : Int), fv] w fun e w' => e = .returned (.tuple #[]) ∧ Turned w w' g 131 (ptrs N (swpR d a b n) ++ rest) := by
  subst hd
  have hT := Turned.refl hB
  rw [← swpR_zero d a b] at hT
  have hT := Lib.hid hT
  have hR := Lib.hid hB
  clear hB
  go_enter Try.func103, Try.ntmps103
  go_wp2
  go_loopw [10] (fun i wr => ∃ j : Nat, j ≤ n ∧ i = .int .i64 (j : Int) ∧ Turned w wr g 131 (ptrs N (swpR d a b j) ++ rest)) (fun i _ => n - (intOf i).toNat)
  case atStart => exact ⟨0, by omega, rfl, hT.out⟩
  case round =>
    obtain ⟨j, hj, rfl, gt⟩ := hrel
    clear hT hR
    by_cases hlt : j < n
    · have d1 : (j : Int) < (n : Int) := by omega
      have hstep := swpR_step d a b n j hab hb hlt
      have HST := Lib.hid hstep
      have hlen := swpR_len d a b j
      clear hstep
      generalize swpR d a b j = D at *
      obtain ⟨p, hp⟩ : ∃ p, a + j = p := ⟨_, rfl⟩
      obtain ⟨q, hq⟩ : ∃ q, b + j = q := ⟨_, rfl⟩
      have e1 : ((a : Int) + (j : Int)).toNat = p := by omega
      have e2 : ((b : Int) + (j : Int)).toNat = q := by omega
      have i1 : (0 : Int) ≤ (a : Int) + (j : Int) := by omega
      have i2 : (0 : Int) ≤ (b : Int) + (j : Int) := by omega
      have b1 : (a : Int) + (j : Int) < (d.length : Int) := by omega
      have b2 : (b : Int) + (j : Int) < (d.length : Int) := by omega
      have w1 : IntKind.i64.wrap ((a : Int) + (j : Int)) = (a : Int) + (j : Int) := IntWalk.i64_in _ (by omega)
      have w2 : IntKind.i64.wrap ((b : Int) + (j : Int)) = (b : Int) + (j : Int) := IntWalk.i64_in _ (by omega)
      have hpl : p < D.length := by omega
      have hql : q < D.length := by omega
      have T2 := gt.swap hpl hql
      rw [← hp, ← hq, HST.out, hp, hq] at T2
      have c1 := gt.2.ptr hpl
      have c2 := gt.2.ptr hql
      have f1 := gt.2.free p
      have f2 := gt.2.free q
      generalize D.getD p 0 = X at *
      generalize D.getD q 0 = Y at *
      obtain ⟨u, c3⟩ := swap_some gt.2 (i := p) (j := q) (by rw [List.length_append, ptrs_len]; omega) (pv (N Y))
      have f3 := swap_free gt.2 p q (pv (N Y))
      generalize N X = bx at *
      generalize N Y = by' at *
      simp only [pv] at c1 c2 c3 f3 T2
      have T2 := Lib.hid T2
      clear hp hq hlen gt HST hpl hql
      go_wp2_with fail
      go_big_region
      all_goals go_wp2
      go_roundw
      case rel => exact ⟨j + 1, by omega, by go_num, T2.out⟩
      case measure => simp [intOf]; omega
    · obtain rfl : j = n := by omega
      go_wp2
      go_end0
      exact ⟨rfl, gt⟩
end Go.Proofs.Ytpjihjbgihionaa
namespace Go.Proofs.Ytpjihjbgihionaa
open Go.RowKit
set_option linter.unusedVariables false

/-- how far a rotation is -/
def RotAt (x u v y : List Nat) (len m i j : Nat) (d : List Nat) : Prop := ∃ x' u' v' y' : List Nat, d = x' ++ (u' ++ (v' ++ y')) ∧ u'.length = i ∧ v'.length = j ∧ x'.length + i = m ∧ d.length = len ∧ x' ++ (v' ++ (u' ++ y')) = x ++ (v ++ (u ++ y))
theorem RotAt.gtr {x u v y : List Nat} {len m i j : Nat} {d : List Nat} (h : RotAt x u v y len m i j d) (hij : j < i) : RotAt x u v y len m (i - j) j (swpR d (m - i) m j) := by
  obtain ⟨x', u', v', y', rfl, hu, hv, hm, hl, e⟩ := h
  have hs : u' = u'.take j ++ u'.drop j := (List.take_append_drop _ _).symm
  have l1 : (u'.take j).length = j := by rw [List.length_take]; omega
  have l2 : (u'.drop j).length = i - j := by rw [List.length_drop]; omega
  generalize u'.take j = u1 at *
  generalize u'.drop j = u2 at *
  subst hs
  have hp := swpR_parts x' u1 u2 v' y' j m l1 hv (by rw [List.length_append] at hu; omega)
  rw [show m - i = x'.length by omega]
  simp only [List.append_assoc] at *
  rw [hp]
  refine ⟨x' ++ v', u2, u1, y', by simp, l2, l1, by rw [List.length_append]; omega, ?_, by simpa using e⟩
  rw [← hl]
  simp only [List.length_append]
  omega
theorem RotAt.lss {x u v y : List Nat} {len m i j : Nat} {d : List Nat} (h : RotAt x u v y len m i j d) (hij : i < j) : RotAt x u v y len m i (j - i) (swpR d (m - i) (m + j - i) i) := by
  obtain ⟨x', u', v', y', rfl, hu, hv, hm, hl, e⟩ := h
  have hs : v' = v'.take (j - i) ++ v'.drop (j - i) := (List.take_append_drop _ _).symm
  have l1 : (v'.take (j - i)).length = j - i := by rw [List.length_take]; omega
  have l2 : (v'.drop (j - i)).length = i := by rw [List.length_drop]; omega
  generalize v'.take (j - i) = v1 at *
  generalize v'.drop (j - i) = v2 at *
  subst hs
  have hp := swpR_parts x' u' v1 v2 y' i (m + j - i) hu l2 (by omega)
  rw [show m - i = x'.length by omega]
  simp only [List.append_assoc] at *
  rw [hp]
  refine ⟨x', v2, v1, u' ++ y', by simp, l2, l1, hm, ?_, by simpa using e⟩
  rw [← hl]
  simp only [List.length_append]
  omega
theorem RotAt.same {x u v y : List Nat} {len m i : Nat} {d : List Nat} (h : RotAt x u v y len m i i d) : swpR d (m - i) m i = x ++ (v ++ (u ++ y)) := by
  obtain ⟨x', u', v', y', rfl, hu, hv, hm, hl, e⟩ := h
  have hp := swpR_parts x' u' [] v' y' i m hu hv (by simp; omega)
  rw [show m - i = x'.length by omega]
  simp only [List.nil_append] at hp
  rw [hp, e]
theorem RotAt.bound {x u v y : List Nat} {len m i j : Nat} {d : List Nat} (h : RotAt x u v y len m i j d) : i ≤ m ∧ m + j ≤ len ∧ d.length = len := by
  obtain ⟨x', u', v', y', rfl, hu, hv, hm, hl, e⟩ := h
  simp only [List.length_append] at hl ⊢
  omega
set_option maxRecDepth 100000 in
set_option maxHeartbeats 2000000 in
theorem z_rot (g cap len a m b : Nat) (N : Nat → Nat) (x u v y : List Nat) (rest : List Value) (fv : Value) (w : World) (hd : (x ++ (u ++ (v ++ y))).length = len) (ha : x.length = a) (hm : a + u.length = m) (hb : m + v.length = b) (hu : 0 < u.length) (hv : 0 < v.length)
    (hB : Blk w g 131 (ptrs N (x ++ (u ++ (v ++ y))) ++ rest)) (hl : len ≤ 1000000) :
    Calls Try.prog 102 #[.slice (some ⟨g, 0, none⟩) len cap, .int .i64 (a : Int), .int .i64 (m : Int), .int .i64 (b : Int), fv] w fun e w' => e = .returned (.tuple #[]) ∧ Turned w w' g 131 (ptrs N (x ++ (v ++ (u ++ y))) ++ rest) := by
  have hT := Turned.refl hB
  have h0 : RotAt x u v y len m u.length v.length (x ++ (u ++ (v ++ y))) := ⟨x, u, v, y, rfl, rfl, rfl, by omega, hd, rfl⟩
  have hT := Lib.hid hT
  have h0 := Lib.hid h0
  generalize hul : u.length = lu at *
  generalize hvl : v.length = lv at *
  have i1 : (a : Int) ≤ (m : Int) := by omega
  have i2 : (m : Int) ≤ (b : Int) := by omega
  have i3 : (b : Int) ≤ 1000000 := by have := h0.out.bound; omega
  have e1 : (m : Int) - (a : Int) = (lu : Int) := by omega
  have e2 : (b : Int) - (m : Int) = (lv : Int) := by omega
  clear hB hd ha hm hb hul hvl
  go_enter Try.func102, Try.ntmps102
  go_wp2
  clear e1 e2
  go_loopw [10, 11] (fun i j wr => ∃ (p q : Nat) (D : List Nat), i = .int .i64 (p : Int) ∧ j = .int .i64 (q : Int) ∧ 0 < p ∧ 0 < q ∧ RotAt x u v y len m p q D ∧ Turned w wr g 131 (ptrs N D ++ rest)) (fun i j _ => (intOf i).toNat + (intOf j).toNat)
  case atStart => exact ⟨lu, lv, _, rfl, rfl, hu, hv, h0.out, hT.out⟩
  case round =>
    obtain ⟨p, q, D, rfl, rfl, hp, hq, hA, gt⟩ := hrel
    clear hT h0
    obtain ⟨q1, q2, q3⟩ := hA.bound
    obtain ⟨c1, hc1⟩ : ∃ c, m - p = c := ⟨_, rfl⟩
    have e1 : (m : Int) - (p : Int) = (c1 : Int) := by omega
    have j1 : (p : Int) ≤ (m : Int) := by omega
    have j2 : (m : Int) ≤ 1000000 := by omega
    have j3 : (q : Int) ≤ 1000000 := by omega
    rcases Nat.lt_trichotomy p q with h | h | h
    · have k1 : ((p : Int) == (q : Int)) = false := by rw [beq_eq_false_iff_ne]; omega
      have k2 : ((p : Int) != (q : Int)) = true := by rw [bne_iff_ne]; omega
      have k3 : decide (q < p) = false := by simp; omega
      have k4 : decide ((q : Int) < (p : Int)) = false := by simp; omega
      obtain ⟨c2, hc2⟩ : ∃ c, m + q - p = c := ⟨_, rfl⟩
      have e2 : (m : Int) + (q : Int) - (p : Int) = (c2 : Int) := by omega
      have hA2 := hA.lss h
      have hS := z_swap g cap len c1 c2 p N D rest fv wr q3 gt.2 (by omega) (by omega) hl
      rw [hc1, hc2] at hA2
      obtain ⟨r, hr⟩ : ∃ r, q - p = r := ⟨_, rfl⟩
      rw [hr] at hA2
      have e3 : (q : Int) - (p : Int) = (r : Int) := by omega
      have hr0 : 0 < r ∧ r < q := by omega
      have HS := Lib.hid hS
      have HA := Lib.hid hA2
      clear hS hA2 hA hc1 hc2 hr q3
      go_wp2_with fail
      (with_reducible refine HS.out.mono ?_)
      rintro e w9 ⟨rfl, ht9⟩
      have T9 := gt.trans ht9
      clear e1 e2 HS ht9
      go_wp2
      go_roundw
      case rel => exact ⟨p, r, _, rfl, by rw [← e3], hp, hr0.1, HA.out, T9⟩
      case measure => simp [intOf]; omega
    · subst h
      have k1 : ((p : Int) == (p : Int)) = true := by simp
      have k2 : ((p : Int) != (p : Int)) = false := by simp
      have hA2 := hA.same
      have hS := z_swap g cap len c1 m p N D rest fv wr q3 gt.2 (by omega) (by omega) hl
      rw [hc1] at hA2
      rw [hA2] at hS
      have HS := Lib.hid hS
      clear hS hA2 hA hc1 q3
      go_wp2_with fail
      (with_reducible refine HS.out.mono ?_)
      rintro e w9 ⟨rfl, ht9⟩
      have T9 := gt.trans ht9
      go_wp2
      go_end0
      exact ⟨rfl, T9⟩
    · have k1 : ((p : Int) == (q : Int)) = false := by rw [beq_eq_false_iff_ne]; omega
      have k2 : ((p : Int) != (q : Int)) = true := by rw [bne_iff_ne]; omega
      have k3 : decide (q < p) = true := by simp; omega
      have k4 : decide ((q : Int) < (p : Int)) = true := by simp; omega
      have hA2 := hA.gtr h
      have hS := z_swap g cap len c1 m q N D rest fv wr q3 gt.2 (by omega) (by omega) hl
      rw [hc1] at hA2
      obtain ⟨r, hr⟩ : ∃ r, p - q = r := ⟨_, rfl⟩
      rw [hr] at hA2
      have e3 : (p : Int) - (q : Int) = (r : Int) := by omega
      have hr0 : 0 < r ∧ r < p := by omega
      have HS := Lib.hid hS
      have HA := Lib.hid hA2
      clear hS hA2 hA hc1 hr q3
      go_wp2_with fail
      (with_reducible refine HS.out.mono ?_)
      rintro e w9 ⟨rfl, ht9⟩
      have T9 := gt.trans ht9
      clear e1 HS ht9
      go_wp2
      go_roundw
      case rel => exact ⟨r, q, _, by rw [← e3], rfl, hr0.1, hq, HA.out, T9⟩
      case measure => simp [intOf]; omega
end Go.Proofs.Ytpjihjbgihionaa
namespace Go.Proofs.Ytpjihjbgihionaa
open Go.RowKit
set_option linter.unusedVariables false

/-- a tree's cells -/
def node (wt s : Nat) (l r : Value) : List Value := [.int .i64 (wt : Int), .int .i64 (s : Int), l, r]
/-- a leaf's -/
def leafN (wt s : Nat) : List Value := node wt s (.pointer none) (.pointer none)
theorem z_nan (x : Int) (w : World) : Calls Try.prog 99 #[.int .i64 x] w fun e w' => e = .returned (.bool false) ∧ w = w' := by
  have h1 : (x != x) = false := by simp
  go_enter Try.func99, Try.ntmps99
  go_wp2
  go_ret
  exact ⟨rfl, rfl⟩
theorem z_compare (a b : Nat) (w : World) : Calls Try.prog 94 #[.int .i64 (a : Int), .int .i64 (b : Int)] w fun e w' => e = .returned (.int .i64 (cmpN a b)) ∧ w = w' := by
  have hN := z_nan
  have HN := Lib.hid hN
  clear hN
  rcases Nat.lt_trichotomy a b with h | h | h
  · have d1 : decide (a < b) = true := by simp; omega
    have d2 : decide ((a : Int) < (b : Int)) = true := by simp; omega
    have e : cmpN a b = -1 := by unfold cmpN; rw [if_pos h]
    rw [e]
    clear e h
    go_enter Try.func94, Try.ntmps94
    go_wp2_with (go_at_call 99; (with_reducible refine (HN.out _ _).mono ?_); rintro e w9 ⟨rfl, rfl⟩)
    go_ret
    exact ⟨rfl, rfl⟩
  · subst h
    have d1 : decide (a < a) = false := by simp
    have d2 : decide ((a : Int) < (a : Int)) = false := by simp
    have e : cmpN a a = 0 := by unfold cmpN; rw [if_neg (by omega), if_neg (by omega)]
    rw [e]
    clear e
    go_enter Try.func94, Try.ntmps94
    go_wp2_with (go_at_call 99; (with_reducible refine (HN.out _ _).mono ?_); rintro e w9 ⟨rfl, rfl⟩)
    go_ret
    exact ⟨rfl, rfl⟩
  · have d1 : decide (a < b) = false := by simp; omega
    have d2 : decide ((a : Int) < (b : Int)) = false := by simp; omega
    have d3 : decide (b < a) = true := by simp; omega
    have d4 : decide ((b : Int) < (a : Int)) = true := by simp; omega
    have e : cmpN a b = 1 := by unfold cmpN; rw [if_neg (by omega), if_pos h]
    rw [e]
    clear e h
    go_enter Try.func94, Try.ntmps94
    go_wp2_with (go_at_call 99; (with_reducible refine (HN.out _ _).mono ?_); rintro e w9 ⟨rfl, rfl⟩)
    go_ret
    exact ⟨rfl, rfl⟩
set_option maxRecDepth 100000 in
theorem z_cmp (b1 b2 n1 n2 s1 s2 : Nat) (l1 r1 l2 r2 : Value) (w : World) (h1 : Blk w b1 133 (node n1 s1 l1 r1)) (h2 : Blk w b2 133 (node n2 s2 l2 r2)) :
    Calls Try.prog 93 #[.pointer (some ⟨b1, 0, none⟩), .pointer (some ⟨b2, 0, none⟩)] w fun e w' => e = .returned (.int .i64 (cmpN n1 n2)) ∧ ∃ n, w' = w.drewN n := by
  have c1 := h1.cell 0
  have c2 := h2.cell 0
  simp only [node, List.getElem?_cons_zero] at c1 c2
  have HC := Lib.hid z_compare
  clear h1 h2
  go_enter Try.func93, Try.ntmps93
  go_wp2
  go_quiet ((go_at_call 94; exact Calls.quiet_of_same ((HC.out _ _ _).mono fun _ _ h => ⟨h.1, h.2.symm⟩)))
  go_wp2
  go_ret
  exact ⟨rfl, _, rfl⟩
/-- the leaves that these numbers stand for -/
def Nds (w : World) (N k : Nat → Nat) (I : List Nat) : Prop := ∀ z, z ∈ I → Blk w (N z) 133 (leafN (k z) z)
theorem Nds.turned {w w' : World} {N k : Nat → Nat} {I : List Nat} {g : Nat} {vs vs' : List Value} (h : Nds w N k I) (ht : Turned w w' g 131 vs) (hg : Blk w g 131 vs') : Nds w' N k I := fun z hz => by
  refine ht.other (h z hz) fun e => ?_
  have h1 := h z hz
  rw [e] at h1
  unfold Blk at h1 hg
  rw [h1] at hg
  simp at hg
theorem Nds.cmp {w : World} {N k : Nat → Nat} {I : List Nat} (h : Nds w N k I) {x y : Nat} (hx : x ∈ I) (hy : y ∈ I) (m : Nat) :
    Calls Try.prog 93 #[.pointer (some ⟨N x, 0, none⟩), .pointer (some ⟨N y, 0, none⟩)] (w.drewN m) fun e w' => e = .returned (.int .i64 (cmpN (k x) (k y))) ∧ ∃ n, w' = (w.drewN m).drewN n :=
  z_cmp _ _ _ _ _ _ _ _ _ _ _ ((h x hx).drewN m) ((h y hy).drewN m)
/-- what an exchange asks -/
theorem Turned.ex {w w1 : World} {g : Nat} {t : TypeId} {N : Nat → Nat} {d : List Nat} {rest : List Value} (h : Turned w w1 g t (ptrs N d ++ rest)) {i j : Nat} (hi : i < d.length) (hj : j < d.length) :
    ∃ (bx bz : Nat) (u : Value), w1.cell? ⟨g, i, none⟩ = some (.pointer (some ⟨bx, 0, none⟩)) ∧ w1.cell? ⟨g, j, none⟩ = some (.pointer (some ⟨bz, 0, none⟩)) ∧ w1.frozen? ⟨g, i, none⟩ = false ∧ w1.frozen? ⟨g, j, none⟩ = false ∧
      (w1.setCell ⟨g, i, none⟩ (.pointer (some ⟨bz, 0, none⟩))).cell? ⟨g, j, none⟩ = some u ∧ (w1.setCell ⟨g, i, none⟩ (.pointer (some ⟨bz, 0, none⟩))).frozen? ⟨g, j, none⟩ = false ∧
      Turned w (((w1.setCell ⟨g, i, none⟩ (.pointer (some ⟨bz, 0, none⟩))).setCell ⟨g, j, none⟩ (.pointer (some ⟨bx, 0, none⟩))).drew) g t (ptrs N (swp d i j) ++ rest) := by
  obtain ⟨u, c3⟩ := swap_some h.2 (i := i) (j := j) (by rw [List.length_append, ptrs_len]; omega) (pv (N (d.getD j 0)))
  exact ⟨N (d.getD i 0), N (d.getD j 0), u, h.2.ptr hi, h.2.ptr hj, h.2.free i, h.2.free j, c3, swap_free h.2 i j _, h.swap hi hj⟩
/-- what a comparison asks -/
theorem Turned.two {w w1 : World} {g : Nat} {N k : Nat → Nat} {d I : List Nat} {rest vs : List Value} (h : Turned w w1 g 131 (ptrs N d ++ rest)) (hR : Blk w g 131 vs) (hN : Nds w N k I) (hp : d.Perm I) {i j : Nat} (hi : i < d.length) (hj : j < d.length) :
    ∃ bx bz : Nat, w1.cell? ⟨g, i, none⟩ = some (.pointer (some ⟨bx, 0, none⟩)) ∧ w1.cell? ⟨g, j, none⟩ = some (.pointer (some ⟨bz, 0, none⟩)) ∧
      ∀ m, Calls Try.prog 93 #[.pointer (some ⟨bx, 0, none⟩), .pointer (some ⟨bz, 0, none⟩)] (w1.drewN m) fun e w' => e = .returned (.int .i64 (cmpN (k (d.getD i 0)) (k (d.getD j 0)))) ∧ ∃ n, w' = (w1.drewN m).drewN n :=
  ⟨_, _, h.2.ptr hi, h.2.ptr hj, fun m => (hN.turned h hR).cmp (hp.subset (getD_mem _ _ hi)) (hp.subset (getD_mem _ _ hj)) m⟩
/-- the comparison, as a value -/
def fcmp : Value := .func (.func 93) #[] #[]
def InsO (k : Nat → Nat) (x B y : List Nat) (i : Nat) (d : List Nat) : Prop := ∃ S, d = x ++ (S ++ (B.drop i ++ y)) ∧ S.Perm (B.take i) ∧ Srt k S
def InsI (k : Nat → Nat) (x B y : List Nat) (i j : Nat) (d : List Nat) : Prop := ∃ P1 P2, d = x ++ (P1 ++ (B.getD i 0 :: (P2 ++ (B.drop (i + 1) ++ y)))) ∧ (P1 ++ P2).Perm (B.take i) ∧ Srt k (P1 ++ P2) ∧ (∀ z ∈ P2, ltk k (B.getD i 0) z) ∧ j = x.length + P1.length
theorem InsO.first {k : Nat → Nat} {x B y : List Nat} (hB : 0 < B.length) : InsO k x B y 1 (x ++ (B ++ y)) := by
  match B, hB with
  | b :: B, _ => exact ⟨[b], by simp, by simp, List.pairwise_singleton _ _⟩
theorem InsO.inner {k : Nat → Nat} {x B y : List Nat} {i : Nat} {d : List Nat} (h : InsO k x B y i d) (hi : i < B.length) : InsI k x B y i (x.length + i) d := by
  obtain ⟨S, rfl, h1, h2⟩ := h
  refine ⟨S, [], ?_, by rw [List.append_nil]; exact h1, by rw [List.append_nil]; exact h2, (fun z hz => by cases hz), ?_⟩
  · have e : B.drop i = B.getD i 0 :: B.drop (i + 1) := by rw [List.drop_eq_getElem_cons hi, List.getD_eq_getElem?_getD, List.getElem?_eq_getElem hi]; rfl
    rw [e]
    rfl
  · have := h1.length_eq
    rw [List.length_take] at this
    omega
theorem InsI.out {k : Nat → Nat} {x B y : List Nat} (hB : B.Pairwise (· < ·)) {i j : Nat} {d : List Nat} (hi : i < B.length) (h : InsI k x B y i j d) (hs : j = x.length ∨ ¬ k (d.getD j 0) < k (d.getD (j - 1) 0)) : InsO k x B y (i + 1) d := by
  obtain ⟨P1, P2, rfl, h1, h2, h3, rfl⟩ := h
  have hj : (x ++ (P1 ++ (B.getD i 0 :: (P2 ++ (B.drop (i + 1) ++ y))))).getD (x.length + P1.length) 0 = B.getD i 0 := by
    rw [getD_app, if_neg (by omega), getD_app, if_neg (by omega), show x.length + P1.length - x.length - P1.length = 0 by omega]
    rfl
  obtain ⟨q1, q2⟩ := ins_out hB hi h1 h2 h3 (by
    rcases List.eq_nil_or_concat P1 with rfl | ⟨P, p, rfl⟩
    · exact .inl rfl
    · simp only [List.concat_eq_append] at *
      refine .inr ⟨P, p, rfl, ?_⟩
      rcases hs with hs | hs
      · simp at hs
      · rw [hj] at hs
        refine fun hk => hs ?_
        rw [getD_app, if_neg (by simp), getD_app, if_pos (by simp), getD_app, if_neg (by simp), show x.length + (P ++ [p]).length - 1 - x.length - P.length = 0 by simp]
        exact hk)
  exact ⟨_, by simp, q1, q2⟩
theorem InsI.step {k : Nat → Nat} {x B y : List Nat} {i j : Nat} {d : List Nat} (h : InsI k x B y i j d) (hj : x.length < j) (hk : k (d.getD j 0) < k (d.getD (j - 1) 0)) : InsI k x B y i (j - 1) (swp d j (j - 1)) := by
  obtain ⟨P1, P2, rfl, h1, h2, h3, rfl⟩ := h
  rcases List.eq_nil_or_concat P1 with rfl | ⟨P, p, rfl⟩
  · simp at hj
  · simp only [List.concat_eq_append] at *
    have e0 : (x ++ (P ++ [p] ++ (B.getD i 0 :: (P2 ++ (B.drop (i + 1) ++ y))))) = (x ++ P) ++ (p :: B.getD i 0 :: (P2 ++ (B.drop (i + 1) ++ y))) := by simp
    rw [e0] at hk ⊢
    have el : x.length + (P ++ [p]).length = (x ++ P).length + 1 := by simp; omega
    rw [el] at hk hj ⊢
    rw [Nat.add_sub_cancel] at hk ⊢
    have g1 : (x ++ P ++ p :: B.getD i 0 :: (P2 ++ (B.drop (i + 1) ++ y))).getD ((x ++ P).length + 1) 0 = B.getD i 0 := by
      rw [getD_app, if_neg (by omega), Nat.add_sub_cancel_left]; rfl
    have g2 : (x ++ P ++ p :: B.getD i 0 :: (P2 ++ (B.drop (i + 1) ++ y))).getD ((x ++ P).length) 0 = p := by
      rw [getD_app, if_neg (by omega), Nat.sub_self]; rfl
    rw [g1, g2] at hk
    rw [swp_back _ _ _ _ _ _ rfl rfl]
    have e1 : P ++ [p] ++ P2 = P ++ (p :: P2) := by simp
    rw [e1] at h1 h2
    refine ⟨P, p :: P2, by simp, h1, h2, fun z hz => ?_, by simp⟩
    rcases List.mem_cons.1 hz with rfl | hz
    · exact .inl hk
    · exact h3 z hz
theorem InsI.mem {k : Nat → Nat} {x B y : List Nat} {i j : Nat} {d : List Nat} (hi : i < B.length) (h : InsI k x B y i j d) : d.Perm (x ++ (B ++ y)) ∧ x.length ≤ j ∧ j ≤ x.length + i := by
  obtain ⟨P1, P2, rfl, h1, h2, h3, rfl⟩ := h
  refine ⟨List.Perm.append_left _ ?_, by omega, ?_⟩
  · have e : P1 ++ (B.getD i 0 :: (P2 ++ (B.drop (i + 1) ++ y))) = (P1 ++ (B.getD i 0 :: P2)) ++ (B.drop (i + 1) ++ y) := by simp
    rw [e]
    have e2 : B ++ y = B.take (i + 1) ++ (B.drop (i + 1) ++ y) := by rw [← List.append_assoc, List.take_append_drop]
    rw [e2]
    refine List.Perm.append_right _ ?_
    rw [take_snoc B i hi]
    exact (List.perm_middle).trans ((List.Perm.cons _ h1).trans (List.perm_append_singleton _ _).symm)
  · have := h1.length_eq
    rw [List.length_append, List.length_take] at this
    omega
set_option maxRecDepth 100000 in
set_option maxHeartbeats 2000000 in
theorem z_ins (g cap len a b : Nat) (N k : Nat → Nat) (x B y : List Nat) (rest : List Value) (w : World) (hd : (x ++ (B ++ y)).length = len) (ha : x.length = a) (hb : a + B.length = b) (hB0 : 0 < B.length) (hBs : B.Pairwise (· < ·))
    (hR : Blk w g 131 (ptrs N (x ++ (B ++ y)) ++ rest)) (hN : Nds w N k (x ++ (B ++ y))) (hl : len ≤ 1000000) :
    Calls Try.prog 100 #[.slice (some ⟨g, 0, none⟩) len cap, .int .i64 (a : Int), .int .i64 (b : Int), fcmp] w fun e w' => e = .returned (.tuple #[]) ∧ ∃ S, S.Perm B ∧ Srt k S ∧ Turned w w' g 131 (ptrs N (x ++ (S ++ y)) ++ rest) := by
  unfold fcmp
  have hT := Turned.refl hR
  have hO := InsO.first (k := k) (x := x) (B := B) (y := y) hB0
  have hT := Lib.hid hT
  have hO := Lib.hid hO
  have HR := Lib.hid hR
  have HN := Lib.hid hN
  have HBS := Lib.hid hBs
  have bl : a + B.length ≤ len := by simp at hd; omega
  subst hb
  obtain ⟨n, hn⟩ : ∃ n, B.length = n := ⟨_, rfl⟩
  have HLEN := Lib.hid hd
  have HA := Lib.hid ha
  have HBL := Lib.hid hn
  rw [hn] at bl hB0 ⊢
  clear hR hN hBs hd ha hn
  have en : ((a + n : Nat) : Int) = (a : Int) + (n : Int) := by simp
  rw [en]
  clear en
  go_enter Try.func100, Try.ntmps100
  go_wp2
  go_loopw [8] (fun i wr => ∃ (p : Nat) (D : List Nat), 1 ≤ p ∧ p ≤ n ∧ i = .int .i64 ((a : Int) + (p : Int)) ∧ InsO k x B y p D ∧ Turned w wr g 131 (ptrs N D ++ rest)) (fun i _ => a + n - (intOf i).toNat)
  case atStart => exact ⟨1, _, by omega, by omega, rfl, hO.out, hT.out⟩
  case round =>
    obtain ⟨p, D, hp1, hpn, rfl, gO, gt⟩ := hrel
    clear hT hO
    by_cases hlt : p < n
    · have d1 : (p : Int) < (n : Int) := by omega
      have d2 : (a : Int) + (p : Int) < (a : Int) + (n : Int) := by omega
      have gI := gO.inner (by rw [HBL.out]; exact hlt)
      rw [HA.out] at gI
      have GI := Lib.hid gI
      clear gI gO
      go_wp2_with fail
      go_loopw [9] (fun i wr2 => ∃ (q : Nat) (E : List Nat), i = .int .i64 (q : Int) ∧ InsI k x B y p q E ∧ Turned w wr2 g 131 (ptrs N E ++ rest)) (fun i _ => (intOf i).toNat)
      case atStart => exact ⟨a + p, _, by simp, GI.out, gt⟩
      case round =>
        obtain ⟨q, E, rfl, gI, gt2⟩ := hrel
        clear gt GI
        obtain ⟨m1, m2, m3⟩ := gI.mem (by rw [HBL.out]; exact hlt)
        rw [HA.out] at m2 m3
        have hEl : E.length = len := by rw [m1.length_eq]; exact HLEN.out
        by_cases haq : a < q
        · obtain ⟨qp, rfl⟩ : ∃ qp, q = qp + 1 := ⟨q - 1, by omega⟩
          obtain ⟨bx, bz, c1, c2, hC⟩ := gt2.two HR.out HN.out m1 (i := qp + 1) (j := qp) (by omega) (by omega)
          have hout := gI.out HBS.out (by rw [HBL.out]; exact hlt)
          have hstep := gI.step (by rw [HA.out]; exact haq)
          simp only [Nat.add_sub_cancel] at hout hstep
          have ec : ((qp + 1 : Nat) : Int) = (qp : Int) + 1 := by simp
          rw [ec]
          obtain ⟨s1, hs1⟩ : ∃ s, qp + 1 = s := ⟨_, rfl⟩
          have e1 : ((qp : Int) + 1).toNat = s1 := by omega
          have i1 : (a : Int) < (qp : Int) + 1 := by omega
          have i2 : (0 : Int) ≤ (qp : Int) + 1 := by omega
          have i3 : (qp : Int) + 1 < (len : Int) := by omega
          have i4 : (qp : Int) < (len : Int) := by omega
          have i5 : (len : Int) ≤ 1000000 := by omega
          have w1 : IntKind.i64.wrap ((qp : Int) + 1) = (qp : Int) + 1 := IntWalk.i64_in _ (by omega)
          have w2 : IntKind.i64.wrap (qp : Int) = (qp : Int) := IntWalk.i64_in _ (by omega)
          have HG := Lib.hid gt2
          have HEL := Lib.hid hEl
          have HS1 := Lib.hid hs1
          have hsl : s1 < E.length := by omega
          rw [hs1] at hC c1
          by_cases hk : k (E.getD (qp + 1) 0) < k (E.getD qp 0)
          · have hlt0 : cmpN (k (E.getD (qp + 1) 0)) (k (E.getD qp 0)) < 0 := cmpN_lt.2 hk
            have hst := Lib.hid (hstep hk)
            rw [hs1] at hlt0 hst
            generalize cmpN (k (E.getD s1 0)) (k (E.getD qp 0)) = cv at *
            have dk : decide (cv < 0) = true := decide_eq_true hlt0
            have HC := Lib.hid hC
            have HSL := Lib.hid hsl
            clear hC hs1 hout hstep m1 m2 m3 hEl gI gt2 hlt0 hk ec hsl
            go_wp2_with fail
            go_quiet ((go_at_call 93; exact Calls.quiet_of (HC.out _)))
            have T := HG.out.drewN nq
            clear c1 c2 HC HG dk
            generalize World.drewN wr nq = w3 at *
            obtain ⟨bx, bz, u, c1, c2, f1, f2, c3, f3, T2⟩ := T.ex (i := s1) (j := qp) HSL.out (by have := HSL.out; have := HS1.out; omega)
            have T2 := Lib.hid T2
            clear T
            go_wp2_with fail
            go_big_region
            all_goals go_wp2
            go_roundw
            case rel => exact ⟨qp, _, by first | rfl | go_num | (congr 1; omega), hst.out, T2.out⟩
            case measure => (simp [intOf]; try omega)
          · have hlt0 : ¬ cmpN (k (E.getD (qp + 1) 0)) (k (E.getD qp 0)) < 0 := fun h => hk (cmpN_lt.1 h)
            have hst := Lib.hid (hout (.inr hk))
            rw [hs1] at hlt0
            generalize cmpN (k (E.getD s1 0)) (k (E.getD qp 0)) = cv at *
            have dk : decide (cv < 0) = false := decide_eq_false hlt0
            have HC := Lib.hid hC
            clear hC hs1 hout hstep m1 m2 m3 hEl gI gt2 hk ec hsl
            go_wp2_with fail
            go_quiet ((go_at_call 93; exact Calls.quiet_of (HC.out _)))
            have T := HG.out.drewN nq
            clear c1 c2 HC HG dk
            generalize World.drewN wr nq = w3 at *
            go_wp2
            go_roundw
            case rel => exact ⟨p + 1, _, by omega, by omega, by first | rfl | go_num | (congr 1; omega), hst.out, T⟩
            case measure => (simp [intOf]; try omega)
        · obtain rfl : q = a := by omega
          have hout := Lib.hid (gI.out HBS.out (by rw [HBL.out]; exact hlt) (.inl HA.out.symm))
          have d3 : decide ((q : Int) > (q : Int)) = false := by simp
          have d4 : ¬ (q : Int) < (q : Int) := by omega
          clear gI m1 m2 m3 hEl
          have T := gt2.drew
          go_wp2_with fail
          go_big_region
          all_goals go_wp2
          go_roundw
          case rel => exact ⟨p + 1, _, by omega, by omega, by first | rfl | go_num | (congr 1; omega), hout.out, T⟩
          case measure => (simp [intOf]; try omega)
    · obtain rfl : p = n := by omega
      obtain ⟨S, rfl, q1, q2⟩ := gO
      have e0 : B.take p = B := List.take_of_length_le (by rw [HBL.out]; exact Nat.le_refl _)
      have e1 : B.drop p = [] := List.drop_of_length_le (by rw [HBL.out]; exact Nat.le_refl _)
      rw [e0] at q1
      rw [e1, List.nil_append] at gt
      have d2 : ¬ ((a : Int) + (p : Int) < (a : Int) + (p : Int)) := by omega
      clear e0 e1
      go_wp2
      go_end0
      exact ⟨rfl, S, q1, q2, gt⟩
end Go.Proofs.Ytpjihjbgihionaa
namespace Go.Proofs.Ytpjihjbgihionaa
set_option linter.unusedVariables false

theorem ins_at {k : Nat → Nat} {A : List Nat} {i v : Nat} (hA : Srt k A) (hi : i ≤ A.length) (h1 : i = 0 ∨ ltk k (A.getD (i - 1) 0) v) (h2 : i = A.length ∨ ltk k v (A.getD i 0)) : Srt k (A.take i ++ (v :: A.drop i)) := by
  have hA' : (A.take i ++ A.drop i).Pairwise (ltk k) := by rw [List.take_append_drop]; exact hA
  obtain ⟨s1, s2, s3⟩ := List.pairwise_append.1 hA'
  have lo : ∀ z ∈ A.take i, ltk k z v := fun z hz => by
    obtain ⟨j, j1, j2, rfl⟩ := mem_take hz
    rcases h1 with h1 | h1
    · omega
    · by_cases e : j = i - 1
      · rw [e]; exact h1
      · exact ltk_trans (hA.get (by omega) (by omega)) h1
  have hi' : ∀ z ∈ A.drop i, ltk k v z := fun z hz => by
    obtain ⟨j, j1, j2, rfl⟩ := mem_drop hz
    rcases h2 with h2 | h2
    · omega
    · by_cases e : j = i
      · rw [e]; exact h2
      · exact ltk_trans h2 (hA.get (by omega) (by omega))
  refine List.pairwise_append.2 ⟨s1, List.pairwise_cons.2 ⟨hi', s2⟩, fun u hu z hz => ?_⟩
  rcases List.mem_cons.1 hz with rfl | hz
  · exact lo u hu
  · exact s3 u hu z hz
theorem ins_perm {A : List Nat} (i v : Nat) : (A.take i ++ (v :: A.drop i)).Perm (v :: A) := by
  refine List.perm_middle.trans ?_
  rw [List.take_append_drop]
/-- two rows beside one another, as they come to be merged -/
structure Two (k : Nat → Nat) (I x L R y : List Nat) (a m b len : Nat) : Prop where
  ha : x.length = a
  hm : a + L.length = m
  hb : m + R.length = b
  hL : 0 < L.length
  hR : 0 < R.length
  sL : Srt k L
  sR : Srt k R
  lr : ∀ l ∈ L, ∀ r ∈ R, l < r
  perm : (x ++ (L ++ (R ++ y))).Perm I
  hl : (x ++ (L ++ (R ++ y))).length = len
theorem Two.bound {k : Nat → Nat} {I x L R y : List Nat} {a m b len : Nat} (h : Two k I x L R y a m b len) : a < m ∧ m < b ∧ b ≤ len := by
  obtain ⟨h1, h2, h3, h4, h5, _, _, _, _, h6⟩ := h
  simp only [List.length_append] at h6
  omega
/-- an element of the left one -/
theorem Two.left {k : Nat → Nat} {I x L R y : List Nat} {a m b len : Nat} (h : Two k I x L R y a m b len) {c : Nat} (h1 : a ≤ c) (h2 : c < m) : (x ++ (L ++ (R ++ y))).getD c 0 = L.getD (c - a) 0 := by
  have := h.ha; have := h.hm
  rw [getD_app, if_neg (by omega), getD_app, if_pos (by omega), h.ha]
theorem Two.right {k : Nat → Nat} {I x L R y : List Nat} {a m b len : Nat} (h : Two k I x L R y a m b len) {c : Nat} (h1 : m ≤ c) (h2 : c < b) : (x ++ (L ++ (R ++ y))).getD c 0 = R.getD (c - m) 0 := by
  have := h.ha; have := h.hm; have := h.hb
  rw [getD_app, if_neg (by omega), getD_app, if_neg (by omega), getD_app, if_pos (by omega)]
  congr 1
  omega
theorem Two.lt {k : Nat → Nat} {I x L R y : List Nat} {a m b len : Nat} (h : Two k I x L R y a m b len) {i j : Nat} (hi : i < L.length) (hj : j < R.length) : L.getD i 0 < R.getD j 0 := h.lr _ (getD_mem _ _ hi) _ (getD_mem _ _ hj)
/-- left of one: where it goes -/
theorem Two.low {k : Nat → Nat} {I x L R y : List Nat} {a m b len : Nat} (h : Two k I x L R y a m b len) (h1 : L.length = 1) {p : Nat} (p1 : m ≤ p) (p2 : p ≤ b)
    (q1 : p = m ∨ k ((x ++ (L ++ (R ++ y))).getD (p - 1) 0) < k ((x ++ (L ++ (R ++ y))).getD a 0)) (q2 : p = b ∨ ¬ k ((x ++ (L ++ (R ++ y))).getD p 0) < k ((x ++ (L ++ (R ++ y))).getD a 0)) :
    Srt k (R.take (p - m) ++ (L.getD 0 0 :: R.drop (p - m))) ∧ (R.take (p - m) ++ (L.getD 0 0 :: R.drop (p - m))).Perm (L ++ R) := by
  have hb := h.hb; have hm := h.hm; have ha := h.ha
  have ea : (x ++ (L ++ (R ++ y))).getD a 0 = L.getD 0 0 := by rw [h.left (Nat.le_refl _) (by omega), Nat.sub_self]
  rw [ea] at q1 q2
  constructor
  · refine ins_at h.sR (by omega) ?_ ?_
    · rcases q1 with q1 | q1
      · left; omega
      · by_cases e : p = m
        · left; omega
        · right
          rw [h.right (by omega) (by omega)] at q1
          left
          rwa [show p - m - 1 = p - 1 - m by omega]
    · rcases q2 with q2 | q2
      · left; omega
      · by_cases e : p = b
        · left; omega
        · right
          rw [h.right (by omega) (by omega)] at q2
          have := h.lt (i := 0) (j := p - m) (by omega) (by omega)
          unfold ltk
          omega
  · refine (ins_perm _ _).trans ?_
    match L, h1 with
    | [v], _ => exact List.Perm.refl _
/-- right of one: where it goes -/
theorem Two.high {k : Nat → Nat} {I x L R y : List Nat} {a m b len : Nat} (h : Two k I x L R y a m b len) (h1 : R.length = 1) {p : Nat} (p1 : a ≤ p) (p2 : p ≤ m)
    (q1 : p = a ∨ ¬ k ((x ++ (L ++ (R ++ y))).getD m 0) < k ((x ++ (L ++ (R ++ y))).getD (p - 1) 0)) (q2 : p = m ∨ k ((x ++ (L ++ (R ++ y))).getD m 0) < k ((x ++ (L ++ (R ++ y))).getD p 0)) :
    Srt k (L.take (p - a) ++ (R.getD 0 0 :: L.drop (p - a))) ∧ (L.take (p - a) ++ (R.getD 0 0 :: L.drop (p - a))).Perm (L ++ R) := by
  have hb := h.hb; have hm := h.hm; have ha := h.ha
  have ea : (x ++ (L ++ (R ++ y))).getD m 0 = R.getD 0 0 := by rw [h.right (Nat.le_refl _) (by omega), Nat.sub_self]
  rw [ea] at q1 q2
  constructor
  · refine ins_at h.sL (by omega) ?_ ?_
    · rcases q1 with q1 | q1
      · left; omega
      · by_cases e : p = a
        · left; omega
        · right
          rw [h.left (by omega) (by omega)] at q1
          rw [show p - a - 1 = p - 1 - a by omega]
          have := h.lt (i := p - 1 - a) (j := 0) (by omega) (by omega)
          unfold ltk
          omega
    · rcases q2 with q2 | q2
      · left; omega
      · by_cases e : p = m
        · left; omega
        · right
          rw [h.left (by omega) (by omega)] at q2
          exact .inl q2
  · refine (ins_perm _ _).trans ?_
    match R, h1 with
    | [v], _ => exact (List.perm_append_singleton _ _).symm
/-- where both are cut -/
structure CutAt (k : Nat → Nat) (x L R y : List Nat) (a m b mid s : Nat) : Prop where
  s1 : a ≤ s
  s2 : s ≤ m
  e1 : s ≤ mid
  e2 : mid + m - s ≤ b
  h1 : s - a = 0 ∨ mid - s = R.length ∨ ltk k (L.getD (s - a - 1) 0) (R.getD (mid - s) 0)
  h2 : mid - s = 0 ∨ s - a = L.length ∨ ltk k (R.getD (mid - s - 1) 0) (L.getD (s - a) 0)
theorem Two.cut {k : Nat → Nat} {I x L R y : List Nat} {a m b len : Nat} (h : Two k I x L R y a m b len) {mid s s0 r0 : Nat} (hmid : mid = (a + b) / 2) (hsr : (mid < m ∧ s0 = mid + m - b ∧ r0 = mid) ∨ (m ≤ mid ∧ s0 = a ∧ r0 = m)) (hs0 : s0 ≤ s) (hsr0 : s ≤ r0)
    (q1 : s = s0 ∨ k ((x ++ (L ++ (R ++ y))).getD (s - 1) 0) ≤ k ((x ++ (L ++ (R ++ y))).getD (mid + m - s) 0))
    (q2 : s = r0 ∨ k ((x ++ (L ++ (R ++ y))).getD (mid + m - 1 - s) 0) < k ((x ++ (L ++ (R ++ y))).getD s 0)) : CutAt k x L R y a m b mid s := by
  have hb := h.hb; have hm := h.hm; have ha := h.ha; have hL := h.hL; have hR := h.hR
  have hsa : a ≤ s := by omega
  have hsm : s ≤ m := by omega
  have hse : s ≤ mid := by omega
  have heb : mid + m - s ≤ b := by omega
  refine ⟨hsa, hsm, hse, heb, ?_, ?_⟩
  · rcases q1 with q1 | q1
    · omega
    · by_cases z1 : s - a = 0
      · exact .inl z1
      · by_cases z2 : mid - s = R.length
        · exact .inr (.inl z2)
        · right; right
          rw [h.left (by omega) (by omega), h.right (by omega) (by omega)] at q1
          rw [show mid + m - s - m = mid - s by omega, show s - 1 - a = s - a - 1 by omega] at q1
          have := h.lt (i := s - a - 1) (j := mid - s) (by omega) (by omega)
          unfold ltk
          omega
  · rcases q2 with q2 | q2
    · omega
    · by_cases z1 : mid - s = 0
      · exact .inl z1
      · by_cases z2 : s - a = L.length
        · exact .inr (.inl z2)
        · right; right
          rw [h.right (by omega) (by omega), h.left (by omega) (by omega)] at q2
          rw [show mid + m - 1 - s - m = mid - s - 1 by omega] at q2
          exact .inl q2
/-- the bounds of a comparison in the search -/
theorem Two.search {k : Nat → Nat} {I x L R y : List Nat} {a m b len : Nat} (h : Two k I x L R y a m b len) {mid s0 r0 c : Nat} (hmid : mid = (a + b) / 2) (hsr : (mid < m ∧ s0 = mid + m - b ∧ r0 = mid) ∨ (m ≤ mid ∧ s0 = a ∧ r0 = m)) (h1 : s0 ≤ c) (h2 : c < r0) : c < len ∧ c ≤ mid + m - 1 ∧ mid + m - 1 - c < len := by
  have hb := h.bound; have := h.hb; have := h.hm; have := h.ha
  omega
/-- the two parts that are merged each by itself -/
theorem CutAt.parts {k : Nat → Nat} {I x L R y : List Nat} {a m b len mid s : Nat} (h : Two k I x L R y a m b len) (c : CutAt k x L R y a m b mid s) (hmid : mid = (a + b) / 2) :
    (x ++ (L ++ (R ++ y)) = x ++ (L.take (s - a) ++ (L.drop (s - a) ++ (R.take (mid - s) ++ (R.drop (mid - s) ++ y))))) ∧ (L.take (s - a)).length = s - a ∧ (L.drop (s - a)).length = m - s ∧ (R.take (mid - s)).length = mid - s ∧ (R.drop (mid - s)).length = b - (mid + m - s) := by
  obtain ⟨c1, c2, c3, c4, c5, c6⟩ := c
  have hb := h.hb; have hm := h.hm; have ha := h.ha
  refine ⟨?_, by rw [List.length_take]; omega, by rw [List.length_drop]; omega, by rw [List.length_take]; omega, by rw [List.length_drop]; omega⟩
  rw [← List.append_assoc (L.take (s - a)), List.take_append_drop, ← List.append_assoc (R.take (mid - s)), List.take_append_drop]
theorem CutAt.done {k : Nat → Nat} {I x L R y : List Nat} {a m b len mid s : Nat} (h : Two k I x L R y a m b len) (c : CutAt k x L R y a m b mid s) {S1 S2 : List Nat} (p1 : S1.Perm (L.take (s - a) ++ R.take (mid - s))) (p2 : S2.Perm (L.drop (s - a) ++ R.drop (mid - s))) (s1 : Srt k S1) (s2 : Srt k S2) :
    (S1 ++ S2).Perm (L ++ R) ∧ Srt k (S1 ++ S2) := by
  have hb := h.hb; have hm := h.hm; have ha := h.ha
  obtain ⟨c1, c2, c3, c4, c5, c6⟩ := c
  exact merged p1 p2 s1 s2 h.sL h.sR (sym_cut h.sL h.sR (by omega) (by omega) c5 c6)
end Go.Proofs.Ytpjihjbgihionaa
namespace Go.Proofs.Ytpjihjbgihionaa
open Go.RowKit
set_option linter.unusedVariables false

set_option maxRecDepth 100000 in
set_option maxHeartbeats 4000000 in
theorem z_mrg1 (g cap len a m b : Nat) (N k : Nat → Nat) (I x L R y : List Nat) (rest vs : List Value) (w w0 : World) (h2 : Two k I x L R y a m b len) (h1 : L.length = 1) (hR : Blk w g 131 (ptrs N (x ++ (L ++ (R ++ y))) ++ rest)) (hN : Nds w N k I) (hl : len ≤ 1000000) :
    Calls Try.prog 101 #[.slice (some ⟨g, 0, none⟩) len cap, .int .i64 (a : Int), .int .i64 (m : Int), .int .i64 (b : Int), fcmp] w fun e w' => e = .returned (.tuple #[]) ∧ ∃ S, S.Perm (L ++ R) ∧ Srt k S ∧ Turned w w' g 131 (ptrs N (x ++ (S ++ y)) ++ rest) := by
  unfold fcmp
  obtain ⟨b1, b2, b3⟩ := h2.bound
  have hT := Turned.refl hR
  obtain ⟨d, hd⟩ : ∃ d, x ++ (L ++ (R ++ y)) = d := ⟨_, rfl⟩
  have hlen : d.length = len := by rw [← hd]; exact h2.hl
  have hpm : d.Perm I := by rw [← hd]; exact h2.perm
  have hma : m = a + 1 := by have := h2.hm; omega
  subst hma
  rw [hd] at hT hR
  have H2 := Lib.hid h2
  have H1 := Lib.hid h1
  have HD := Lib.hid hd
  have HT := Lib.hid hT
  have HR := Lib.hid hR
  have HN := Lib.hid hN
  have HLEN := Lib.hid hlen
  have HPM := Lib.hid hpm
  have em : ((a + 1 : Nat) : Int) = (a : Int) + 1 := by simp
  rw [em]
  have e1 : (a : Int) + 1 - (a : Int) = 1 := by omega
  have i1 : (b : Int) ≤ 1000000 := by omega
  have i2 : (a : Int) + 1 < (b : Int) := by omega
  clear h2 h1 hd hT hR hN hlen hpm em
  go_enter Try.func101, Try.ntmps101
  go_wp2
  clear e1
  go_loopw [10, 11] (fun i j wr => ∃ p q : Nat, a + 1 ≤ p ∧ p ≤ q ∧ q ≤ b ∧ i = .int .i64 (p : Int) ∧ j = .int .i64 (q : Int) ∧ (p = a + 1 ∨ k (d.getD (p - 1) 0) < k (d.getD a 0)) ∧ (q = b ∨ ¬ k (d.getD q 0) < k (d.getD a 0)) ∧ Turned w wr g 131 (ptrs N d ++ rest)) (fun i j _ => (intOf j).toNat - (intOf i).toNat)
  case atStart => exact ⟨a + 1, b, by omega, by omega, by omega, by simp, rfl, .inl rfl, .inl rfl, HT.out⟩
  case round =>
    obtain ⟨p, q, hp, hpq, hq, rfl, rfl, g1, g2, gt⟩ := hrel
    clear HT
    by_cases hlt : p < q
    · have d1 : (p : Int) < (q : Int) := by omega
      obtain ⟨c, hc⟩ : ∃ c, (p + q) / 2 = c := ⟨_, rfl⟩
      have e1 : ((p : Int) + (q : Int)) / 2 = (c : Int) := by omega
      have hcl : c < len ∧ a < len := by have := HLEN.out; omega
      obtain ⟨bx, bz, c1, c2, hC⟩ := gt.two HR.out HN.out HPM.out (i := c) (j := a) (by rw [HLEN.out]; exact hcl.1) (by rw [HLEN.out]; exact hcl.2)
      have hcb : p ≤ c ∧ c < q := by omega
      have i3 : (0 : Int) ≤ (p : Int) + (q : Int) := by omega
      have i4 : (p : Int) + (q : Int) ≤ 2000000 := by omega
      have i5 : (c : Int) < (len : Int) := by omega
      have i6 : (a : Int) < (len : Int) := by omega
      have G1 := Lib.hid g1
      have G2 := Lib.hid g2
      clear hcl g1 g2 hc
      by_cases hk : k (d.getD c 0) < k (d.getD a 0)
      · have hlt0 : cmpN (k (d.getD c 0)) (k (d.getD a 0)) < 0 := cmpN_lt.2 hk
        generalize cmpN (k (d.getD c 0)) (k (d.getD a 0)) = cv at *
        have dk : decide (cv < 0) = true := decide_eq_true hlt0
        have HC := Lib.hid hC
        have HK := Lib.hid hk
        clear hC hk hlt0
        go_wp2_with fail
        go_quiet ((go_at_call 93; exact Calls.quiet_of (HC.out _)))
        have T := gt.drewN nq
        clear c1 c2 HC gt dk
        generalize World.drewN wr nq = w3 at *
        go_wp2
        go_roundw
        case rel => exact ⟨c + 1, q, by omega, by omega, by omega, by first | rfl | go_num, rfl, .inr HK.out, G2.out, T⟩
        case measure => (simp [intOf]; try omega)
      · have hlt0 : ¬ cmpN (k (d.getD c 0)) (k (d.getD a 0)) < 0 := fun h => hk (cmpN_lt.1 h)
        generalize cmpN (k (d.getD c 0)) (k (d.getD a 0)) = cv at *
        have dk : decide (cv < 0) = false := decide_eq_false hlt0
        have HC := Lib.hid hC
        have HK := Lib.hid hk
        clear hC hk
        go_wp2_with fail
        go_quiet ((go_at_call 93; exact Calls.quiet_of (HC.out _)))
        have T := gt.drewN nq
        clear c1 c2 HC gt dk
        generalize World.drewN wr nq = w3 at *
        go_wp2
        go_roundw
        case rel => exact ⟨p, c, by omega, by omega, by omega, rfl, rfl, G1.out, .inr HK.out, T⟩
        case measure => (simp [intOf]; try omega)
    · obtain rfl : p = q := by omega
      have hres := H2.out.low H1.out hp hq (by rw [HD.out]; exact g1) (by rw [HD.out]; exact g2)
      obtain ⟨t, ht⟩ : ∃ t, p - (a + 1) = t := ⟨_, rfl⟩
      rw [ht] at hres
      obtain rfl : p = a + 1 + t := by omega
      have HRES := Lib.hid hres
      have hLv : L = [L.getD 0 0] := by
        have := H1.out
        match L, this with
        | [v], _ => rfl
      have htR : t ≤ R.length := by have := H2.out.hb; omega
      generalize L.getD 0 0 = v at *
      have hdv : d = x ++ ([] ++ (v :: (R.drop 0 ++ y))) := by rw [← HD.out, hLv]; simp
      have htk : ∀ j, j < R.length → R.take (j + 1) = R.take j ++ [R.getD j 0] := fun j hj => take_snoc R j hj
      have hdr : ∀ j, j < R.length → R.drop j = R.getD j 0 :: R.drop (j + 1) := fun j hj => by rw [List.drop_eq_getElem_cons hj, List.getD_eq_getElem?_getD, List.getElem?_eq_getElem hj]; rfl
      have hall : ∀ j, j ≤ R.length → (x ++ (R.take j ++ (v :: (R.drop j ++ y)))).length = len := fun j hj => by
        rw [← H2.out.hl]
        have := H1.out
        simp only [List.length_append, List.length_cons, List.length_take, List.length_drop]
        omega
      rw [hdv] at gt
      have HTK := Lib.hid htk
      have HDR := Lib.hid hdr
      have HALL := Lib.hid hall
      have HXA := Lib.hid H2.out.ha
      have HTR := Lib.hid htR
      have et : ((a + 1 + t : Nat) : Int) = (a : Int) + 1 + (t : Int) := by simp
      rw [et]
      have hal : a + 1 + t ≤ len := by omega
      have j1 : (a : Int) + 1 + (t : Int) - 1 = (a : Int) + (t : Int) := by omega
      have j2 : (a : Int) + 1 + (t : Int) ≤ 1000000 := by omega
      have GT := Lib.hid gt
      clear hres ht htk hdr hall hLv hdv gt g1 g2 et htR
      go_wp2_with fail
      go_loopw [13] (fun i wr => ∃ j : Nat, j ≤ t ∧ i = .int .i64 ((a : Int) + (j : Int)) ∧ Turned w wr g 131 (ptrs N (x ++ (R.take j ++ (v :: (R.drop j ++ y)))) ++ rest)) (fun i _ => a + t - (intOf i).toNat)
      case atStart => exact ⟨0, by omega, by simp, GT.out⟩
      case round =>
        obtain ⟨j, hj, rfl, gt⟩ := hrel
        clear GT
        by_cases hlt2 : j < t
        · have hjR : j < R.length := by have := HTR.out; omega
          have hl2 := HALL.out j (by omega)
          have hsw : swp (x ++ (R.take j ++ (v :: (R.drop j ++ y)))) (a + j) (a + j + 1) = x ++ (R.take (j + 1) ++ (v :: (R.drop (j + 1) ++ y))) := by
            rw [HDR.out j hjR, HTK.out j hjR]
            have := swp_next (x ++ R.take j) v (R.getD j 0) (R.drop (j + 1) ++ y) (a + j) (by rw [List.length_append, HXA.out, List.length_take]; omega)
            simpa using this
          obtain ⟨s1, hs1⟩ : ∃ s, a + j = s := ⟨_, rfl⟩
          obtain ⟨s2, hs2⟩ : ∃ s, a + j + 1 = s := ⟨_, rfl⟩
          rw [hs1, ← hs1, hs2, hs1] at hsw
          obtain ⟨bx, bz, u, c1, c2, f1, f2, c3, f3, T2⟩ := gt.ex (i := s1) (j := s2) (by omega) (by omega)
          rw [hsw] at T2
          have T2 := Lib.hid T2
          have e1 : ((a : Int) + (j : Int)).toNat = s1 := by omega
          have e2 : ((a : Int) + (j : Int) + 1).toNat = s2 := by omega
          have k1 : (0 : Int) ≤ (a : Int) + (j : Int) := by omega
          have k2 : (0 : Int) ≤ (a : Int) + (j : Int) + 1 := by omega
          have k3 : (a : Int) + (j : Int) < (len : Int) := by omega
          have k4 : (a : Int) + (j : Int) + 1 < (len : Int) := by omega
          have k5 : (a : Int) + (j : Int) < (a : Int) + (t : Int) := by omega
          have w1 : IntKind.i64.wrap ((a : Int) + (j : Int)) = (a : Int) + (j : Int) := IntWalk.i64_in _ (by omega)
          have w2 : IntKind.i64.wrap ((a : Int) + (j : Int) + 1) = (a : Int) + (j : Int) + 1 := IntWalk.i64_in _ (by omega)
          clear hsw hl2 gt hs1 hs2 j1
          go_wp2_with fail
          go_big_region
          all_goals go_wp2
          go_roundw
          case rel => exact ⟨j + 1, by omega, by first | rfl | go_num | (congr 1; omega), T2.out⟩
          case measure => (simp [intOf]; try omega)
        · obtain rfl : j = t := by omega
          have j5 : ¬ ((a : Int) + (j : Int) < (a : Int) + (j : Int)) := by omega
          have e0 : x ++ (R.take j ++ (v :: (R.drop j ++ y))) = x ++ ((R.take j ++ (v :: R.drop j)) ++ y) := by simp
          rw [e0] at gt
          clear e0
          go_wp2
          refine bodyPost_ret (results_none rfl _ _ _) rfl ⟨rfl, _, HRES.out.2, HRES.out.1, gt⟩
set_option maxRecDepth 100000 in
set_option maxHeartbeats 4000000 in
theorem z_mrg2 (g cap len a m b : Nat) (N k : Nat → Nat) (I x L R y : List Nat) (rest vs : List Value) (w w0 : World) (h2 : Two k I x L R y a m b len) (h0 : L.length ≠ 1) (h1 : R.length = 1) (hR : Blk w g 131 (ptrs N (x ++ (L ++ (R ++ y))) ++ rest)) (hN : Nds w N k I) (hl : len ≤ 1000000) :
    Calls Try.prog 101 #[.slice (some ⟨g, 0, none⟩) len cap, .int .i64 (a : Int), .int .i64 (m : Int), .int .i64 (b : Int), fcmp] w fun e w' => e = .returned (.tuple #[]) ∧ ∃ S, S.Perm (L ++ R) ∧ Srt k S ∧ Turned w w' g 131 (ptrs N (x ++ (S ++ y)) ++ rest) := by
  unfold fcmp
  obtain ⟨b1, b2, b3⟩ := h2.bound
  have hT := Turned.refl hR
  obtain ⟨d, hd⟩ : ∃ d, x ++ (L ++ (R ++ y)) = d := ⟨_, rfl⟩
  have hlen : d.length = len := by rw [← hd]; exact h2.hl
  have hpm : d.Perm I := by rw [← hd]; exact h2.perm
  have hmb : b = m + 1 := by have := h2.hb; omega
  have hma : m ≠ a + 1 := by have := h2.hm; omega
  subst hmb
  rw [hd] at hT hR
  have H2 := Lib.hid h2
  have H1 := Lib.hid h1
  have HD := Lib.hid hd
  have HT := Lib.hid hT
  have HR := Lib.hid hR
  have HN := Lib.hid hN
  have HLEN := Lib.hid hlen
  have HPM := Lib.hid hpm
  have em : ((m + 1 : Nat) : Int) = (m : Int) + 1 := by simp
  rw [em]
  have e0 : ((m : Int) - (a : Int) == 1) = false := by rw [beq_eq_false_iff_ne]; omega
  have e1 : (m : Int) + 1 - (m : Int) = 1 := by omega
  have i1 : (m : Int) + 1 ≤ 1000000 := by omega
  have i2 : (a : Int) < (m : Int) := by omega
  clear h2 h1 h0 hd hT hR hN hlen hpm em hma
  go_enter Try.func101, Try.ntmps101
  go_wp2
  clear e1 e0
  go_loopw [14, 15] (fun i j wr => ∃ p q : Nat, a ≤ p ∧ p ≤ q ∧ q ≤ m ∧ i = .int .i64 (p : Int) ∧ j = .int .i64 (q : Int) ∧ (p = a ∨ ¬ k (d.getD m 0) < k (d.getD (p - 1) 0)) ∧ (q = m ∨ k (d.getD m 0) < k (d.getD q 0)) ∧ Turned w wr g 131 (ptrs N d ++ rest)) (fun i j _ => (intOf j).toNat - (intOf i).toNat)
  case atStart => exact ⟨a, m, by omega, by omega, by omega, rfl, rfl, .inl rfl, .inl rfl, HT.out⟩
  case round =>
    obtain ⟨p, q, hp, hpq, hq, rfl, rfl, g1, g2, gt⟩ := hrel
    clear HT
    by_cases hlt : p < q
    · have d1 : (p : Int) < (q : Int) := by omega
      obtain ⟨c, hc⟩ : ∃ c, (p + q) / 2 = c := ⟨_, rfl⟩
      have e1 : ((p : Int) + (q : Int)) / 2 = (c : Int) := by omega
      have hcl : c < len ∧ m < len := by have := HLEN.out; omega
      obtain ⟨bx, bz, c1, c2, hC⟩ := gt.two HR.out HN.out HPM.out (i := m) (j := c) (by rw [HLEN.out]; exact hcl.2) (by rw [HLEN.out]; exact hcl.1)
      have hcb : p ≤ c ∧ c < q := by omega
      have i3 : (0 : Int) ≤ (p : Int) + (q : Int) := by omega
      have i4 : (p : Int) + (q : Int) ≤ 2000000 := by omega
      have i5 : (c : Int) < (len : Int) := by omega
      have i6 : (m : Int) < (len : Int) := by omega
      have G1 := Lib.hid g1
      have G2 := Lib.hid g2
      clear hcl g1 g2 hc
      by_cases hk : k (d.getD m 0) < k (d.getD c 0)
      · have hlt0 : cmpN (k (d.getD m 0)) (k (d.getD c 0)) < 0 := cmpN_lt.2 hk
        generalize cmpN (k (d.getD m 0)) (k (d.getD c 0)) = cv at *
        have dk : decide (cv < 0) = true := decide_eq_true hlt0
        have HC := Lib.hid hC
        have HK := Lib.hid hk
        clear hC hk hlt0
        go_wp2_with fail
        go_quiet ((go_at_call 93; exact Calls.quiet_of (HC.out _)))
        have T := gt.drewN nq
        clear c1 c2 HC gt dk
        generalize World.drewN wr nq = w3 at *
        go_wp2
        go_roundw
        case rel => exact ⟨p, c, by omega, by omega, by omega, rfl, rfl, G1.out, .inr HK.out, T⟩
        case measure => (simp [intOf]; try omega)
      · have hlt0 : ¬ cmpN (k (d.getD m 0)) (k (d.getD c 0)) < 0 := fun h => hk (cmpN_lt.1 h)
        generalize cmpN (k (d.getD m 0)) (k (d.getD c 0)) = cv at *
        have dk : decide (cv < 0) = false := decide_eq_false hlt0
        have HC := Lib.hid hC
        have HK := Lib.hid hk
        clear hC hk
        go_wp2_with fail
        go_quiet ((go_at_call 93; exact Calls.quiet_of (HC.out _)))
        have T := gt.drewN nq
        clear c1 c2 HC gt dk
        generalize World.drewN wr nq = w3 at *
        go_wp2
        go_roundw
        case rel => exact ⟨c + 1, q, by omega, by omega, by omega, by first | rfl | go_num, rfl, .inr HK.out, G2.out, T⟩
        case measure => (simp [intOf]; try omega)
    · obtain rfl : p = q := by omega
      have hres := H2.out.high H1.out hp hq (by rw [HD.out]; exact g1) (by rw [HD.out]; exact g2)
      obtain ⟨t, ht⟩ : ∃ t, p - a = t := ⟨_, rfl⟩
      rw [ht] at hres
      obtain rfl : p = a + t := by omega
      have HRES := Lib.hid hres
      have hRv : R = [R.getD 0 0] := by
        have := H1.out
        match R, this with
        | [v], _ => rfl
      obtain ⟨nl, hnl⟩ : ∃ nl, L.length = nl := ⟨_, rfl⟩
      have hmn : a + nl = m := by rw [← hnl]; exact H2.out.hm
      have htR : t ≤ nl := by omega
      generalize R.getD 0 0 = v at *
      have hdv : d = x ++ (L.take nl ++ (v :: (L.drop nl ++ y))) := by rw [← HD.out, hRv, List.take_of_length_le (by omega), List.drop_of_length_le (by omega)]; simp
      have htk : ∀ j, j < L.length → L.take (j + 1) = L.take j ++ [L.getD j 0] := fun j hj => take_snoc L j hj
      have hdr : ∀ j, j < L.length → L.drop j = L.getD j 0 :: L.drop (j + 1) := fun j hj => by rw [List.drop_eq_getElem_cons hj, List.getD_eq_getElem?_getD, List.getElem?_eq_getElem hj]; rfl
      have hall : ∀ j, j ≤ L.length → (x ++ (L.take j ++ (v :: (L.drop j ++ y)))).length = len := fun j hj => by
        rw [← H2.out.hl]
        have := H1.out
        simp only [List.length_append, List.length_cons, List.length_take, List.length_drop]
        omega
      rw [hdv] at gt
      have HTK := Lib.hid htk
      have HDR := Lib.hid hdr
      have HALL := Lib.hid hall
      have HXA := Lib.hid H2.out.ha
      have HNL := Lib.hid hnl
      have et : ((a + t : Nat) : Int) = (a : Int) + (t : Int) := by simp
      rw [et]
      have em : (m : Int) = (a : Int) + (nl : Int) := by omega
      rw [em]
      have GT := Lib.hid gt
      have hal : a + nl < len := by omega
      clear hres ht htk hdr hall hRv hdv gt g1 g2 et hnl em
      go_wp2_with fail
      go_loopw [17] (fun i wr => ∃ j : Nat, t ≤ j ∧ j ≤ nl ∧ i = .int .i64 ((a : Int) + (j : Int)) ∧ Turned w wr g 131 (ptrs N (x ++ (L.take j ++ (v :: (L.drop j ++ y)))) ++ rest)) (fun i _ => (intOf i).toNat)
      case atStart => exact ⟨nl, htR, by omega, rfl, GT.out⟩
      case round =>
        obtain ⟨j, hj, hjn, rfl, gt⟩ := hrel
        clear GT
        by_cases hlt2 : t < j
        · obtain ⟨jp, rfl⟩ : ∃ jp, j = jp + 1 := ⟨j - 1, by omega⟩
          have hjL : jp < L.length := by have := HNL.out; omega
          have hl2 := HALL.out (jp + 1) (by omega)
          have hsw : swp (x ++ (L.take (jp + 1) ++ (v :: (L.drop (jp + 1) ++ y)))) (a + jp + 1) (a + jp) = x ++ (L.take jp ++ (v :: (L.drop jp ++ y))) := by
            rw [HDR.out jp hjL, HTK.out jp hjL]
            have := swp_back (x ++ L.take jp) (L.getD jp 0) v (L.drop (jp + 1) ++ y) (a + jp) (a + jp + 1) (by rw [List.length_append, HXA.out, List.length_take]; omega) rfl
            simpa using this
          obtain ⟨s1, hs1⟩ : ∃ s, a + jp = s := ⟨_, rfl⟩
          obtain ⟨s2, hs2⟩ : ∃ s, a + jp + 1 = s := ⟨_, rfl⟩
          rw [hs2, hs1] at hsw
          obtain ⟨bx, bz, u, c1, c2, f1, f2, c3, f3, T2⟩ := gt.ex (i := s2) (j := s1) (by omega) (by omega)
          rw [hsw] at T2
          have T2 := Lib.hid T2
          have ej : ((jp + 1 : Nat) : Int) = (jp : Int) + 1 := by simp
          rw [ej]
          have e1 : ((a : Int) + ((jp : Int) + 1)).toNat = s2 := by omega
          have e2 : ((a : Int) + ((jp : Int) + 1) - 1).toNat = s1 := by omega
          have k1 : (0 : Int) ≤ (a : Int) + ((jp : Int) + 1) := by omega
          have k2 : (0 : Int) ≤ (a : Int) + ((jp : Int) + 1) - 1 := by omega
          have k2' : (1 : Int) ≤ (a : Int) + ((jp : Int) + 1) := by omega
          have k3 : (a : Int) + ((jp : Int) + 1) < (len : Int) := by omega
          have k4 : (a : Int) + ((jp : Int) + 1) - 1 < (len : Int) := by omega
          have k5 : (a : Int) + (t : Int) < (a : Int) + ((jp : Int) + 1) := by omega
          have w1 : IntKind.i64.wrap ((a : Int) + ((jp : Int) + 1)) = (a : Int) + ((jp : Int) + 1) := IntWalk.i64_in _ (by omega)
          have w2 : IntKind.i64.wrap ((a : Int) + ((jp : Int) + 1) - 1) = (a : Int) + ((jp : Int) + 1) - 1 := IntWalk.i64_in _ (by omega)
          clear hsw hl2 gt hs1 hs2 ej
          go_wp2_with fail
          go_big_region
          all_goals go_wp2
          go_roundw
          case rel => exact ⟨jp, by omega, by omega, by first | rfl | go_num | (congr 1; omega), T2.out⟩
          case measure => (simp [intOf]; try omega)
        · obtain rfl : j = t := by omega
          have j5 : ¬ ((a : Int) + (j : Int) < (a : Int) + (j : Int)) := by omega
          have e0 : x ++ (L.take j ++ (v :: (L.drop j ++ y))) = x ++ ((L.take j ++ (v :: L.drop j)) ++ y) := by simp
          rw [e0] at gt
          clear e0
          go_wp2
          refine bodyPost_ret (results_none rfl _ _ _) rfl ⟨rfl, _, HRES.out.2, HRES.out.1, gt⟩
end Go.Proofs.Ytpjihjbgihionaa
