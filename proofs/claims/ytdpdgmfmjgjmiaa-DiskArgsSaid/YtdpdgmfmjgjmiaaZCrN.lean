/- A crash by lists: which sectors have something pending, in order; the sectors when some of them have crashed; the keys as they come sorted. -/
import Derived.Test.YtdpdgmfmjgjmiaaZCrd
namespace Go.Proofs.Ytdpdgmfmjgjmiaa
open Go.RowKit
set_option linter.unusedVariables false

def ksD (d : DiskM) : List Nat := (List.range d.sec.length).filter fun i => decide (penD d.pen i ≠ [])
theorem filter_place (p : Nat → Bool) : ∀ (n j i : Nat), ((List.range n).filter p)[j]? = some i ↔ i < n ∧ p i = true ∧ ((List.range i).filter p).length = j
  | 0, j, i => by simp
  | n + 1, j, i => by
    have ih := filter_place p n
    rw [List.range_succ, List.filter_append]
    by_cases hj : j < ((List.range n).filter p).length
    · rw [List.getElem?_append_left hj, ih]
      constructor
      · rintro ⟨h1, h2, h3⟩
        exact ⟨by omega, h2, h3⟩
      · rintro ⟨h1, h2, h3⟩
        refine ⟨?_, h2, h3⟩
        rcases Nat.lt_or_ge i n with h | h
        · exact h
        · obtain rfl : i = n := by omega
          omega
    · rw [List.getElem?_append_right (by omega)]
      by_cases hp : p n = true
      · have e : List.filter p [n] = [n] := by simp [hp]
        rw [e]
        constructor
        · intro h
          have h0 : j - ((List.range n).filter p).length = 0 := by
            have := (List.getElem?_eq_some_iff.1 h).1
            simp at this
            omega
          rw [h0] at h
          obtain rfl : n = i := by simpa using h
          exact ⟨by omega, hp, by omega⟩
        · rintro ⟨h1, h2, h3⟩
          rcases Nat.lt_or_ge i n with h | h
          · have := (ih ((List.range i).filter p).length i).2 ⟨h, h2, rfl⟩
            have := (List.getElem?_eq_some_iff.1 this).1
            omega
          · obtain rfl : i = n := by omega
            rw [show j - ((List.range i).filter p).length = 0 by omega]
            rfl
      · have e : List.filter p [n] = [] := by simp [hp]
        rw [e]
        constructor
        · intro h
          cases h
        · rintro ⟨h1, h2, h3⟩
          exfalso
          rcases Nat.lt_or_ge i n with h | h
          · have := (ih ((List.range i).filter p).length i).2 ⟨h, h2, rfl⟩
            have := (List.getElem?_eq_some_iff.1 this).1
            omega
          · obtain rfl : i = n := by omega
            exact hp h2
theorem ksD_place (d : DiskM) (j i : Nat) : (ksD d)[j]? = some i ↔ i < d.sec.length ∧ penD d.pen i ≠ [] ∧ turnD d i = j := by
  unfold ksD turnD
  rw [filter_place]
  simp
theorem ksD_at {d : DiskM} {j : Nat} (h : j < (ksD d).length) : (ksD d).getD j 0 < d.sec.length ∧ penD d.pen ((ksD d).getD j 0) ≠ [] ∧ turnD d ((ksD d).getD j 0) = j := by
  refine (ksD_place d j _).1 ?_
  rw [List.getD_eq_getElem?_getD, List.getElem?_eq_getElem h]
  rfl
theorem ksD_mem (d : DiskM) (i : Nat) : i ∈ ksD d ↔ i < d.sec.length ∧ penD d.pen i ≠ [] := by unfold ksD; simp
theorem ksD_len (d : DiskM) : (ksD d).length ≤ d.sec.length := by
  unfold ksD
  exact Nat.le_trans (List.length_filter_le _ _) (by simp)
/-- the sectors, when the first j of those with something pending have crashed -/
def secC (d : DiskM) (keep : List Nat) (j : Nat) : List (List Nat) := (List.range d.sec.length).map fun i => if turnD d i < j then crashS d keep i else d.sec.getD i []
theorem secC_len (d : DiskM) (keep : List Nat) (j : Nat) : (secC d keep j).length = d.sec.length := by simp [secC]
theorem secC_at (d : DiskM) (keep : List Nat) (j : Nat) {i : Nat} (h : i < d.sec.length) : (secC d keep j).getD i [] = if turnD d i < j then crashS d keep i else d.sec.getD i [] := range_getD h
theorem secC_start (d : DiskM) (keep : List Nat) : secC d keep 0 = d.sec := by
  refine listL_ext (secC_len d keep 0) fun i hi => ?_
  rw [secC_len] at hi
  rw [secC_at d keep 0 hi, if_neg (Nat.not_lt_zero _)]
theorem secC_step (d : DiskM) (keep : List Nat) {j i : Nat} (hk : (ksD d)[j]? = some i) : secC d keep (j + 1) = (secC d keep j).set i (crashS d keep i) := by
  obtain ⟨h1, h2, h3⟩ := (ksD_place d j i).1 hk
  refine listL_ext (by rw [List.length_set, secC_len, secC_len]) fun a ha => ?_
  rw [secC_len] at ha
  rw [secC_at d keep _ ha, getD_setL _ (by rw [secC_len]; exact h1)]
  by_cases e : i = a
  · subst e
    rw [if_pos rfl, if_pos (by omega)]
  · rw [if_neg e, secC_at d keep j ha]
    by_cases hlt : turnD d a < j
    · rw [if_pos hlt, if_pos (by omega)]
    · rw [if_neg hlt]
      by_cases heq : turnD d a = j
      · rw [if_pos (by omega)]
        unfold crashS
        by_cases hp : penD d.pen a = []
        · rw [if_pos hp]
        · have := (ksD_place d j a).2 ⟨ha, hp, heq⟩
          rw [hk] at this
          exact absurd (Option.some.inj this) e
      · rw [if_neg (by omega)]
theorem secC_end (d : DiskM) (keep : List Nat) : secC d keep (ksD d).length = (List.range d.sec.length).map (crashS d keep) := by
  refine listL_ext (by rw [secC_len]; simp) fun i hi => ?_
  rw [secC_len] at hi
  rw [secC_at d keep _ hi, range_getD hi]
  by_cases hp : penD d.pen i = []
  · unfold crashS
    rw [if_pos hp, ite_self]
  · rw [if_pos]
    have := (ksD_place d (turnD d i) i).2 ⟨hi, hp, rfl⟩
    exact (List.getElem?_eq_some_iff.1 this).1
theorem secC_now (d : DiskM) (keep : List Nat) {j i : Nat} (hk : (ksD d)[j]? = some i) : (secC d keep j).getD i [] = d.sec.getD i [] := by
  obtain ⟨h1, h2, h3⟩ := (ksD_place d j i).1 hk
  rw [secC_at d keep j h1, if_neg (by omega)]
theorem crash_now (d : DiskM) (keep : List Nat) {j i : Nat} (hk : (ksD d)[j]? = some i) : crashS d keep i = tornS (d.sec.getD i []) (penD d.pen i) (keepD keep j) := by
  obtain ⟨h1, h2, h3⟩ := (ksD_place d j i).1 hk
  unfold crashS
  rw [if_neg h2, h3]
theorem dkb_secC {d : DiskM} (hb : DkB d) (keep : List Nat) (j : Nat) : DkB (secS d (secC d keep j)) := by
  have hc : ∀ i, i < d.sec.length → (crashS d keep i).length = 32 ∧ Bys (crashS d keep i) := fun i hi => by
    unfold crashS
    split
    · exact ⟨getD_mem32 hb.ok hi, getD_secB hb.bys.1 i⟩
    · exact ⟨torn_len (getD_mem32 hb.ok hi) fun x hx => (hb.ok.pen _ (pen_mem hx)).1, torn_bys (getD_secB hb.bys.1 i) fun x hx => hb.bys.2 _ (pen_mem hx)⟩
  refine dkb_sec hb (secC_len d keep j) fun s hs => ?_
  obtain ⟨i, hi, rfl⟩ := List.mem_map.1 hs
  have hi := List.mem_range.1 hi
  split
  · exact hc i hi
  · exact ⟨getD_mem32 hb.ok hi, getD_secB hb.bys.1 i⟩
theorem keepD_lt {keep : List Nat} (h : Bys keep) (k : Nat) : keepD keep k < 256 := by
  unfold keepD
  split
  · decide
  · exact h _
/-! ### the keys as they come sorted -/
def ksI (d : DiskM) : List Int := (ksD d).map fun (i : Nat) => (i : Int)
theorem ksI_rise (d : DiskM) : (ksI d).Pairwise (· < ·) := by
  unfold ksI ksD
  refine List.pairwise_map.2 ?_
  refine (List.Pairwise.filter _ List.pairwise_lt_range).imp ?_
  intro a b h
  omega
theorem sorted_ks {w : World} {M k : Nat} {E : DataW Unit} {V : Nat → Value} {d : DiskM} (h : PenW w M k E d.sec.length V d.pen) (hok : DiskOk d) {ss : List Int} (hp : ss.Perm (intKeys E)) : ss.mergeSort (fun x y => decide (x ≤ y)) = ksI d := by
  obtain ⟨es, hE, hpw, _⟩ := h.map.entries law_int
  obtain ⟨es2, hE2, hko⟩ := h.map.keysOf
  obtain rfl : es = es2 := by rw [hE] at hE2; simpa using hE2
  have hk : ∀ p ∈ es, ∃ x, p.1 = .int .i64 x := fun p hp => by
    obtain ⟨v, hv⟩ := hko p hp
    obtain ⟨x, _, hx, _⟩ := Maps.keyOf_i64 Try.underlying3 hv
    exact ⟨x, hx⟩
  have hm : ∀ x, x ∈ ksI d ↔ Maps.has (.map es : DataW Unit) (.int .i64 x) = true := fun x => by
    rw [← hE]
    unfold ksI
    rw [List.mem_map]
    constructor
    · rintro ⟨i, hi, rfl⟩
      have h1 := ((ksD_mem d i).1 hi).2
      have h2 := h.has i
      show Maps.has E (kI i) = true
      rw [h2]
      simpa using h1
    · intro hx
      obtain ⟨i, hi, e⟩ := h.keys _ hx
      have hxi : x = (i : Int) := by unfold kI at e; simpa using e
      refine ⟨i, (ksD_mem d i).2 ⟨hi, ?_⟩, hxi.symm⟩
      have h2 := h.has i
      rw [e] at hx
      rw [h2] at hx
      simpa using hx
  have hnd : (ksI d).Nodup := (ksI_rise d).imp (fun {a b} h e => by omega)
  have hperm : (ksI d).Perm (intKeys (.map es : DataW Unit)) := perm_intKeys hpw hk hnd hm
  rw [hE] at hp
  rw [mergeSort_of_perm_i (hp.trans hperm.symm)]
  refine List.mergeSort_of_pairwise ((ksI_rise d).imp fun {a b} h => ?_)
  simpa using Int.le_of_lt h
end Go.Proofs.Ytdpdgmfmjgjmiaa
