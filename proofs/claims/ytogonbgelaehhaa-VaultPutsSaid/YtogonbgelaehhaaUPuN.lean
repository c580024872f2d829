/- Versions put by their numbers, one deleted, the rest got: lists (stage 17: VaultPuts). -/
import Derived.Test.YtogonbgelaehhaaUPrN
namespace Go.Proofs.Ytogonbgelaehhaa
open Go.RowKit
set_option linter.unusedVariables false

def stW (l : List Nat) : StU RawV := ⟨l.map verI, [0, 0, 0], [wrongU noV 0, wrongU noV 0, wrongU noV 0]⟩
def stepW (l : List Nat) (i : Nat) : List Nat := if i ∈ l then l else if 8 ≤ l.length then l else l ++ [i]
def errW (l : List Nat) (i : Nat) : Nat := if i ∈ l then 4 else if 8 ≤ l.length then 2 else 0
def leftW (l : List Nat) (i : Nat) : List Nat := l.filter fun x => decide (x ≠ i)
def GoodW (l : List Nat) : Prop := l.Nodup ∧ l.length ≤ 8 ∧ ∀ x ∈ l, x < 12
theorem ids_W (l : List Nat) : (l.map verI).map RawV.id = l := by
  rw [List.map_map]
  conv => rhs; rw [← List.map_id l]
  rfl
theorem has_W (l : List Nat) (i : Nat) : hasU RawV.id (l.map verI) i = decide (i ∈ l) := by
  rw [Bool.eq_iff_iff, has_iff, ids_W, decide_eq_true_eq]
theorem do_putW (l : List Nat) (i : Nat) : doR (l.map verI) 1 0 (verI i) = ((stepW l i).map verI, ⟨errW l i, [], noV⟩) := by
  unfold doR doU stepW errW
  rw [if_pos rfl, if_pos (may_verI _), show RawV.id (verI i) = i from rfl, has_W, List.length_map]
  by_cases h : i ∈ l
  · simp [h, wrongU]
  · by_cases h8 : 8 ≤ l.length
    · simp [h, h8, wrongU]
    · simp [h, h8]
theorem good_nil : GoodW [] := ⟨List.nodup_nil, by simp, fun x hx => by cases hx⟩
theorem good_step {l : List Nat} (h : GoodW l) {i : Nat} (hi : i < 12) : GoodW (stepW l i) := by
  unfold stepW
  by_cases h1 : i ∈ l
  · rw [if_pos h1]; exact h
  · rw [if_neg h1]
    by_cases h8 : 8 ≤ l.length
    · rw [if_pos h8]; exact h
    · rw [if_neg h8]
      refine ⟨?_, by rw [List.length_append, List.length_singleton]; omega, fun x hx => ?_⟩
      · rw [List.nodup_append]
        refine ⟨h.1, by simp, fun a ha b hb => ?_⟩
        rw [List.mem_singleton.1 hb]
        rintro rfl
        exact h1 ha
      · rcases List.mem_append.1 hx with hx | hx
        · exact h.2.2 x hx
        · rw [List.mem_singleton.1 hx]; exact hi
theorem stS_W {l : List Nat} (h : GoodW l) : StS (stW l) := by
  refine ⟨⟨⟨fun v hv => ?_, by rw [show (stW l).vers.map RawV.id = l from ids_W l]; exact h.1, by rw [show (stW l).vers = l.map verI from rfl, List.length_map]; exact h.2.1⟩, rfl, rfl⟩, fun v hv => ?_, fun x hx => by simp [stW] at hx; rcases hx with rfl <;> exact repS_wrong 0⟩
  · obtain ⟨i, _, rfl⟩ := List.mem_map.1 hv
    exact may_verI i
  · obtain ⟨i, hi, rfl⟩ := List.mem_map.1 hv
    exact verS_I (Nat.lt_trans (h.2.2 i hi) (by decide))
theorem good_left {l : List Nat} (h : GoodW l) (i : Nat) : GoodW (leftW l i) :=
  ⟨h.1.filter _, Nat.le_trans (List.length_filter_le _ _) h.2.1, fun x hx => h.2.2 x (List.mem_filter.1 hx).1⟩
theorem left_not (l : List Nat) (i : Nat) : i ∉ leftW l i := fun h => by
  have := (List.mem_filter.1 h).2
  simp at this
theorem left_self {l : List Nat} {i : Nat} (h : i ∉ l) : leftW l i = l := by
  unfold leftW
  rw [List.filter_eq_self]
  intro x hx
  simp only [decide_eq_true_eq]
  rintro rfl
  exact h hx
theorem left_lt (l : List Nat) (i : Nat) : decide ((leftW l i).length < l.length) = decide (i ∈ l) := by
  rw [Bool.eq_iff_iff, decide_eq_true_eq, decide_eq_true_eq]
  constructor
  · intro h
    by_cases hi : i ∈ l
    · exact hi
    · rw [left_self hi] at h; omega
  · intro h
    have h1 : (leftW l i).length ≤ l.length := List.length_filter_le _ _
    rcases Nat.lt_or_ge (leftW l i).length l.length with h2 | h2
    · exact h2
    · exfalso
      have h3 : leftW l i = l := List.filter_sublist.eq_of_length (by unfold leftW at h1 h2; omega)
      have h4 := left_not l i
      rw [h3] at h4
      exact h4 h
theorem del_W {l : List Nat} (h : l.Nodup) (i : Nat) : (l.map verI).eraseP (fun v => decide (RawV.id v = i)) = (leftW l i).map verI := by
  induction l with
  | nil => rfl
  | cons a l ih =>
    rw [List.nodup_cons] at h
    by_cases ha : a = i
    · subst ha
      rw [List.map_cons, List.eraseP_cons_of_pos (by simp [verI])]
      unfold leftW
      rw [List.filter_cons_of_neg (by simp)]
      have h1 := left_self h.1
      unfold leftW at h1
      rw [h1]
    · rw [List.map_cons, List.eraseP_cons_of_neg (by simp [verI, ha]), ih h.2]
      unfold leftW
      rw [List.filter_cons_of_pos (by simp [ha])]
      rfl
theorem do_delW {l : List Nat} (h : l.Nodup) (i : Nat) (a : RawV) : doR (l.map verI) 2 i a = ((leftW l i).map verI, ⟨if i ∈ l then 0 else 3, [], noV⟩) := by
  unfold doR doU
  rw [if_neg (by decide), if_pos rfl, has_W, del_W h]
  by_cases hi : i ∈ l
  · simp [hi]
  · simp [hi, left_self hi, wrongU]
theorem do_listW (l : List Nat) (i : Nat) (a : RawV) : doR (l.map verI) 4 i a = (l.map verI, ⟨0, l, noV⟩) := by
  unfold doR doU
  rw [if_neg (by decide), if_neg (by decide), if_neg (by decide), if_pos rfl, ids_W]
theorem find_W (l : List Nat) (i : Nat) : (l.map verI).find? (fun v => decide (RawV.id v = i)) = if i ∈ l then some (verI i) else none := by
  induction l with
  | nil => rfl
  | cons a l ih =>
    by_cases ha : a = i
    · subst ha
      rw [List.map_cons, List.find?_cons_of_pos (by simp [verI]), if_pos (by simp)]
    · rw [List.map_cons, List.find?_cons_of_neg (by simp [verI, ha]), ih]
      simp [show ¬ i = a from fun e => ha e.symm]
theorem do_getW (l : List Nat) (i : Nat) (a : RawV) : doR (l.map verI) 5 i a = (l.map verI, if i ∈ l then ⟨0, [], verI i⟩ else ⟨3, [], noV⟩) := by
  unfold doR doU
  rw [if_neg (by decide), if_neg (by decide), if_neg (by decide), if_neg (by decide), if_pos rfl, find_W]
  by_cases hi : i ∈ l
  · simp [hi]
  · simp [hi, wrongU]
theorem mem_take_succ {l : List Nat} {k : Nat} (h : k < l.length) (i : Nat) : decide (i ∈ l.take (k + 1)) = (decide (i ∈ l.take k) || decide (l.getD k 0 = i)) := by
  have e : l.take (k + 1) = l.take k ++ [l.getD k 0] := by rw [List.take_succ_eq_append_getElem h, List.getD_eq_getElem?_getD, List.getElem?_eq_getElem h]; rfl
  rw [e, Bool.eq_iff_iff]
  simp only [List.mem_append, List.mem_singleton, decide_eq_true_eq, Bool.or_eq_true]
  exact ⟨fun h => h.imp_right fun e => e.symm, fun h => h.imp_right fun e => e.symm⟩
theorem left_take {l : List Nat} {k : Nat} (h : k < l.length) (i : Nat) : leftW (l.take (k + 1)) i = if l.getD k 0 = i then leftW (l.take k) i else leftW (l.take k) i ++ [l.getD k 0] := by
  have e : l.take (k + 1) = l.take k ++ [l.getD k 0] := by rw [List.take_succ_eq_append_getElem h, List.getD_eq_getElem?_getD, List.getElem?_eq_getElem h]; rfl
  unfold leftW
  rw [e, List.filter_append]
  by_cases hi : l.getD k 0 = i
  · rw [if_pos hi, List.filter_cons_of_neg (by simp only [decide_eq_true_eq]; exact fun h => h hi), List.filter_nil, List.append_nil]
  · rw [if_neg hi, List.filter_cons_of_pos (by simpa using hi), List.filter_nil]
theorem getD_memW {l : List Nat} {k : Nat} (h : k < l.length) : l.getD k 0 ∈ l := by
  rw [List.getD_eq_getElem?_getD, List.getElem?_eq_getElem h]
  exact List.getElem_mem _
theorem step_mem {l : List Nat} {i : Nat} (h : i ∈ l) : stepW l i = l ∧ errW l i = 4 := by unfold stepW errW; rw [if_pos h, if_pos h]; exact ⟨rfl, rfl⟩
theorem step_full {l : List Nat} {i : Nat} (h : i ∉ l) (h8 : 8 ≤ l.length) : stepW l i = l ∧ errW l i = 2 := by unfold stepW errW; rw [if_neg h, if_neg h, if_pos h8, if_pos h8]; exact ⟨rfl, rfl⟩
theorem step_put {l : List Nat} {i : Nat} (h : i ∉ l) (h8 : ¬ 8 ≤ l.length) : stepW l i = l ++ [i] ∧ errW l i = 0 := by unfold stepW errW; rw [if_neg h, if_neg h, if_neg h8, if_neg h8]; exact ⟨rfl, rfl⟩
end Go.Proofs.Ytogonbgelaehhaa
