/- What the lengths of frequencies are: a code, or none. -/
import Derived.Test.YtpjdlkbpnodcdaaPNext
import Derived.Test.YtpjdlkbpnodcdaaPLengs
namespace Go.Proofs.Ytpjdlkbpnodcdaa
set_option linter.unusedVariables false

theorem range_filter_len (L : List Nat) (p : Nat → Bool) : (L.filter p).length = ((List.range L.length).filter fun i => p (L.getD i 0)).length := by
  have e : L = (List.range L.length).map fun i => L.getD i 0 := getD_ext L.length rfl (by simp) fun j hj => by rw [map_range_getD _ _ _ hj]
  conv => lhs; rw [e]
  rw [List.filter_map, List.length_map]
  rfl
theorem treesF_range (fr : List Nat) : (treesF fr).length = ((List.range fr.length).filter fun i => decide (0 < fr.getD i 0)).length := by
  unfold treesF
  rw [List.length_map]
theorem lgN_trees {L fr : List Nat} (hl : L.length = fr.length) (h : ∀ i, 0 < L.getD i 0 ↔ 0 < fr.getD i 0) : lgN L 1 = (treesF fr).length := by
  unfold lgN
  rw [range_filter_len, treesF_range, hl]
  congr 1
  refine List.filter_congr fun i _ => ?_
  have := h i
  by_cases h0 : 0 < fr.getD i 0
  · rw [decide_eq_true h0, decide_eq_true (show 1 ≤ L.getD i 0 by have := this.2 h0; omega)]
  · rw [decide_eq_false h0, decide_eq_false (show ¬ 1 ≤ L.getD i 0 from fun h' => h0 (this.1 h'))]
theorem not_right {L : List Nat} (h : kraftW L = 0) : ¬ RightI (nn L) := fun hr => by
  obtain ⟨M, e, h1⟩ := hr.nat
  have hML : M = L := by
    have : ∀ (a b : List Nat), nn a = nn b → a = b := fun a b hab => by
      unfold nn at hab
      exact List.map_inj_right (fun x y hxy => by omega) |>.1 hab
    exact (this _ _ e).symm
  subst hML
  rcases h1.2.2 with hk | hk
  · omega
  · have := ((single_iff h1.2.1).1 hk).2
    omega
theorem lens_facts {fr : List Nat} {lim : Nat} (h1 : 1 ≤ lim) (h15 : lim ≤ 15) (hl : fr.length ≤ 300) (hM : (treesF fr).length ≤ 2 ^ lim) (hf : ∀ i, fr.getD i 0 ≤ 1048576) :
    (lensF lim 20 fr).length = fr.length ∧ (∀ i, (lensF lim 20 fr).getD i 0 ≤ lim) ∧ (∀ i, 0 < (lensF lim 20 fr).getD i 0 ↔ 0 < fr.getD i 0) ∧
    ((treesF fr).length = 0 → kraftW (lensF lim 20 fr) = 0 ∧ ¬ RightI (nn (lensF lim 20 fr))) ∧
    ((treesF fr).length = 1 → kraftW (lensF lim 20 fr) = 16384 ∧ RightN (lensF lim 20 fr)) ∧
    (2 ≤ (treesF fr).length → kraftW (lensF lim 20 fr) = 32768 ∧ RightN (lensF lim 20 fr)) := by
  have a1 := lensF_len lim 20 fr
  have a2 := lensF_ends h1 (k := 20) hM (fun i => hf i)
  obtain ⟨fr', e, b1, b2, b3⟩ := lensF_some lim 20 fr
  generalize lensF lim 20 fr = L at *
  subst e
  have c1 : ∀ i, (depthsF fr').getD i 0 ≤ lim := fun i => by
    rcases Nat.lt_or_ge i (depthsF fr').length with h | h
    · exact a2 _ (getD_mem _ _ h)
    · rw [List.getD_eq_getElem?_getD, List.getElem?_eq_none h]; exact Nat.zero_le _
  have c2 : ∀ i, 0 < (depthsF fr').getD i 0 ↔ 0 < fr.getD i 0 := fun i => by
    rw [← b3 i]
    rcases Nat.lt_or_ge i fr'.length with h | h
    · rw [depthsF_getD h]; exact depF_pos h
    · rw [List.getD_eq_getElem?_getD, List.getElem?_eq_none (by rw [depthsF_len]; exact h), List.getD_eq_getElem?_getD, List.getElem?_eq_none h]
  have c3 : ∀ i, (depthsF fr').getD i 0 ≤ 15 := fun i => Nat.le_trans (c1 i) h15
  have hlg := lgN_trees a1 c2
  refine ⟨a1, c1, c2, fun h => ?_, fun h => ?_, fun h => ?_⟩
  · have := kraft_none (fr := fr') (by omega)
    exact ⟨this, not_right this⟩
  · have hk := kraft_one (fr := fr') (by omega)
    exact ⟨hk, by omega, c3, .inr ((single_iff c3).2 ⟨by omega, hk⟩)⟩
  · have hk := kraft_whole (fr := fr') (by omega) (fun d hd => Nat.le_trans (a2 d hd) h15)
    exact ⟨hk, by omega, c3, .inl hk⟩
theorem trees_le {fr : List Nat} {lim : Nat} (hl : fr.length ≤ 300) (h : 9 ≤ lim) : (treesF fr).length ≤ 2 ^ lim := by
  have h1 := treesF_len fr
  have h2 : 2 ^ 9 ≤ 2 ^ lim := Nat.pow_le_pow_right (by decide) h
  omega
/-- all of them come -/
theorem trees_all {fr : List Nat} (h : ∀ i, i < fr.length → 0 < fr.getD i 0) : (treesF fr).length = fr.length := by
  rw [treesF_range, List.filter_eq_self.2 fun i hi => decide_eq_true (h i (List.mem_range.1 hi)), List.length_range]
theorem mayC_of {fr : List Nat} {lim : Nat} (hl : fr.length ≤ 300) (hM : (treesF fr).length ≤ 2 ^ lim) (hf : ∀ i, fr.getD i 0 ≤ 1048576) : MayC (nn fr) lim := by
  refine ⟨by rw [nn_length]; exact hl, fun x hx => ?_, by rw [usedI_nn]; exact hM⟩
  unfold nn at hx
  obtain ⟨n, hn, rfl⟩ := List.mem_map.1 hx
  obtain ⟨i, hi, rfl⟩ := mem_getD hn
  have := hf i
  exact ⟨by omega, by omega⟩
end Go.Proofs.Ytpjdlkbpnodcdaa
