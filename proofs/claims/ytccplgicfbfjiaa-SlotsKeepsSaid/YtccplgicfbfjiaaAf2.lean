/- As XAft's law, where what stands ahead of the call may make memory: a class of worlds that all of it keeps to. -/
import Derived.Test.YtccplgicfbfjiaaAft
namespace Go.Proofs.Ytccplgicfbfjiaa
open Go.RowKit
set_option linter.unusedVariables false
section
variable {P : Program}
/-- what an operation ahead of the call comes to -/
def CameM (F : (Nat → Value) → Array Value) (D : List Deferred) (C : World → Prop) (Φ : Value → Prop) (u : Nat → Value) (i : Nat) (a : Act) (W : World) : Prop := C W ∧ ∃ v, a = ⟨F (upd u i v), D⟩ ∧ Φ v
theorem region_afterM {X : Type} {id : Nat} {Q' : Exit → Act → World → Prop} {a : Act} {w : World} {l : List Oper} (k n : Nat) (hkn : k < n) (hm : P.follows .mixedOrders = true) (hl : lexical l.toArray = true) (hn : lastAll l.toArray n = true) (hk : headsAll l.toArray k n = true) (ht : tailsAll l.toArray k n = true)
    (F : (Nat → Value) → Array Value) (D : List Deferred) (u0 : Nat → Value) (ha : a = ⟨F u0, D⟩) (C : World → Prop) (hC : C w.drew) (Φ : Nat → Value → Prop) (val : X → Value) (post : X → World → Prop) (Ψ : X → Nat → Value → Prop)
    (hhead : ∀ (u : Nat → Value) (i : Nat) (o : Oper) (W : World), C W → i < k → l[i]? = some o → (∀ e ∈ o.after, Region.binds .any e = true → Φ e.on (u e.on)) →
      wpList P l.toArray (Exit.then (CameM F D C (Φ i) u i) (fun _ _ _ => False)) [o] ⟨F u, D⟩ W)
    (hone : ∀ (u : Nat → Value) (o : Oper) (W : World), C W → l[k]? = some o → (∀ i, i < k → Φ i (u i)) →
      wpList P l.toArray (Exit.then (CameX F D val post u k) (fun _ _ _ => False)) [o] ⟨F u, D⟩ W)
    (htail : ∀ (x : X) (u : Nat → Value) (i : Nat) (o : Oper) (W : World), k < i → i < n → l[i]? = some o → post x W → u k = val x → (∀ e ∈ o.after, Region.binds .any e = true → k < e.on → Ψ x e.on (u e.on)) →
      wpList P l.toArray (Exit.then (CameA F D W (Ψ x i) u i) (fun _ _ _ => False)) [o] ⟨F u, D⟩ W)
    (hlast : ∀ (x : X) (u : Nat → Value) (o : Oper) (W : World), l[n]? = some o → post x W → u k = val x → (∀ i, k < i → i < n → Ψ x i (u i)) →
      wpList P l.toArray (Exit.then (fun a' W' => Q' .normal a' W') (fun _ _ _ => False)) [o] ⟨F u, D⟩ W) : (Code.region id l.toArray true).wp P Q' a w := by
  simp only [lastAll, Bool.and_eq_true, decide_eq_true_eq] at hn
  obtain ⟨hsz, hall⟩ := hn
  have hsz' : l.length = n + 1 := by simpa using hsz
  have reach : ∀ (L : Nat → Bool), Closed l L → ∀ (i : Nat) (o : Oper), l[i]? = some o → (∀ e ∈ o.after, Region.binds .any e = true → L e.on = true) → ∀ y ∈ needK l.toArray n (needs l.toArray [i]), L y = true := fun L hc i o ho hd y hy => by
    refine needK_listed hc n _ (fun z hz => ?_) y hy
    obtain ⟨j, hj, o', ho', e, he, hb, rfl⟩ := needs_mem hz
    rw [List.mem_singleton.1 hj] at ho'
    have : o' = o := by simp only [List.getElem?_toArray] at ho'; rw [ho] at ho'; exact (Option.some.inj ho').symm
    subst this
    exact hd e he hb
  have heads : ∀ (L : Nat → Bool), Closed l L → ∀ (o : Oper), l[k]? = some o → (∀ e ∈ o.after, Region.binds .any e = true → L e.on = true) → ∀ i, i < k → L i = true := fun L hc o ho hd i hi => by
    have := List.all_eq_true.1 hk i (List.mem_range.2 hi)
    exact reach L hc k o ho hd i (by simpa using this)
  have tails : ∀ (L : Nat → Bool), Closed l L → ∀ (i : Nat) (o : Oper), k < i → i ≤ n → l[i]? = some o → (∀ e ∈ o.after, Region.binds .any e = true → L e.on = true) → L k = true := fun L hc i o hi hin ho hd => by
    have := List.all_eq_true.1 ht i (List.mem_range.2 (by omega))
    rw [decide_eq_false (by omega), Bool.false_or] at this
    exact reach L hc i o ho hd k (by simpa using this)
  have whole : ∀ (L : Nat → Bool), Closed l L → ∀ (o : Oper), l[n]? = some o → (∀ e ∈ o.after, Region.binds .any e = true → L e.on = true) → ∀ i, i < n → L i = true := fun L hc o ho hd i hi => by
    have := List.all_eq_true.1 hall i (List.mem_range.2 hi)
    exact reach L hc n o ho hd i (by simpa using this)
  refine region_inv hm hl (fun L a W => Closed l L ∧ ((L n = false ∧ L k = false ∧ C W ∧ ∃ u, a = ⟨F u, D⟩ ∧ ∀ i, i < k → L i = true → Φ i (u i)) ∨ (L n = false ∧ L k = true ∧ ∃ x u, a = ⟨F u, D⟩ ∧ post x W ∧ u k = val x ∧ ∀ i, k < i → i < n → L i = true → Ψ x i (u i)) ∨ ((∀ i, i ≤ n → L i = true) ∧ Q' .normal a W)))
    ⟨(fun j o _ h => by cases h), .inl ⟨rfl, rfl, hC, u0, ha, fun i _ h => by cases h⟩⟩ ?_ ?_ ?_
  · rintro L L' a W hE ⟨hc, hI⟩
    refine ⟨fun j o ho hj e he hb => ?_, ?_⟩
    · have hjl : j < l.length := (List.getElem?_eq_some_iff.1 ho).1
      have hlex := (lexical_spec hl (show l.toArray[j]? = some o by simpa using ho)).2 e he hb
      rw [← hE e.on (by omega)]
      exact hc j o ho (by rw [hE j hjl]; exact hj) e he hb
    · rcases hI with ⟨h0, hL, h1, u, h2, h3⟩ | ⟨h0, hL, x, u, h1, h2, h3, h4⟩ | ⟨h1, h2⟩
      · exact .inl ⟨by rw [← hE n (by omega)]; exact h0, by rw [← hE k (by omega)]; exact hL, h1, u, h2, fun i hi h => h3 i hi (by rw [hE i (by omega)]; exact h)⟩
      · exact .inr (.inl ⟨by rw [← hE n (by omega)]; exact h0, by rw [← hE k (by omega)]; exact hL, x, u, h1, h2, h3, fun i hi hin h => h4 i hi hin (by rw [hE i (by omega)]; exact h)⟩)
      · exact .inr (.inr ⟨fun i hi => by rw [← hE i (by omega)]; exact h1 i hi, h2⟩)
  · rintro L a W i o ⟨hc, hI⟩ ho hL hdep
    have hlex := (lexical_spec hl (show l.toArray[i]? = some o by simpa using ho)).2
    have hil : i < l.length := (List.getElem?_eq_some_iff.1 ho).1
    have hc' : Closed l (fun j => j == i || L j) := fun j o' ho' hj e he hb => by
      by_cases hji : j = i
      · subst hji
        have : o' = o := by rw [ho] at ho'; exact (Option.some.inj ho').symm
        subst this
        simp [hdep e he hb]
      · have := hc j o' ho' (by simpa [hji] using hj) e he hb
        simp [this]
    have key : ∀ (K K' : Act → World → Prop), wpList P l.toArray (Exit.then K (fun _ _ _ => False)) [o] a W → (∀ a' W', K a' W' → K' a' W') → wpList P l.toArray (Exit.then K' (fun _ _ _ => False)) [o] a W := by
      intro K K' hs fin
      unfold wpList at hs ⊢
      split at hs
      · rename_i hw
        rw [if_pos hw]
        rcases hs with hs | ⟨hs1, a', w', hs⟩
        · exact .inl (oper_monoQ (fun _ _ _ h => h) (fun _ _ h => h) (Oper.wp_mono (fun a' w' h => by unfold wpList at h ⊢; exact fin _ _ h) hs))
        · exact hs.elim
      · rename_i hw
        rw [if_neg hw]
        unfold wpList at hs ⊢
        exact fin _ _ hs
    rcases hI with ⟨h0, hLk, hCW, u, rfl, h3⟩ | ⟨h0, hLk, x, u, rfl, h2, h3, h4⟩ | ⟨h1, _⟩
    · rcases Nat.lt_trichotomy i k with hik | hik | hik
      · have hd : ∀ e ∈ o.after, Region.binds .any e = true → Φ e.on (u e.on) := fun e he hb => h3 e.on (by have := hlex e he hb; omega) (hdep e he hb)
        refine key _ _ (hhead u i o _ hCW hik ho hd) fun a' W' => ?_
        rintro ⟨hCW', v, rfl, hv⟩
        refine ⟨hc', .inl ⟨by simp [h0]; omega, by simp [hLk]; omega, hCW', _, rfl, fun j hj h => ?_⟩⟩
        by_cases e : j = i
        · subst e; rw [upd_same]; exact hv
        · rw [upd_other _ _ _ _ e]; exact h3 j hj (by simpa [e] using h)
      · subst hik
        have hh := heads L hc o ho hdep
        refine key _ _ (hone u o _ hCW ho fun j hj => h3 j hj (hh j hj)) fun a' W' => ?_
        rintro ⟨x, rfl, hp⟩
        refine ⟨hc', .inr (.inl ⟨by simp [h0]; omega, by simp, x, _, rfl, hp, upd_same _ _ _, fun j hj hjn h => ?_⟩)⟩
        have hLj : L j = true := by simpa [show j ≠ i by omega] using h
        have hjo : ∃ oj, l[j]? = some oj := ⟨_, List.getElem?_eq_getElem (by omega)⟩
        obtain ⟨oj, hoj⟩ := hjo
        have := tails L hc j oj hj (by omega) hoj (fun e he hb => hc j oj hoj hLj e he hb)
        rw [hLk] at this
        cases this
      · have := tails L hc i o hik (by omega) ho hdep
        rw [hLk] at this
        cases this
    · obtain ⟨ok, hok⟩ : ∃ ok, l[k]? = some ok := ⟨_, List.getElem?_eq_getElem (by omega)⟩
      have hhd := heads L hc ok hok (fun e he hb => hc k ok hok hLk e he hb)
      have hki : k < i := by
        rcases Nat.lt_trichotomy i k with h | h | h
        · rw [hhd i h] at hL; cases hL
        · subst h; rw [hLk] at hL; cases hL
        · exact h
      by_cases hin : i = n
      · subst hin
        have hw := whole L hc o ho hdep
        refine key _ _ (hlast x u o W ho h2 h3 fun j hj hjn => h4 j hj hjn (hw j hjn)) fun a' W' h => ?_
        refine ⟨hc', .inr (.inr ⟨fun j hj => ?_, h⟩)⟩
        by_cases e : j = i
        · simp [e]
        · simp [hw j (by omega)]
      · refine key _ _ (htail x u i o W hki (by omega) ho h2 h3 fun e he hb hke => h4 e.on hke (by have := hlex e he hb; omega) (hdep e he hb)) fun a' W' => ?_
        rintro ⟨rfl, v, rfl, hv⟩
        refine ⟨hc', .inr (.inl ⟨by simp [h0]; omega, by simp [hLk], x, _, rfl, h2, by rw [upd_other _ _ _ _ (by omega)]; exact h3, fun j hj hjn h => ?_⟩)⟩
        by_cases e : j = i
        · subst e; rw [upd_same]; exact hv
        · rw [upd_other _ _ _ _ e]; exact h4 j hj hjn (by simpa [e] using h)
    · have := h1 i (by omega)
      rw [hL] at this
      cases this
  · rintro a W ⟨_, ⟨h0, _⟩ | ⟨h0, _⟩ | ⟨_, h⟩⟩
    · cases h0
    · cases h0
    · exact h
end
end Go.Proofs.Ytccplgicfbfjiaa
