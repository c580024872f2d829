/- A region in an open order in which one call (operation k) waits for all that stands ahead of it, and all that stands behind it takes its results apart: what the call came to is one datum for all of them. -/
import Derived.Test.YtogonbgelaehhaaG1
namespace Go.Proofs.Ytogonbgelaehhaa
open Go.RowKit
set_option linter.unusedVariables false
section
variable {P : Program}
def headsAll (ops : Array Oper) (k n : Nat) : Bool := (List.range k).all fun i => (needK ops n (needs ops [k])).contains i
def tailsAll (ops : Array Oper) (k n : Nat) : Bool := (List.range (n + 1)).all fun i => decide (i ≤ k) || (needK ops n (needs ops [i])).contains k
/-- what an operation that turns nothing comes to -/
def CameA (F : (Nat → Value) → Array Value) (D : List Deferred) (W0 : World) (Φ : Value → Prop) (u : Nat → Value) (i : Nat) (a : Act) (W : World) : Prop := W = W0 ∧ ∃ v, a = ⟨F (upd u i v), D⟩ ∧ Φ v
/-- what the call comes to -/
def CameX {X : Type} (F : (Nat → Value) → Array Value) (D : List Deferred) (val : X → Value) (post : X → World → Prop) (u : Nat → Value) (k : Nat) (a : Act) (W : World) : Prop := ∃ x, a = ⟨F (upd u k (val x)), D⟩ ∧ post x W
theorem region_after {X : Type} {id : Nat} {Q' : Exit → Act → World → Prop} {a : Act} {w : World} {l : List Oper} (k n : Nat) (hkn : k < n) (hm : P.follows .mixedOrders = true) (hl : lexical l.toArray = true) (hn : lastAll l.toArray n = true) (hk : headsAll l.toArray k n = true) (ht : tailsAll l.toArray k n = true)
    (F : (Nat → Value) → Array Value) (D : List Deferred) (u0 : Nat → Value) (ha : a = ⟨F u0, D⟩) (Φ : Nat → Value → Prop) (val : X → Value) (post : X → World → Prop) (Ψ : X → Nat → Value → Prop)
    (hhead : ∀ (u : Nat → Value) (i : Nat) (o : Oper), i < k → l[i]? = some o → (∀ e ∈ o.after, Region.binds .any e = true → Φ e.on (u e.on)) →
      wpList P l.toArray (Exit.then (CameA F D w.drew (Φ i) u i) (fun _ _ _ => False)) [o] ⟨F u, D⟩ w.drew)
    (hone : ∀ (u : Nat → Value) (o : Oper), l[k]? = some o → (∀ i, i < k → Φ i (u i)) →
      wpList P l.toArray (Exit.then (CameX F D val post u k) (fun _ _ _ => False)) [o] ⟨F u, D⟩ w.drew)
    (htail : ∀ (x : X) (u : Nat → Value) (i : Nat) (o : Oper) (W : World), k < i → i < n → l[i]? = some o → post x W → u k = val x → (∀ e ∈ o.after, Region.binds .any e = true → k < e.on → Ψ x e.on (u e.on)) →
      wpList P l.toArray (Exit.then (CameA F D W (Ψ x i) u i) (fun _ _ _ => False)) [o] ⟨F u, D⟩ W)
    (hlast : ∀ (x : X) (u : Nat → Value) (o : Oper) (W : World), l[n]? = some o → post x W → u k = val x → (∀ i, k < i → i < n → Ψ x i (u i)) →
      wpList P l.toArray (Exit.then (fun a' W' => Q' .normal a' W') (fun _ _ _ => False)) [o] ⟨F u, D⟩ W) : (Code.region id l.toArray true).wp P Q' a w := by
  simp only [lastAll, Bool.and_eq_true, decide_eq_true_eq] at hn
  obtain ⟨hsz, hall⟩ := hn
  have hsz' : l.length = n + 1 := by simpa using hsz
  have reach : ∀ (L : Nat → Bool), Closed l L → ∀ (i : Nat) (o : Oper), l[i]? = some o → (∀ e ∈ o.after, Region.binds .any e = true → L e.on = true) → ∀ y ∈ needK l.toArray n (needs l.toArray [i]), L y = true := fun L hc i o ho hd y hy => by
    refine needK_listed hc n _ (fun z hz => ?_) y hy
    obtain ⟨j, hj, o', ho', e, he, hb, rfl⟩ := needs_mem hz
    rw [List.mem_singleton.1 hj] at ho'
    have : o' = o := by simp only [List.getElem?_toArray] at ho'; rw [ho] at ho'; exact (Option.some.inj ho').symm
    subst this
    exact hd e he hb
  have heads : ∀ (L : Nat → Bool), Closed l L → ∀ (o : Oper), l[k]? = some o → (∀ e ∈ o.after, Region.binds .any e = true → L e.on = true) → ∀ i, i < k → L i = true := fun L hc o ho hd i hi => by
    have := List.all_eq_true.1 hk i (List.mem_range.2 hi)
    exact reach L hc k o ho hd i (by simpa using this)
  have tails : ∀ (L : Nat → Bool), Closed l L → ∀ (i : Nat) (o : Oper), k < i → i ≤ n → l[i]? = some o → (∀ e ∈ o.after, Region.binds .any e = true → L e.on = true) → L k = true := fun L hc i o hi hin ho hd => by
    have := List.all_eq_true.1 ht i (List.mem_range.2 (by omega))
    rw [decide_eq_false (by omega), Bool.false_or] at this
    exact reach L hc i o ho hd k (by simpa using this)
  have whole : ∀ (L : Nat → Bool), Closed l L → ∀ (o : Oper), l[n]? = some o → (∀ e ∈ o.after, Region.binds .any e = true → L e.on = true) → ∀ i, i < n → L i = true := fun L hc o ho hd i hi => by
    have := List.all_eq_true.1 hall i (List.mem_range.2 hi)
    exact reach L hc n o ho hd i (by simpa using this)
  refine region_inv hm hl (fun L a W => Closed l L ∧ ((L n = false ∧ L k = false ∧ W = w.drew ∧ ∃ u, a = ⟨F u, D⟩ ∧ ∀ i, i < k → L i = true → Φ i (u i)) ∨ (L n = false ∧ L k = true ∧ ∃ x u, a = ⟨F u, D⟩ ∧ post x W ∧ u k = val x ∧ ∀ i, k < i → i < n → L i = true → Ψ x i (u i)) ∨ ((∀ i, i ≤ n → L i = true) ∧ Q' .normal a W)))
    ⟨(fun j o _ h => by cases h), .inl ⟨rfl, rfl, rfl, u0, ha, fun i _ h => by cases h⟩⟩ ?_ ?_ ?_
  · rintro L L' a W hE ⟨hc, hI⟩
    refine ⟨fun j o ho hj e he hb => ?_, ?_⟩
    · have hjl : j < l.length := (List.getElem?_eq_some_iff.1 ho).1
      have hlex := (lexical_spec hl (show l.toArray[j]? = some o by simpa using ho)).2 e he hb
      rw [← hE e.on (by omega)]
      exact hc j o ho (by rw [hE j hjl]; exact hj) e he hb
    · rcases hI with ⟨h0, hL, h1, u, h2, h3⟩ | ⟨h0, hL, x, u, h1, h2, h3, h4⟩ | ⟨h1, h2⟩
      · exact .inl ⟨by rw [← hE n (by omega)]; exact h0, by rw [← hE k (by omega)]; exact hL, h1, u, h2, fun i hi h => h3 i hi (by rw [hE i (by omega)]; exact h)⟩
      · exact .inr (.inl ⟨by rw [← hE n (by omega)]; exact h0, by rw [← hE k (by omega)]; exact hL, x, u, h1, h2, h3, fun i hi hin h => h4 i hi hin (by rw [hE i (by omega)]; exact h)⟩)
      · exact .inr (.inr ⟨fun i hi => by rw [← hE i (by omega)]; exact h1 i hi, h2⟩)
  · rintro L a W i o ⟨hc, hI⟩ ho hL hdep
    have hlex := (lexical_spec hl (show l.toArray[i]? = some o by simpa using ho)).2
    have hil : i < l.length := (List.getElem?_eq_some_iff.1 ho).1
    have hc' : Closed l (fun j => j == i || L j) := fun j o' ho' hj e he hb => by
      by_cases hji : j = i
      · subst hji
        have : o' = o := by rw [ho] at ho'; exact (Option.some.inj ho').symm
        subst this
        simp [hdep e he hb]
      · have := hc j o' ho' (by simpa [hji] using hj) e he hb
        simp [this]
    have key : ∀ (K K' : Act → World → Prop), wpList P l.toArray (Exit.then K (fun _ _ _ => False)) [o] a W → (∀ a' W', K a' W' → K' a' W') → wpList P l.toArray (Exit.then K' (fun _ _ _ => False)) [o] a W := by
      intro K K' hs fin
      unfold wpList at hs ⊢
      split at hs
      · rename_i hw
        rw [if_pos hw]
        rcases hs with hs | ⟨hs1, a', w', hs⟩
        · exact .inl (oper_monoQ (fun _ _ _ h => h) (fun _ _ h => h) (Oper.wp_mono (fun a' w' h => by unfold wpList at h ⊢; exact fin _ _ h) hs))
        · exact hs.elim
      · rename_i hw
        rw [if_neg hw]
        unfold wpList at hs ⊢
        exact fin _ _ hs
    rcases hI with ⟨h0, hLk, rfl, u, rfl, h3⟩ | ⟨h0, hLk, x, u, rfl, h2, h3, h4⟩ | ⟨h1, _⟩
    · rcases Nat.lt_trichotomy i k with hik | hik | hik
      · have hd : ∀ e ∈ o.after, Region.binds .any e = true → Φ e.on (u e.on) := fun e he hb => h3 e.on (by have := hlex e he hb; omega) (hdep e he hb)
        refine key _ _ (hhead u i o hik ho hd) fun a' W' => ?_
        rintro ⟨rfl, v, rfl, hv⟩
        refine ⟨hc', .inl ⟨by simp [h0]; omega, by simp [hLk]; omega, rfl, _, rfl, fun j hj h => ?_⟩⟩
        by_cases e : j = i
        · subst e; rw [upd_same]; exact hv
        · rw [upd_other _ _ _ _ e]; exact h3 j hj (by simpa [e] using h)
      · subst hik
        have hh := heads L hc o ho hdep
        refine key _ _ (hone u o ho fun j hj => h3 j hj (hh j hj)) fun a' W' => ?_
        rintro ⟨x, rfl, hp⟩
        refine ⟨hc', .inr (.inl ⟨by simp [h0]; omega, by simp, x, _, rfl, hp, upd_same _ _ _, fun j hj hjn h => ?_⟩)⟩
        have hLj : L j = true := by simpa [show j ≠ i by omega] using h
        have hjo : ∃ oj, l[j]? = some oj := ⟨_, List.getElem?_eq_getElem (by omega)⟩
        obtain ⟨oj, hoj⟩ := hjo
        have := tails L hc j oj hj (by omega) hoj (fun e he hb => hc j oj hoj hLj e he hb)
        rw [hLk] at this
        cases this
      · have := tails L hc i o hik (by omega) ho hdep
        rw [hLk] at this
        cases this
    · obtain ⟨ok, hok⟩ : ∃ ok, l[k]? = some ok := ⟨_, List.getElem?_eq_getElem (by omega)⟩
      have hhd := heads L hc ok hok (fun e he hb => hc k ok hok hLk e he hb)
      have hki : k < i := by
        rcases Nat.lt_trichotomy i k with h | h | h
        · rw [hhd i h] at hL; cases hL
        · subst h; rw [hLk] at hL; cases hL
        · exact h
      by_cases hin : i = n
      · subst hin
        have hw := whole L hc o ho hdep
        refine key _ _ (hlast x u o W ho h2 h3 fun j hj hjn => h4 j hj hjn (hw j hjn)) fun a' W' h => ?_
        refine ⟨hc', .inr (.inr ⟨fun j hj => ?_, h⟩)⟩
        by_cases e : j = i
        · simp [e]
        · simp [hw j (by omega)]
      · refine key _ _ (htail x u i o W hki (by omega) ho h2 h3 fun e he hb hke => h4 e.on hke (by have := hlex e he hb; omega) (hdep e he hb)) fun a' W' => ?_
        rintro ⟨rfl, v, rfl, hv⟩
        refine ⟨hc', .inr (.inl ⟨by simp [h0]; omega, by simp [hLk], x, _, rfl, h2, by rw [upd_other _ _ _ _ (by omega)]; exact h3, fun j hj hjn h => ?_⟩)⟩
        by_cases e : j = i
        · subst e; rw [upd_same]; exact hv
        · rw [upd_other _ _ _ _ e]; exact h4 j hj hjn (by simpa [e] using h)
    · have := h1 i (by omega)
      rw [hL] at this
      cases this
  · rintro a W ⟨_, ⟨h0, _⟩ | ⟨h0, _⟩ | ⟨_, h⟩⟩
    · cases h0
    · cases h0
    · exact h
end
end Go.Proofs.Ytogonbgelaehhaa
namespace Go.Proofs.Ytogonbgelaehhaa
open Go.RowKit
set_option linter.unusedVariables false
section
variable {P : Program}
/-- what an operation ahead of the call comes to -/
def CameM (F : (Nat → Value) → Array Value) (D : List Deferred) (C : World → Prop) (Φ : Value → Prop) (u : Nat → Value) (i : Nat) (a : Act) (W : World) : Prop := C W ∧ ∃ v, a = ⟨F (upd u i v), D⟩ ∧ Φ v
theorem region_afterM {X : Type} {id : Nat} {Q' : Exit → Act → World → Prop} {a : Act} {w : World} {l : List Oper} (k n : Nat) (hkn : k < n) (hm : P.follows .mixedOrders = true) (hl : lexical l.toArray = true) (hn : lastAll l.toArray n = true) (hk : headsAll l.toArray k n = true) (ht : tailsAll l.toArray k n = true)
    (F : (Nat → Value) → Array Value) (D : List Deferred) (u0 : Nat → Value) (ha : a = ⟨F u0, D⟩) (C : World → Prop) (hC : C w.drew) (Φ : Nat → Value → Prop) (val : X → Value) (post : X → World → Prop) (Ψ : X → Nat → Value → Prop)
    (hhead : ∀ (u : Nat → Value) (i : Nat) (o : Oper) (W : World), C W → i < k → l[i]? = some o → (∀ e ∈ o.after, Region.binds .any e = true → Φ e.on (u e.on)) →
      wpList P l.toArray (Exit.then (CameM F D C (Φ i) u i) (fun _ _ _ => False)) [o] ⟨F u, D⟩ W)
    (hone : ∀ (u : Nat → Value) (o : Oper) (W : World), C W → l[k]? = some o → (∀ i, i < k → Φ i (u i)) →
      wpList P l.toArray (Exit.then (CameX F D val post u k) (fun _ _ _ => False)) [o] ⟨F u, D⟩ W)
    (htail : ∀ (x : X) (u : Nat → Value) (i : Nat) (o : Oper) (W : World), k < i → i < n → l[i]? = some o → post x W → u k = val x → (∀ e ∈ o.after, Region.binds .any e = true → k < e.on → Ψ x e.on (u e.on)) →
      wpList P l.toArray (Exit.then (CameA F D W (Ψ x i) u i) (fun _ _ _ => False)) [o] ⟨F u, D⟩ W)
    (hlast : ∀ (x : X) (u : Nat → Value) (o : Oper) (W : World), l[n]? = some o → post x W → u k = val x → (∀ i, k < i → i < n → Ψ x i (u i)) →
      wpList P l.toArray (Exit.then (fun a' W' => Q' .normal a' W') (fun _ _ _ => False)) [o] ⟨F u, D⟩ W) : (Code.region id l.toArray true).wp P Q' a w := by
  simp only [lastAll, Bool.and_eq_true, decide_eq_true_eq] at hn
  obtain ⟨hsz, hall⟩ := hn
  have hsz' : l.length = n + 1 := by simpa using hsz
  have reach : ∀ (L : Nat → Bool), Closed l L → ∀ (i : Nat) (o : Oper), l[i]? = some o → (∀ e ∈ o.after, Region.binds .any e = true → L e.on = true) → ∀ y ∈ needK l.toArray n (needs l.toArray [i]), L y = true := fun L hc i o ho hd y hy => by
    refine needK_listed hc n _ (fun z hz => ?_) y hy
    obtain ⟨j, hj, o', ho', e, he, hb, rfl⟩ := needs_mem hz
    rw [List.mem_singleton.1 hj] at ho'
    have : o' = o := by simp only [List.getElem?_toArray] at ho'; rw [ho] at ho'; exact (Option.some.inj ho').symm
    subst this
    exact hd e he hb
  have heads : ∀ (L : Nat → Bool), Closed l L → ∀ (o : Oper), l[k]? = some o → (∀ e ∈ o.after, Region.binds .any e = true → L e.on = true) → ∀ i, i < k → L i = true := fun L hc o ho hd i hi => by
    have := List.all_eq_true.1 hk i (List.mem_range.2 hi)
    exact reach L hc k o ho hd i (by simpa using this)
  have tails : ∀ (L : Nat → Bool), Closed l L → ∀ (i : Nat) (o : Oper), k < i → i ≤ n → l[i]? = some o → (∀ e ∈ o.after, Region.binds .any e = true → L e.on = true) → L k = true := fun L hc i o hi hin ho hd => by
    have := List.all_eq_true.1 ht i (List.mem_range.2 (by omega))
    rw [decide_eq_false (by omega), Bool.false_or] at this
    exact reach L hc i o ho hd k (by simpa using this)
  have whole : ∀ (L : Nat → Bool), Closed l L → ∀ (o : Oper), l[n]? = some o → (∀ e ∈ o.after, Region.binds .any e = true → L e.on = true) → ∀ i, i < n → L i = true := fun L hc o ho hd i hi => by
    have := List.all_eq_true.1 hall i (List.mem_range.2 hi)
    exact reach L hc n o ho hd i (by simpa using this)
  refine region_inv hm hl (fun L a W => Closed l L ∧ ((L n = false ∧ L k = false ∧ C W ∧ ∃ u, a = ⟨F u, D⟩ ∧ ∀ i, i < k → L i = true → Φ i (u i)) ∨ (L n = false ∧ L k = true ∧ ∃ x u, a = ⟨F u, D⟩ ∧ post x W ∧ u k = val x ∧ ∀ i, k < i → i < n → L i = true → Ψ x i (u i)) ∨ ((∀ i, i ≤ n → L i = true) ∧ Q' .normal a W)))
    ⟨(fun j o _ h => by cases h), .inl ⟨rfl, rfl, hC, u0, ha, fun i _ h => by cases h⟩⟩ ?_ ?_ ?_
  · rintro L L' a W hE ⟨hc, hI⟩
    refine ⟨fun j o ho hj e he hb => ?_, ?_⟩
    · have hjl : j < l.length := (List.getElem?_eq_some_iff.1 ho).1
      have hlex := (lexical_spec hl (show l.toArray[j]? = some o by simpa using ho)).2 e he hb
      rw [← hE e.on (by omega)]
      exact hc j o ho (by rw [hE j hjl]; exact hj) e he hb
    · rcases hI with ⟨h0, hL, h1, u, h2, h3⟩ | ⟨h0, hL, x, u, h1, h2, h3, h4⟩ | ⟨h1, h2⟩
      · exact .inl ⟨by rw [← hE n (by omega)]; exact h0, by rw [← hE k (by omega)]; exact hL, h1, u, h2, fun i hi h => h3 i hi (by rw [hE i (by omega)]; exact h)⟩
      · exact .inr (.inl ⟨by rw [← hE n (by omega)]; exact h0, by rw [← hE k (by omega)]; exact hL, x, u, h1, h2, h3, fun i hi hin h => h4 i hi hin (by rw [hE i (by omega)]; exact h)⟩)
      · exact .inr (.inr ⟨fun i hi => by rw [← hE i (by omega)]; exact h1 i hi, h2⟩)
  · rintro L a W i o ⟨hc, hI⟩ ho hL hdep
    have hlex := (lexical_spec hl (show l.toArray[i]? = some o by simpa using ho)).2
    have hil : i < l.length := (List.getElem?_eq_some_iff.1 ho).1
    have hc' : Closed l (fun j => j == i || L j) := fun j o' ho' hj e he hb => by
      by_cases hji : j = i
      · subst hji
        have : o' = o := by rw [ho] at ho'; exact (Option.some.inj ho').symm
        subst this
        simp [hdep e he hb]
      · have := hc j o' ho' (by simpa [hji] using hj) e he hb
        simp [this]
    have key : ∀ (K K' : Act → World → Prop), wpList P l.toArray (Exit.then K (fun _ _ _ => False)) [o] a W → (∀ a' W', K a' W' → K' a' W') → wpList P l.toArray (Exit.then K' (fun _ _ _ => False)) [o] a W := by
      intro K K' hs fin
      unfold wpList at hs ⊢
      split at hs
      · rename_i hw
        rw [if_pos hw]
        rcases hs with hs | ⟨hs1, a', w', hs⟩
        · exact .inl (oper_monoQ (fun _ _ _ h => h) (fun _ _ h => h) (Oper.wp_mono (fun a' w' h => by unfold wpList at h ⊢; exact fin _ _ h) hs))
        · exact hs.elim
      · rename_i hw
        rw [if_neg hw]
        unfold wpList at hs ⊢
        exact fin _ _ hs
    rcases hI with ⟨h0, hLk, hCW, u, rfl, h3⟩ | ⟨h0, hLk, x, u, rfl, h2, h3, h4⟩ | ⟨h1, _⟩
    · rcases Nat.lt_trichotomy i k with hik | hik | hik
      · have hd : ∀ e ∈ o.after, Region.binds .any e = true → Φ e.on (u e.on) := fun e he hb => h3 e.on (by have := hlex e he hb; omega) (hdep e he hb)
        refine key _ _ (hhead u i o _ hCW hik ho hd) fun a' W' => ?_
        rintro ⟨hCW', v, rfl, hv⟩
        refine ⟨hc', .inl ⟨by simp [h0]; omega, by simp [hLk]; omega, hCW', _, rfl, fun j hj h => ?_⟩⟩
        by_cases e : j = i
        · subst e; rw [upd_same]; exact hv
        · rw [upd_other _ _ _ _ e]; exact h3 j hj (by simpa [e] using h)
      · subst hik
        have hh := heads L hc o ho hdep
        refine key _ _ (hone u o _ hCW ho fun j hj => h3 j hj (hh j hj)) fun a' W' => ?_
        rintro ⟨x, rfl, hp⟩
        refine ⟨hc', .inr (.inl ⟨by simp [h0]; omega, by simp, x, _, rfl, hp, upd_same _ _ _, fun j hj hjn h => ?_⟩)⟩
        have hLj : L j = true := by simpa [show j ≠ i by omega] using h
        have hjo : ∃ oj, l[j]? = some oj := ⟨_, List.getElem?_eq_getElem (by omega)⟩
        obtain ⟨oj, hoj⟩ := hjo
        have := tails L hc j oj hj (by omega) hoj (fun e he hb => hc j oj hoj hLj e he hb)
        rw [hLk] at this
        cases this
      · have := tails L hc i o hik (by omega) ho hdep
        rw [hLk] at this
        cases this
    · obtain ⟨ok, hok⟩ : ∃ ok, l[k]? = some ok := ⟨_, List.getElem?_eq_getElem (by omega)⟩
      have hhd := heads L hc ok hok (fun e he hb => hc k ok hok hLk e he hb)
      have hki : k < i := by
        rcases Nat.lt_trichotomy i k with h | h | h
        · rw [hhd i h] at hL; cases hL
        · subst h; rw [hLk] at hL; cases hL
        · exact h
      by_cases hin : i = n
      · subst hin
        have hw := whole L hc o ho hdep
        refine key _ _ (hlast x u o W ho h2 h3 fun j hj hjn => h4 j hj hjn (hw j hjn)) fun a' W' h => ?_
        refine ⟨hc', .inr (.inr ⟨fun j hj => ?_, h⟩)⟩
        by_cases e : j = i
        · simp [e]
        · simp [hw j (by omega)]
      · refine key _ _ (htail x u i o W hki (by omega) ho h2 h3 fun e he hb hke => h4 e.on hke (by have := hlex e he hb; omega) (hdep e he hb)) fun a' W' => ?_
        rintro ⟨rfl, v, rfl, hv⟩
        refine ⟨hc', .inr (.inl ⟨by simp [h0]; omega, by simp [hLk], x, _, rfl, h2, by rw [upd_other _ _ _ _ (by omega)]; exact h3, fun j hj hjn h => ?_⟩)⟩
        by_cases e : j = i
        · subst e; rw [upd_same]; exact hv
        · rw [upd_other _ _ _ _ e]; exact h4 j hj hjn (by simpa [e] using h)
    · have := h1 i (by omega)
      rw [hL] at this
      cases this
  · rintro a W ⟨_, ⟨h0, _⟩ | ⟨h0, _⟩ | ⟨_, h⟩⟩
    · cases h0
    · cases h0
    · exact h
end
end Go.Proofs.Ytogonbgelaehhaa
namespace Go.Proofs.Ytogonbgelaehhaa
open Go.RowKit
set_option linter.unusedVariables false
section
variable {P : Program}
/-- what an operation comes to -/
def CameC (F : (Nat → Value) → Array Value) (D : List Deferred) (C : World → Prop) (Φ : Value → Prop) (u : Nat → Value) (i : Nat) (a : Act) (W : World) : Prop := ∃ v, a = ⟨F (upd u i v), D⟩ ∧ Φ v ∧ C W
theorem region_three {id : Nat} {Q' : Exit → Act → World → Prop} {a : Act} {w : World} {l : List Oper} (k1 k2 n : Nat) (h12 : k1 < k2) (h2n : k2 < n) (hm : P.follows .mixedOrders = true) (hl : lexical l.toArray = true) (hn : lastAll l.toArray n = true) (hk : (needK l.toArray n (needs l.toArray [k2])).contains k1 = true)
    (F : (Nat → Value) → Array Value) (D : List Deferred) (u0 : Nat → Value) (ha : a = ⟨F u0, D⟩) (C : Bool → Bool → World → Prop) (hC : C false false w.drew) (Φ : Nat → Value → Prop)
    (hstep : ∀ (b c : Bool) (u : Nat → Value) (W : World) (i : Nat) (o : Oper), i < n → i ≠ k1 → i ≠ k2 → l[i]? = some o → C b c W → (∀ e ∈ o.after, Region.binds .any e = true → Φ e.on (u e.on)) →
      wpList P l.toArray (Exit.then (CameC F D (C b c) (Φ i) u i) (fun _ _ _ => False)) [o] ⟨F u, D⟩ W)
    (hone : ∀ (u : Nat → Value) (W : World) (o : Oper), l[k1]? = some o → C false false W → (∀ e ∈ o.after, Region.binds .any e = true → Φ e.on (u e.on)) →
      wpList P l.toArray (Exit.then (CameC F D (C true false) (Φ k1) u k1) (fun _ _ _ => False)) [o] ⟨F u, D⟩ W)
    (htwo : ∀ (u : Nat → Value) (W : World) (o : Oper), l[k2]? = some o → C true false W → (∀ e ∈ o.after, Region.binds .any e = true → Φ e.on (u e.on)) →
      wpList P l.toArray (Exit.then (CameC F D (C true true) (Φ k2) u k2) (fun _ _ _ => False)) [o] ⟨F u, D⟩ W)
    (hlast : ∀ (u : Nat → Value) (W : World) (o : Oper), l[n]? = some o → C true true W → (∀ i, i < n → Φ i (u i)) → wpList P l.toArray (Exit.then (fun a' W' => Q' .normal a' W') (fun _ _ _ => False)) [o] ⟨F u, D⟩ W) : (Code.region id l.toArray true).wp P Q' a w := by
  simp only [lastAll, Bool.and_eq_true, decide_eq_true_eq] at hn
  obtain ⟨hsz, hall⟩ := hn
  have hsz' : l.length = n + 1 := by simpa using hsz
  have reach : ∀ (L : Nat → Bool), Closed l L → ∀ (i : Nat) (o : Oper), l[i]? = some o → (∀ e ∈ o.after, Region.binds .any e = true → L e.on = true) → ∀ y ∈ needK l.toArray n (needs l.toArray [i]), L y = true := fun L hc i o ho hd y hy => by
    refine needK_listed hc n _ (fun z hz => ?_) y hy
    obtain ⟨j, hj, o', ho', e, he, hb, rfl⟩ := needs_mem hz
    rw [List.mem_singleton.1 hj] at ho'
    have : o' = o := by simp only [List.getElem?_toArray] at ho'; rw [ho] at ho'; exact (Option.some.inj ho').symm
    subst this
    exact hd e he hb
  have whole : ∀ (L : Nat → Bool), Closed l L → ∀ (o : Oper), l[n]? = some o → (∀ e ∈ o.after, Region.binds .any e = true → L e.on = true) → ∀ i, i < n → L i = true := fun L hc o ho hd i hi => by
    have := List.all_eq_true.1 hall i (List.mem_range.2 hi)
    exact reach L hc n o ho hd i (by simpa using this)
  refine region_inv hm hl (fun L a W => Closed l L ∧ ((L n = false ∧ ∃ u, a = ⟨F u, D⟩ ∧ C (L k1) (L k2) W ∧ ∀ i, i < n → L i = true → Φ i (u i)) ∨ ((∀ i, i ≤ n → L i = true) ∧ Q' .normal a W)))
    ⟨(fun j o _ h => by cases h), .inl ⟨rfl, u0, ha, hC, fun i _ h => by cases h⟩⟩ ?_ ?_ ?_
  · rintro L L' a W hE ⟨hc, hI⟩
    refine ⟨fun j o ho hj e he hb => ?_, ?_⟩
    · have hjl : j < l.length := (List.getElem?_eq_some_iff.1 ho).1
      have hlex := (lexical_spec hl (show l.toArray[j]? = some o by simpa using ho)).2 e he hb
      rw [← hE e.on (by omega)]
      exact hc j o ho (by rw [hE j hjl]; exact hj) e he hb
    · rcases hI with ⟨h0, u, h1, h2, h3⟩ | ⟨h1, h2⟩
      · exact .inl ⟨by rw [← hE n (by omega)]; exact h0, u, h1, by rw [← hE k1 (by omega), ← hE k2 (by omega)]; exact h2, fun i hi h => h3 i hi (by rw [hE i (by omega)]; exact h)⟩
      · exact .inr ⟨fun i hi => by rw [← hE i (by omega)]; exact h1 i hi, h2⟩
  · rintro L a W i o ⟨hc, hI⟩ ho hL hdep
    have hlex := (lexical_spec hl (show l.toArray[i]? = some o by simpa using ho)).2
    have hil : i < l.length := (List.getElem?_eq_some_iff.1 ho).1
    have hc' : Closed l (fun j => j == i || L j) := fun j o' ho' hj e he hb => by
      by_cases hji : j = i
      · subst hji
        have : o' = o := by rw [ho] at ho'; exact (Option.some.inj ho').symm
        subst this
        simp [hdep e he hb]
      · have := hc j o' ho' (by simpa [hji] using hj) e he hb
        simp [this]
    have key : ∀ (K K' : Act → World → Prop), wpList P l.toArray (Exit.then K (fun _ _ _ => False)) [o] a W → (∀ a' W', K a' W' → K' a' W') → wpList P l.toArray (Exit.then K' (fun _ _ _ => False)) [o] a W := by
      intro K K' hs fin
      unfold wpList at hs ⊢
      split at hs
      · rename_i hw
        rw [if_pos hw]
        rcases hs with hs | ⟨hs1, a', w', hs⟩
        · exact .inl (oper_monoQ (fun _ _ _ h => h) (fun _ _ h => h) (Oper.wp_mono (fun a' w' h => by unfold wpList at h ⊢; exact fin _ _ h) hs))
        · exact hs.elim
      · rename_i hw
        rw [if_neg hw]
        unfold wpList at hs ⊢
        exact fin _ _ hs
    rcases hI with ⟨h0, u, rfl, h2, h3⟩ | ⟨h1, _⟩
    · by_cases hi : i = n
      · subst hi
        have hw := whole L hc o ho hdep
        rw [hw k1 (by omega), hw k2 h2n] at h2
        refine key _ _ (hlast u W o ho h2 fun j hj => h3 j hj (hw j hj)) fun a' W' h => ?_
        refine ⟨hc', .inr ⟨fun j hj => ?_, h⟩⟩
        by_cases e : j = i
        · simp [e]
        · simp [hw j (by omega)]
      · have hin : i < n := by omega
        have hd : ∀ e ∈ o.after, Region.binds .any e = true → Φ e.on (u e.on) := fun e he hb => h3 e.on (by have := hlex e he hb; omega) (hdep e he hb)
        have fin : ∀ (b c : Bool), b = (k1 == i || L k1) → c = (k2 == i || L k2) → ∀ a' W', CameC F D (C b c) (Φ i) u i a' W' → (Closed l (fun j => j == i || L j) ∧ (((n == i || L n) = false ∧ ∃ u', a' = ⟨F u', D⟩ ∧ C (k1 == i || L k1) (k2 == i || L k2) W' ∧ ∀ j, j < n → (j == i || L j) = true → Φ j (u' j)) ∨ ((∀ j, j ≤ n → (j == i || L j) = true) ∧ Q' .normal a' W'))) := by
          rintro b c hb hcb a' W' ⟨v, q1, q2, q3⟩
          refine ⟨hc', .inl ⟨by simp [h0]; omega, upd u i v, q1, hb ▸ hcb ▸ q3, fun j hj h => ?_⟩⟩
          by_cases e : j = i
          · subst e; rw [upd_same]; exact q2
          · rw [upd_other _ _ _ _ e]
            exact h3 j hj (by simpa [e] using h)
        by_cases hi1 : i = k1
        · subst hi1
          have hk2 : L k2 = false := by
            cases hL2 : L k2 with
            | false => rfl
            | true =>
              obtain ⟨o2, ho2⟩ : ∃ o2, l[k2]? = some o2 := ⟨_, List.getElem?_eq_getElem (by omega)⟩
              have := reach L hc k2 o2 ho2 (fun e he hb => hc k2 o2 ho2 hL2 e he hb) i (by simpa using hk)
              rw [hL] at this
              cases this
          rw [hL, hk2] at h2
          exact key _ _ (hone u W o ho h2 hd) (fin true false (by simp) (by simp [hk2]; omega))
        · by_cases hi2 : i = k2
          · subst hi2
            have hk1 := reach L hc i o ho hdep k1 (by simpa using hk)
            rw [hL, hk1] at h2
            exact key _ _ (htwo u W o ho h2 hd) (fin true true (by simp [hk1]) (by simp))
          · exact key _ _ (hstep _ _ u W i o hin hi1 hi2 ho h2 hd) (fin _ _ (by simp; omega) (by simp; omega))
    · have := h1 i (by omega)
      rw [hL] at this
      cases this
  · rintro a W ⟨_, ⟨h0, _⟩ | ⟨_, h⟩⟩
    · cases h0
    · exact h
end
end Go.Proofs.Ytogonbgelaehhaa
namespace Go.Proofs.Ytogonbgelaehhaa
open Go.RowKit
set_option linter.unusedVariables false
section
variable {P : Program}
/-- what the first of the three comes to -/
def CameD (F : (Nat → Value) → Array Value) (D : List Deferred) (C : Value → World → Prop) (Φ : Value → Prop) (u : Nat → Value) (i : Nat) (a : Act) (W : World) : Prop := ∃ v, a = ⟨F (upd u i v), D⟩ ∧ Φ v ∧ C v W
theorem region_threeV {id : Nat} {Q' : Exit → Act → World → Prop} {a : Act} {w : World} {l : List Oper} (k1 k2 n : Nat) (h12 : k1 < k2) (h2n : k2 < n) (hm : P.follows .mixedOrders = true) (hl : lexical l.toArray = true) (hn : lastAll l.toArray n = true) (hk : (needK l.toArray n (needs l.toArray [k2])).contains k1 = true)
    (F : (Nat → Value) → Array Value) (D : List Deferred) (u0 : Nat → Value) (ha : a = ⟨F u0, D⟩) (C : Bool → Bool → Value → World → Prop) (hC : ∀ v, C false false v w.drew) (Φ : Nat → Value → Prop)
    (hstep : ∀ (b c : Bool) (u : Nat → Value) (W : World) (i : Nat) (o : Oper), i < n → i ≠ k1 → i ≠ k2 → l[i]? = some o → C b c (u k1) W → (∀ e ∈ o.after, Region.binds .any e = true → Φ e.on (u e.on)) →
      wpList P l.toArray (Exit.then (CameC F D (C b c (u k1)) (Φ i) u i) (fun _ _ _ => False)) [o] ⟨F u, D⟩ W)
    (hone : ∀ (u : Nat → Value) (W : World) (o : Oper), l[k1]? = some o → C false false (u k1) W → (∀ e ∈ o.after, Region.binds .any e = true → Φ e.on (u e.on)) →
      wpList P l.toArray (Exit.then (CameD F D (C true false) (Φ k1) u k1) (fun _ _ _ => False)) [o] ⟨F u, D⟩ W)
    (htwo : ∀ (u : Nat → Value) (W : World) (o : Oper), l[k2]? = some o → C true false (u k1) W → (∀ e ∈ o.after, Region.binds .any e = true → Φ e.on (u e.on)) →
      wpList P l.toArray (Exit.then (CameC F D (C true true (u k1)) (Φ k2) u k2) (fun _ _ _ => False)) [o] ⟨F u, D⟩ W)
    (hlast : ∀ (u : Nat → Value) (W : World) (o : Oper), l[n]? = some o → C true true (u k1) W → (∀ i, i < n → Φ i (u i)) → wpList P l.toArray (Exit.then (fun a' W' => Q' .normal a' W') (fun _ _ _ => False)) [o] ⟨F u, D⟩ W) : (Code.region id l.toArray true).wp P Q' a w := by
  simp only [lastAll, Bool.and_eq_true, decide_eq_true_eq] at hn
  obtain ⟨hsz, hall⟩ := hn
  have hsz' : l.length = n + 1 := by simpa using hsz
  have reach : ∀ (L : Nat → Bool), Closed l L → ∀ (i : Nat) (o : Oper), l[i]? = some o → (∀ e ∈ o.after, Region.binds .any e = true → L e.on = true) → ∀ y ∈ needK l.toArray n (needs l.toArray [i]), L y = true := fun L hc i o ho hd y hy => by
    refine needK_listed hc n _ (fun z hz => ?_) y hy
    obtain ⟨j, hj, o', ho', e, he, hb, rfl⟩ := needs_mem hz
    rw [List.mem_singleton.1 hj] at ho'
    have : o' = o := by simp only [List.getElem?_toArray] at ho'; rw [ho] at ho'; exact (Option.some.inj ho').symm
    subst this
    exact hd e he hb
  have whole : ∀ (L : Nat → Bool), Closed l L → ∀ (o : Oper), l[n]? = some o → (∀ e ∈ o.after, Region.binds .any e = true → L e.on = true) → ∀ i, i < n → L i = true := fun L hc o ho hd i hi => by
    have := List.all_eq_true.1 hall i (List.mem_range.2 hi)
    exact reach L hc n o ho hd i (by simpa using this)
  refine region_inv hm hl (fun L a W => Closed l L ∧ ((L n = false ∧ ∃ u, a = ⟨F u, D⟩ ∧ C (L k1) (L k2) (u k1) W ∧ ∀ i, i < n → L i = true → Φ i (u i)) ∨ ((∀ i, i ≤ n → L i = true) ∧ Q' .normal a W)))
    ⟨(fun j o _ h => by cases h), .inl ⟨rfl, u0, ha, hC _, fun i _ h => by cases h⟩⟩ ?_ ?_ ?_
  · rintro L L' a W hE ⟨hc, hI⟩
    refine ⟨fun j o ho hj e he hb => ?_, ?_⟩
    · have hjl : j < l.length := (List.getElem?_eq_some_iff.1 ho).1
      have hlex := (lexical_spec hl (show l.toArray[j]? = some o by simpa using ho)).2 e he hb
      rw [← hE e.on (by omega)]
      exact hc j o ho (by rw [hE j hjl]; exact hj) e he hb
    · rcases hI with ⟨h0, u, h1, h2, h3⟩ | ⟨h1, h2⟩
      · exact .inl ⟨by rw [← hE n (by omega)]; exact h0, u, h1, by rw [← hE k1 (by omega), ← hE k2 (by omega)]; exact h2, fun i hi h => h3 i hi (by rw [hE i (by omega)]; exact h)⟩
      · exact .inr ⟨fun i hi => by rw [← hE i (by omega)]; exact h1 i hi, h2⟩
  · rintro L a W i o ⟨hc, hI⟩ ho hL hdep
    have hlex := (lexical_spec hl (show l.toArray[i]? = some o by simpa using ho)).2
    have hil : i < l.length := (List.getElem?_eq_some_iff.1 ho).1
    have hc' : Closed l (fun j => j == i || L j) := fun j o' ho' hj e he hb => by
      by_cases hji : j = i
      · subst hji
        have : o' = o := by rw [ho] at ho'; exact (Option.some.inj ho').symm
        subst this
        simp [hdep e he hb]
      · have := hc j o' ho' (by simpa [hji] using hj) e he hb
        simp [this]
    have key : ∀ (K K' : Act → World → Prop), wpList P l.toArray (Exit.then K (fun _ _ _ => False)) [o] a W → (∀ a' W', K a' W' → K' a' W') → wpList P l.toArray (Exit.then K' (fun _ _ _ => False)) [o] a W := by
      intro K K' hs fin
      unfold wpList at hs ⊢
      split at hs
      · rename_i hw
        rw [if_pos hw]
        rcases hs with hs | ⟨hs1, a', w', hs⟩
        · exact .inl (oper_monoQ (fun _ _ _ h => h) (fun _ _ h => h) (Oper.wp_mono (fun a' w' h => by unfold wpList at h ⊢; exact fin _ _ h) hs))
        · exact hs.elim
      · rename_i hw
        rw [if_neg hw]
        unfold wpList at hs ⊢
        exact fin _ _ hs
    rcases hI with ⟨h0, u, rfl, h2, h3⟩ | ⟨h1, _⟩
    · by_cases hi : i = n
      · subst hi
        have hw := whole L hc o ho hdep
        rw [hw k1 (by omega), hw k2 h2n] at h2
        refine key _ _ (hlast u W o ho h2 fun j hj => h3 j hj (hw j hj)) fun a' W' h => ?_
        refine ⟨hc', .inr ⟨fun j hj => ?_, h⟩⟩
        by_cases e : j = i
        · simp [e]
        · simp [hw j (by omega)]
      · have hin : i < n := by omega
        have hd : ∀ e ∈ o.after, Region.binds .any e = true → Φ e.on (u e.on) := fun e he hb => h3 e.on (by have := hlex e he hb; omega) (hdep e he hb)
        have fin : ∀ (b c : Bool) (v : Value), b = (k1 == i || L k1) → c = (k2 == i || L k2) → ∀ a' W', a' = ⟨F (upd u i v), D⟩ → Φ i v → C b c (upd u i v k1) W' → (Closed l (fun j => j == i || L j) ∧ (((n == i || L n) = false ∧ ∃ u', a' = ⟨F u', D⟩ ∧ C (k1 == i || L k1) (k2 == i || L k2) (u' k1) W' ∧ ∀ j, j < n → (j == i || L j) = true → Φ j (u' j)) ∨ ((∀ j, j ≤ n → (j == i || L j) = true) ∧ Q' .normal a' W'))) := by
          intro b c v hb hcb a' W' q1 q2 q3
          refine ⟨hc', .inl ⟨by simp [h0]; omega, upd u i v, q1, hb ▸ hcb ▸ q3, fun j hj h => ?_⟩⟩
          by_cases e : j = i
          · subst e; rw [upd_same]; exact q2
          · rw [upd_other _ _ _ _ e]
            exact h3 j hj (by simpa [e] using h)
        by_cases hi1 : i = k1
        · subst hi1
          have hk2 : L k2 = false := by
            cases hL2 : L k2 with
            | false => rfl
            | true =>
              obtain ⟨o2, ho2⟩ : ∃ o2, l[k2]? = some o2 := ⟨_, List.getElem?_eq_getElem (by omega)⟩
              have := reach L hc k2 o2 ho2 (fun e he hb => hc k2 o2 ho2 hL2 e he hb) i (by simpa using hk)
              rw [hL] at this
              cases this
          rw [hL, hk2] at h2
          exact key _ _ (hone u W o ho h2 hd) (fun a' W' ⟨v, q1, q2, q3⟩ => fin true false v (by simp) (by simp [hk2]; omega) a' W' q1 q2 (by rw [upd_same]; exact q3))
        · by_cases hi2 : i = k2
          · have hi1' : k1 ≠ i := fun e => hi1 e.symm
            subst hi2
            have hk1 := reach L hc i o ho hdep k1 (by simpa using hk)
            rw [hL, hk1] at h2
            exact key _ _ (htwo u W o ho h2 hd) (fun a' W' ⟨v, q1, q2, q3⟩ => fin true true v (by simp [hk1]) (by simp) a' W' q1 q2 (by rw [upd_other _ _ _ _ hi1']; exact q3))
          · exact key _ _ (hstep _ _ u W i o hin hi1 hi2 ho h2 hd) (fun a' W' ⟨v, q1, q2, q3⟩ => fin (L k1) (L k2) v (by rw [show (k1 == i) = false by rw [beq_eq_false_iff_ne]; omega, Bool.false_or]) (by rw [show (k2 == i) = false by rw [beq_eq_false_iff_ne]; omega, Bool.false_or]) a' W' q1 q2 (by rw [upd_other _ _ _ _ (fun e => hi1 e.symm)]; exact q3))
    · have := h1 i (by omega)
      rw [hL] at this
      cases this
  · rintro a W ⟨_, ⟨h0, _⟩ | ⟨_, h⟩⟩
    · cases h0
    · exact h
end
end Go.Proofs.Ytogonbgelaehhaa
