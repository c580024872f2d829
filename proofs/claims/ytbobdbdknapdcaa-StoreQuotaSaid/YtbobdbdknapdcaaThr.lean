/- A region in an open order with three operations that write, one behind the other (k1, k2, and the last one, n); all others only read. -/
import Derived.Test.YtbobdbdknapdcaaAft
namespace Go.Proofs.Ytbobdbdknapdcaa
open Go.RowKit
set_option linter.unusedVariables false
section
variable {P : Program}
/-- what an operation comes to -/
def CameC (F : (Nat → Value) → Array Value) (D : List Deferred) (C : World → Prop) (Φ : Value → Prop) (u : Nat → Value) (i : Nat) (a : Act) (W : World) : Prop := ∃ v, a = ⟨F (upd u i v), D⟩ ∧ Φ v ∧ C W
theorem region_three {id : Nat} {Q' : Exit → Act → World → Prop} {a : Act} {w : World} {l : List Oper} (k1 k2 n : Nat) (h12 : k1 < k2) (h2n : k2 < n) (hm : P.follows .mixedOrders = true) (hl : lexical l.toArray = true) (hn : lastAll l.toArray n = true) (hk : (needK l.toArray n (needs l.toArray [k2])).contains k1 = true)
    (F : (Nat → Value) → Array Value) (D : List Deferred) (u0 : Nat → Value) (ha : a = ⟨F u0, D⟩) (C : Bool → Bool → World → Prop) (hC : C false false w.drew) (Φ : Nat → Value → Prop)
    (hstep : ∀ (b c : Bool) (u : Nat → Value) (W : World) (i : Nat) (o : Oper), i < n → i ≠ k1 → i ≠ k2 → l[i]? = some o → C b c W → (∀ e ∈ o.after, Region.binds .any e = true → Φ e.on (u e.on)) →
      wpList P l.toArray (Exit.then (CameC F D (C b c) (Φ i) u i) (fun _ _ _ => False)) [o] ⟨F u, D⟩ W)
    (hone : ∀ (u : Nat → Value) (W : World) (o : Oper), l[k1]? = some o → C false false W → (∀ e ∈ o.after, Region.binds .any e = true → Φ e.on (u e.on)) →
      wpList P l.toArray (Exit.then (CameC F D (C true false) (Φ k1) u k1) (fun _ _ _ => False)) [o] ⟨F u, D⟩ W)
    (htwo : ∀ (u : Nat → Value) (W : World) (o : Oper), l[k2]? = some o → C true false W → (∀ e ∈ o.after, Region.binds .any e = true → Φ e.on (u e.on)) →
      wpList P l.toArray (Exit.then (CameC F D (C true true) (Φ k2) u k2) (fun _ _ _ => False)) [o] ⟨F u, D⟩ W)
    (hlast : ∀ (u : Nat → Value) (W : World) (o : Oper), l[n]? = some o → C true true W → (∀ i, i < n → Φ i (u i)) → wpList P l.toArray (Exit.then (fun a' W' => Q' .normal a' W') (fun _ _ _ => False)) [o] ⟨F u, D⟩ W) : (Code.region id l.toArray true).wp P Q' a w := by
  simp only [lastAll, Bool.and_eq_true, decide_eq_true_eq] at hn
  obtain ⟨hsz, hall⟩ := hn
  have hsz' : l.length = n + 1 := by simpa using hsz
  have reach : ∀ (L : Nat → Bool), Closed l L → ∀ (i : Nat) (o : Oper), l[i]? = some o → (∀ e ∈ o.after, Region.binds .any e = true → L e.on = true) → ∀ y ∈ needK l.toArray n (needs l.toArray [i]), L y = true := fun L hc i o ho hd y hy => by
    refine needK_listed hc n _ (fun z hz => ?_) y hy
    obtain ⟨j, hj, o', ho', e, he, hb, rfl⟩ := needs_mem hz
    rw [List.mem_singleton.1 hj] at ho'
    have : o' = o := by simp only [List.getElem?_toArray] at ho'; rw [ho] at ho'; exact (Option.some.inj ho').symm
    subst this
    exact hd e he hb
  have whole : ∀ (L : Nat → Bool), Closed l L → ∀ (o : Oper), l[n]? = some o → (∀ e ∈ o.after, Region.binds .any e = true → L e.on = true) → ∀ i, i < n → L i = true := fun L hc o ho hd i hi => by
    have := List.all_eq_true.1 hall i (List.mem_range.2 hi)
    exact reach L hc n o ho hd i (by simpa using this)
  refine region_inv hm hl (fun L a W => Closed l L ∧ ((L n = false ∧ ∃ u, a = ⟨F u, D⟩ ∧ C (L k1) (L k2) W ∧ ∀ i, i < n → L i = true → Φ i (u i)) ∨ ((∀ i, i ≤ n → L i = true) ∧ Q' .normal a W)))
    ⟨(fun j o _ h => by cases h), .inl ⟨rfl, u0, ha, hC, fun i _ h => by cases h⟩⟩ ?_ ?_ ?_
  · rintro L L' a W hE ⟨hc, hI⟩
    refine ⟨fun j o ho hj e he hb => ?_, ?_⟩
    · have hjl : j < l.length := (List.getElem?_eq_some_iff.1 ho).1
      have hlex := (lexical_spec hl (show l.toArray[j]? = some o by simpa using ho)).2 e he hb
      rw [← hE e.on (by omega)]
      exact hc j o ho (by rw [hE j hjl]; exact hj) e he hb
    · rcases hI with ⟨h0, u, h1, h2, h3⟩ | ⟨h1, h2⟩
      · exact .inl ⟨by rw [← hE n (by omega)]; exact h0, u, h1, by rw [← hE k1 (by omega), ← hE k2 (by omega)]; exact h2, fun i hi h => h3 i hi (by rw [hE i (by omega)]; exact h)⟩
      · exact .inr ⟨fun i hi => by rw [← hE i (by omega)]; exact h1 i hi, h2⟩
  · rintro L a W i o ⟨hc, hI⟩ ho hL hdep
    have hlex := (lexical_spec hl (show l.toArray[i]? = some o by simpa using ho)).2
    have hil : i < l.length := (List.getElem?_eq_some_iff.1 ho).1
    have hc' : Closed l (fun j => j == i || L j) := fun j o' ho' hj e he hb => by
      by_cases hji : j = i
      · subst hji
        have : o' = o := by rw [ho] at ho'; exact (Option.some.inj ho').symm
        subst this
        simp [hdep e he hb]
      · have := hc j o' ho' (by simpa [hji] using hj) e he hb
        simp [this]
    have key : ∀ (K K' : Act → World → Prop), wpList P l.toArray (Exit.then K (fun _ _ _ => False)) [o] a W → (∀ a' W', K a' W' → K' a' W') → wpList P l.toArray (Exit.then K' (fun _ _ _ => False)) [o] a W := by
      intro K K' hs fin
      unfold wpList at hs ⊢
      split at hs
      · rename_i hw
        rw [if_pos hw]
        rcases hs with hs | ⟨hs1, a', w', hs⟩
        · exact .inl (oper_monoQ (fun _ _ _ h => h) (fun _ _ h => h) (Oper.wp_mono (fun a' w' h => by unfold wpList at h ⊢; exact fin _ _ h) hs))
        · exact hs.elim
      · rename_i hw
        rw [if_neg hw]
        unfold wpList at hs ⊢
        exact fin _ _ hs
    rcases hI with ⟨h0, u, rfl, h2, h3⟩ | ⟨h1, _⟩
    · by_cases hi : i = n
      · subst hi
        have hw := whole L hc o ho hdep
        rw [hw k1 (by omega), hw k2 h2n] at h2
        refine key _ _ (hlast u W o ho h2 fun j hj => h3 j hj (hw j hj)) fun a' W' h => ?_
        refine ⟨hc', .inr ⟨fun j hj => ?_, h⟩⟩
        by_cases e : j = i
        · simp [e]
        · simp [hw j (by omega)]
      · have hin : i < n := by omega
        have hd : ∀ e ∈ o.after, Region.binds .any e = true → Φ e.on (u e.on) := fun e he hb => h3 e.on (by have := hlex e he hb; omega) (hdep e he hb)
        have fin : ∀ (b c : Bool), b = (k1 == i || L k1) → c = (k2 == i || L k2) → ∀ a' W', CameC F D (C b c) (Φ i) u i a' W' → (Closed l (fun j => j == i || L j) ∧ (((n == i || L n) = false ∧ ∃ u', a' = ⟨F u', D⟩ ∧ C (k1 == i || L k1) (k2 == i || L k2) W' ∧ ∀ j, j < n → (j == i || L j) = true → Φ j (u' j)) ∨ ((∀ j, j ≤ n → (j == i || L j) = true) ∧ Q' .normal a' W'))) := by
          rintro b c hb hcb a' W' ⟨v, q1, q2, q3⟩
          refine ⟨hc', .inl ⟨by simp [h0]; omega, upd u i v, q1, hb ▸ hcb ▸ q3, fun j hj h => ?_⟩⟩
          by_cases e : j = i
          · subst e; rw [upd_same]; exact q2
          · rw [upd_other _ _ _ _ e]
            exact h3 j hj (by simpa [e] using h)
        by_cases hi1 : i = k1
        · subst hi1
          have hk2 : L k2 = false := by
            cases hL2 : L k2 with
            | false => rfl
            | true =>
              obtain ⟨o2, ho2⟩ : ∃ o2, l[k2]? = some o2 := ⟨_, List.getElem?_eq_getElem (by omega)⟩
              have := reach L hc k2 o2 ho2 (fun e he hb => hc k2 o2 ho2 hL2 e he hb) i (by simpa using hk)
              rw [hL] at this
              cases this
          rw [hL, hk2] at h2
          exact key _ _ (hone u W o ho h2 hd) (fin true false (by simp) (by simp [hk2]; omega))
        · by_cases hi2 : i = k2
          · subst hi2
            have hk1 := reach L hc i o ho hdep k1 (by simpa using hk)
            rw [hL, hk1] at h2
            exact key _ _ (htwo u W o ho h2 hd) (fin true true (by simp [hk1]) (by simp))
          · exact key _ _ (hstep _ _ u W i o hin hi1 hi2 ho h2 hd) (fin _ _ (by simp; omega) (by simp; omega))
    · have := h1 i (by omega)
      rw [hL] at this
      cases this
  · rintro a W ⟨_, ⟨h0, _⟩ | ⟨_, h⟩⟩
    · cases h0
    · exact h
end
end Go.Proofs.Ytbobdbdknapdcaa
