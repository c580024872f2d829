/- As XMxt, but what is turned is told of the values at hand alone. Regions in an open order, in which one operation turns what others have come to, and the last one writes: by a spec for each operation's value, ahead of that operation and behind it. -/
import Derived.Test.YtloogjdojojehaaG1
namespace Go.Proofs.Ytloogjdojojehaa
open Go.RowKit
set_option linter.unusedVariables false

section
variable {P : Program}
theorem region_mixU {id : Nat} {Q' : Exit → Act → World → Prop} {a : Act} {w : World} {l : List Oper} (k n : Nat) (hkn : k < n) (hm : P.follows .mixedOrders = true) (hl : lexical l.toArray = true) (hn : lastAll l.toArray n = true)
    (F : (Nat → Value) → Array Value) (D : List Deferred) (u0 : Nat → Value) (ha : a = ⟨F u0, D⟩) (C : Bool → World → Prop) (hC : C false w.drew) (Φ : Bool → Nat → Value → World → Prop)
    (hΦ : ∀ b i v W W', Φ b i v W → C b W → C b W' → Below W.heap.size W W' → Φ b i v W')
    (hstep : ∀ (b : Bool) (u : Nat → Value) (W : World) (i : Nat) (o : Oper), i < n → i ≠ k → (b = true → (needK l.toArray n (needs l.toArray [k])).contains i = false) → l[i]? = some o → C b W → (∀ e ∈ o.after, Region.binds .any e = true → Φ b e.on (u e.on) W) →
      wpList P l.toArray (Exit.then (Came F D (C b) (Φ b i) u i W) (fun _ _ _ => False)) [o] ⟨F u, D⟩ W)
    (hone : ∀ (u : Nat → Value) (W : World) (o : Oper), l[k]? = some o → C false W → (∀ e ∈ o.after, Region.binds .any e = true → Φ false e.on (u e.on) W) →
      wpList P l.toArray (Exit.then (fun a' W' => ∃ v, a' = ⟨F (upd u k v), D⟩ ∧ Φ true k v W' ∧ C true W' ∧ ∀ i, i ≠ k → Φ false i (u i) W → Φ true i (u i) W') (fun _ _ _ => False)) [o] ⟨F u, D⟩ W)
    (hlast : ∀ (u : Nat → Value) (W : World) (o : Oper), l[n]? = some o → C true W → (∀ i, i < n → Φ true i (u i) W) → wpList P l.toArray (Exit.then (fun a' W' => Q' .normal a' W') (fun _ _ _ => False)) [o] ⟨F u, D⟩ W) : (Code.region id l.toArray true).wp P Q' a w := by
  simp only [lastAll, Bool.and_eq_true, decide_eq_true_eq] at hn
  obtain ⟨hsz, hall⟩ := hn
  have hsz' : l.length = n + 1 := by simpa using hsz
  have hall' : ∀ L : Nat → Bool, Closed l L → (∀ o, l[n]? = some o → ∀ e ∈ o.after, Region.binds .any e = true → L e.on = true) → ∀ i, i < n → L i = true := fun L hc h i hi => by
    have := List.all_eq_true.1 hall i (List.mem_range.2 hi)
    refine needK_listed hc n _ (fun y hy => ?_) i (by simpa using this)
    obtain ⟨j, hj, o, ho, e, he, hb, rfl⟩ := needs_mem hy
    rw [List.mem_singleton.1 hj] at ho
    exact h o (by simpa using ho) e he hb
  refine region_inv hm hl (fun L a W => Closed l L ∧ ((L n = false ∧ ∃ u, a = ⟨F u, D⟩ ∧ C (L k) W ∧ ∀ i, i < n → L i = true → Φ (L k) i (u i) W) ∨ ((∀ i, i ≤ n → L i = true) ∧ Q' .normal a W)))
    ⟨(fun j o _ h => by cases h), .inl ⟨rfl, u0, ha, hC, fun i _ h => by cases h⟩⟩ ?_ ?_ ?_
  · rintro L L' a W hE ⟨hc, hI⟩
    refine ⟨fun j o ho hj e he hb => ?_, ?_⟩
    · have hjl : j < l.length := (List.getElem?_eq_some_iff.1 ho).1
      have hlex := (lexical_spec hl (show l.toArray[j]? = some o by simpa using ho)).2 e he hb
      rw [← hE e.on (by omega)]
      exact hc j o ho (by rw [hE j hjl]; exact hj) e he hb
    · rcases hI with ⟨h0, u, h1, h2, h3⟩ | ⟨h1, h2⟩
      · exact .inl ⟨by rw [← hE n (by omega)]; exact h0, u, h1, by rw [← hE k (by omega)]; exact h2, fun i hi h => by rw [← hE k (by omega)]; exact h3 i hi (by rw [hE i (by omega)]; exact h)⟩
      · exact .inr ⟨fun i hi => by rw [← hE i (by omega)]; exact h1 i hi, h2⟩
  · rintro L a W i o ⟨hc, hI⟩ ho hL hdep
    have hlex := (lexical_spec hl (show l.toArray[i]? = some o by simpa using ho)).2
    have hil : i < l.length := (List.getElem?_eq_some_iff.1 ho).1
    have hc' : Closed l (fun j => j == i || L j) := fun j o' ho' hj e he hb => by
      by_cases hji : j = i
      · subst hji
        have : o' = o := by rw [ho] at ho'; exact (Option.some.inj ho').symm
        subst this
        simp [hdep e he hb]
      · have := hc j o' ho' (by simpa [hji] using hj) e he hb
        simp [this]
    have key : ∀ (K K' : Act → World → Prop), wpList P l.toArray (Exit.then K (fun _ _ _ => False)) [o] a W → (∀ a' W', K a' W' → K' a' W') → wpList P l.toArray (Exit.then K' (fun _ _ _ => False)) [o] a W := by
      intro K K' hs fin
      unfold wpList at hs ⊢
      split at hs
      · rename_i hw
        rw [if_pos hw]
        rcases hs with hs | ⟨hs1, a', w', hs⟩
        · exact .inl (oper_monoQ (fun _ _ _ h => h) (fun _ _ h => h) (Oper.wp_mono (fun a' w' h => by unfold wpList at h ⊢; exact fin _ _ h) hs))
        · exact hs.elim
      · rename_i hw
        rw [if_neg hw]
        unfold wpList at hs ⊢
        exact fin _ _ hs
    rcases hI with ⟨h0, u, rfl, h2, h3⟩ | ⟨h1, _⟩
    · by_cases hi : i = n
      · subst hi
        have hal := hall' L hc (fun o' ho' e he hb => by
          have : o' = o := by rw [ho] at ho'; exact (Option.some.inj ho').symm
          subst this
          exact hdep e he hb)
        rw [hal k hkn] at h2
        refine key _ _ (hlast u W o ho h2 (fun j hj => by have := h3 j hj (hal j hj); rwa [hal k hkn] at this)) fun a' W' h => ?_
        refine ⟨hc', .inr ⟨fun j hj => ?_, h⟩⟩
        by_cases e : j = i
        · simp [e]
        · simp [hal j (by omega)]
      · have hin : i < n := by omega
        have hd : ∀ e ∈ o.after, Region.binds .any e = true → Φ (L k) e.on (u e.on) W := fun e he hb => h3 e.on (by have := hlex e he hb; omega) (hdep e he hb)
        by_cases hik : i = k
        · subst hik
          rw [hL] at h2 hd
          refine key _ _ (hone u W o ho h2 hd) fun a' W' ⟨v, q1, q2, q3, q4⟩ => ⟨hc', .inl ⟨by simp [h0]; omega, upd u i v, q1, ?_, fun j hj h => ?_⟩⟩
          · show C (i == i || L i) W'
            rw [show (i == i || L i) = true by simp]; exact q3
          · show Φ (i == i || L i) j (upd u i v j) W'
            rw [show (i == i || L i) = true by simp]
            by_cases e : j = i
            · subst e; rw [upd_same]; exact q2
            · rw [upd_other _ _ _ _ e]
              have := h3 j hj (by simpa [e] using h)
              rw [hL] at this
              exact q4 j e this
        · have hkk : (k == i || L k) = L k := by rw [show (k == i) = false from beq_eq_false_iff_ne.2 (fun e => hik e.symm), Bool.false_or]
          have hnd : L k = true → (needK l.toArray n (needs l.toArray [k])).contains i = false := fun hLk => by
            cases hcn : (needK l.toArray n (needs l.toArray [k])).contains i with
            | false => rfl
            | true =>
              have := needK_listed hc n (needs l.toArray [k]) (fun y hy => by
                obtain ⟨j, hj, o', ho', e, he, hb, rfl⟩ := needs_mem hy
                rw [List.mem_singleton.1 hj] at ho'
                exact hc k o' (by simpa using ho') hLk e he hb) i (by simpa using hcn)
              rw [hL] at this
              cases this
          refine key _ _ (hstep (L k) u W i o hin hik hnd ho h2 hd) fun a' W' ⟨v, q1, q2, q3, q4⟩ => ⟨hc', .inl ⟨by simp [h0]; omega, upd u i v, q1, ?_, fun j hj h => ?_⟩⟩
          · show C (k == i || L k) W'
            rw [hkk]; exact q3
          · show Φ (k == i || L k) j (upd u i v j) W'
            rw [hkk]
            by_cases e : j = i
            · subst e; rw [upd_same]; exact q2
            · rw [upd_other _ _ _ _ e]
              exact hΦ _ j _ _ _ (h3 j hj (by simpa [e] using h)) h2 q3 q4
    · rw [h1 i (by omega)] at hL; cases hL
  · rintro a W ⟨_, ⟨h0, _⟩ | ⟨_, h⟩⟩
    · cases h0
    · exact h
end
end Go.Proofs.Ytloogjdojojehaa
