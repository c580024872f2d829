/- A region whose order is open, by what holds whatever has been done: for regions with a new variable (whose making may come at any time) beside calls. -/
import Derived.Test.YtkpabnpdpjcmdaaQTail
namespace Go.Proofs.Ytkpabnpdpjcmdaa
open Go.RowKit
set_option linter.unusedVariables false

section
variable {P : Program}
theorem un_set_lt (b : Array Bool) (k : Nat) (hk : b.getD k true = false) : ∀ m, k < m → un (b.setIfInBounds k true) m + 1 ≤ un b m
  | 0, h => by omega
  | m + 1, h => by
    have hks : k < b.size := by
      rcases Nat.lt_or_ge k b.size with h' | h'
      · exact h'
      · rw [Array.getD_eq_getD_getElem?, Array.getElem?_eq_none h'] at hk; cases hk
    by_cases hm : m = k
    · subst hm
      have h1 : (b.setIfInBounds m true).getD m true = true := by
        simp only [Array.getD_eq_getD_getElem?]
        rw [Array.getElem?_setIfInBounds_self_of_lt hks]
        rfl
      simp only [un, un_set_low b m m (Nat.le_refl _), h1, hk, if_true]
      simp
    · have h1 : (b.setIfInBounds k true).getD m true = b.getD m true := by
        simp only [Array.getD_eq_getD_getElem?]
        rw [Array.getElem?_setIfInBounds_ne (by omega)]
      have := un_set_lt b k hk m (by omega)
      simp only [un, h1]
      omega
theorem oper_monoQ {o : Oper} {a : Act} {w : World} {K : Act → World → Prop} {Q Q' : Exit → Act → World → Prop} (hp : ∀ c a w, Q (.panic c) a w → False) (ho : ∀ a w, Q .outgrown a w → False)
    (h : o.wp P a w K Q) : o.wp P a w K Q' := by
  unfold Oper.wp at h ⊢
  generalize (execOp a.eval o).run P w = r at h ⊢
  cases r with
  | ok x w' =>
    cases x <;> simp only [Oper.upon] at h ⊢
    case value => exact h
    case skip => exact h
    case defer => exact h
    case enter =>
      refine h.mono ?_
      intro e w'' he
      cases e
      · exact he
      · exact (hp _ _ _ he).elim
      · obtain ⟨a', w', he⟩ := he; exact (ho _ _ he).elim
    case row => exact h
  | halt x w' =>
    cases x <;> simp only [Oper.upon] at h ⊢
    all_goals first | exact h | exact (hp _ _ _ h).elim | exact (ho _ _ h).elim | (obtain ⟨a', w', he⟩ := h; exact (ho _ _ he).elim)
/-- THE LAW. -/
theorem region_inv {id : Nat} {Q' : Exit → Act → World → Prop} {a : Act} {w : World} {l : List Oper} (hm : P.follows .mixedOrders = true) (hl : lexical l.toArray = true)
    (Inv : (Nat → Bool) → Act → World → Prop) (h0 : Inv (fun _ => false) a w.drew)
    (hext : ∀ L L' a w, (∀ i, i < l.length → L i = L' i) → Inv L a w → Inv L' a w)
    (hstep : ∀ (L : Nat → Bool) (a : Act) (w : World) (i : Nat) (o : Oper), Inv L a w → l[i]? = some o → L i = false → (∀ e ∈ o.after, Region.binds .any e = true → L e.on = true) →
      wpList P l.toArray (Exit.then (Inv (fun j => j == i || L j)) (fun _ _ _ => False)) [o] a w)
    (hend : ∀ (a : Act) (w : World), Inv (fun _ => true) a w → Q' .normal a w) : (Code.region id l.toArray true).wp P Q' a w := by
  have hstart : Inv (fun i => (Array.replicate l.length false).getD i false) a w.drew := hext _ _ _ _ (fun i hi => by simp [hi]) h0
  have first : ∀ (listed : Array Bool), listed.size = l.length → ∀ i, i < l.length → listed.getD i true = false → ∃ k, k < l.length ∧ k ∈ Region.ready .any l.toArray listed := by
    intro listed hsz i
    induction i using Nat.strongRecOn with
    | _ i ih =>
      intro hi hun
      obtain ⟨oi, hoi⟩ : ∃ oi, l.toArray[i]? = some oi := ⟨_, Array.getElem?_eq_getElem (by simpa using hi)⟩
      by_cases hall : ∀ e ∈ oi.after, Region.binds .any e = true → listed.getD e.on false = true
      · exact ⟨i, hi, mem_ready.2 ⟨hun, oi, hoi, hall⟩⟩
      · obtain ⟨e, he⟩ := Classical.not_forall.1 hall
        obtain ⟨he1, he2⟩ := Classical.not_forall.1 he
        obtain ⟨he3, he4⟩ := Classical.not_forall.1 he2
        have hlt := (lexical_spec hl hoi).2 e he1 he3
        have : listed.getD e.on true = false := by
          have hsz : e.on < listed.size := by omega
          simp [hsz] at he4 ⊢
          exact he4
        exact ih e.on hlt (by omega) this
  have key : ∀ (f : Nat) (listed : Array Bool) (a : Act) (w : World), listed.size = l.length → un listed l.length ≤ f → Inv (fun i => listed.getD i false) a w → wpAny P .any l.toArray Q' f listed a w := by
    have fin : ∀ (listed : Array Bool) (a : Act) (w : World), listed.size = l.length → Region.ready .any l.toArray listed = [] → Inv (fun i => listed.getD i false) a w → Q' .normal a w := by
      intro listed a w hsz hr hI
      refine hend a w (hext _ _ _ _ (fun i hi => ?_) hI)
      cases hg : listed.getD i true with
      | true =>
        have hs : i < listed.size := by omega
        simp [hs] at hg ⊢
        exact hg
      | false =>
        obtain ⟨k, _, hk⟩ := first listed hsz i hi hg
        rw [hr] at hk
        cases hk
    intro f
    induction f with
    | zero =>
      intro listed a w hsz hun hI
      have hr : Region.ready .any l.toArray listed = [] := by
        refine List.eq_nil_iff_forall_not_mem.2 fun i hi => ?_
        obtain ⟨h1, oi, hoi, _⟩ := mem_ready.1 hi
        have hil : i < l.length := by simpa using (Array.getElem?_eq_some_iff.1 hoi).1
        have := un_set_lt listed i h1 l.length hil
        omega
      exact ⟨hr, fin listed a w hsz hr hI⟩
    | succ f ih =>
      intro listed a w hsz hun hI
      refine ⟨fun hr => fin listed a w hsz hr hI, fun i hi => ?_⟩
      obtain ⟨h1, o, ho, hdep⟩ := mem_ready.1 hi
      have hil : i < l.length := by simpa using (Array.getElem?_eq_some_iff.1 ho).1
      have hL : listed.getD i false = false := by
        have hs : i < listed.size := by omega
        simp [hs] at h1 ⊢
        exact h1
      have hs := hstep _ a w i o hI (by simpa using ho) hL hdep
      have hnext : ∀ a' w', Inv (fun j => j == i || listed.getD j false) a' w' → wpAny P .any l.toArray Q' f (listed.setIfInBounds i true) a' w' := fun a' w' hI' =>
        ih _ a' w' (by simpa using hsz) (by have := un_set_lt listed i h1 l.length hil; omega) (hext _ _ _ _ (fun j hj => by
          by_cases e : j = i
          · subst e
            simp only [beq_self_eq_true, Bool.true_or, Array.getD_eq_getD_getElem?]
            rw [Array.getElem?_setIfInBounds_self_of_lt (by omega)]
            rfl
          · simp only [Array.getD_eq_getD_getElem?]
            rw [Array.getElem?_setIfInBounds_ne (by omega)]
            simp [e]) hI')
      unfold wpList at hs
      unfold wpOp
      simp only [ho]
      split at hs
      · rename_i hw
        rw [if_pos hw]
        rcases hs with hs | ⟨_, a', w', hs⟩
        · exact .inl (oper_monoQ (fun _ _ _ h => h) (fun _ _ h => h) (Oper.wp_mono (fun a' w' h => hnext a' w' h) hs))
        · exact hs.elim
      · rename_i hw
        rw [if_neg hw]
        exact hnext _ _ hs
  refine wp_region_any hm (key _ _ _ _ (by simp) ?_ (by simpa using hstart))
  rw [un_all _ l.length (fun i hi => getD_in (by simpa using hi) (getD_replicate_false _ _))]
  simp
end
end Go.Proofs.Ytkpabnpdpjcmdaa
