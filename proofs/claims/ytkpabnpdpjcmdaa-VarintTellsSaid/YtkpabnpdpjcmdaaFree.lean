/- A region whose order is open and whose operations make memory at will but write to none that was there: one spec for each operation's value, out of its forerunners' specs. -/
import Derived.Test.YtkpabnpdpjcmdaaInv
import Derived.Below
import Derived.WalkKit
namespace Go.Proofs.Ytkpabnpdpjcmdaa
open Go.RowKit
set_option linter.unusedVariables false

section
variable {P : Program}
def upd (u : Nat → Value) (i : Nat) (v : Value) : Nat → Value := fun j => if j = i then v else u j
theorem upd_same (u : Nat → Value) (i : Nat) (v : Value) : upd u i v i = v := if_pos rfl
theorem upd_other (u : Nat → Value) (i j : Nat) (v : Value) (h : j ≠ i) : upd u i v j = u j := if_neg h
/-- what an operation must come to: its value, by its spec, and no more than new memory -/
def Came (F : (Nat → Value) → Array Value) (D : List Deferred) (C : World → Prop) (Φ : Value → World → Prop) (u : Nat → Value) (i : Nat) (W : World) (a : Act) (W' : World) : Prop :=
  ∃ v, a = ⟨F (upd u i v), D⟩ ∧ Φ v W' ∧ C W' ∧ Below W.heap.size W W'
/-- THE LAW. -/
theorem region_free {id : Nat} {Q' : Exit → Act → World → Prop} {a : Act} {w : World} {l : List Oper} (hm : P.follows .mixedOrders = true) (hl : lexical l.toArray = true)
    (F : (Nat → Value) → Array Value) (D : List Deferred) (u0 : Nat → Value) (ha : a = ⟨F u0, D⟩) (C : World → Prop) (hC : C w.drew) (Φ : Nat → Value → World → Prop)
    (hΦ : ∀ i v W W', Φ i v W → C W → C W' → Below W.heap.size W W' → Φ i v W')
    (hstep : ∀ (u : Nat → Value) (W : World) (i : Nat) (o : Oper), l[i]? = some o → C W → (∀ e ∈ o.after, Region.binds .any e = true → Φ e.on (u e.on) W) →
      wpList P l.toArray (Exit.then (Came F D C (Φ i) u i W) (fun _ _ _ => False)) [o] ⟨F u, D⟩ W)
    (hend : ∀ (u : Nat → Value) (W : World), C W → (∀ i, i < l.length → Φ i (u i) W) → Q' .normal ⟨F u, D⟩ W) : (Code.region id l.toArray true).wp P Q' a w := by
  refine region_inv hm hl (fun L a W => ∃ u, a = ⟨F u, D⟩ ∧ C W ∧ ∀ i, i < l.length → L i = true → Φ i (u i) W) ⟨u0, ha, hC, fun i _ h => by cases h⟩ ?_ ?_ ?_
  · rintro L L' a W hE ⟨u, h1, h2, h3⟩
    exact ⟨u, h1, h2, fun i hi h => h3 i hi (by rw [hE i hi]; exact h)⟩
  · rintro L a W i o ⟨u, rfl, h2, h3⟩ ho hL hdep
    have hlex := (lexical_spec hl (show l.toArray[i]? = some o by simpa using ho)).2
    have hil : i < l.length := (List.getElem?_eq_some_iff.1 ho).1
    have hs := hstep u W i o ho h2 (fun e he hb => h3 e.on (by have := hlex e he hb; omega) (hdep e he hb))
    have fin : ∀ a' W', Came F D C (Φ i) u i W a' W' → ∃ u', a' = ⟨F u', D⟩ ∧ C W' ∧ ∀ j, j < l.length → (j == i || L j) = true → Φ j (u' j) W' := by
      rintro a' W' ⟨v, q1, q2, q3, q4⟩
      refine ⟨upd u i v, q1, q3, fun j hj h => ?_⟩
      by_cases e : j = i
      · subst e; rw [upd_same]; exact q2
      · rw [upd_other _ _ _ _ e]
        exact hΦ j _ _ _ (h3 j hj (by simpa [e] using h)) h2 q3 q4
    unfold wpList at hs ⊢
    split at hs
    · rename_i hw
      rw [if_pos hw]
      rcases hs with hs | ⟨hs1, a', w', hs⟩
      · exact .inl (oper_monoQ (fun _ _ _ h => h) (fun _ _ h => h) (Oper.wp_mono (fun a' w' h => by unfold wpList at h ⊢; exact fin _ _ h) hs))
      · exact hs.elim
    · rename_i hw
      rw [if_neg hw]
      unfold wpList at hs ⊢
      exact fin _ _ hs
  · rintro a W ⟨u, rfl, h2, h3⟩
    exact hend u W h2 (fun i hi => h3 i hi rfl)
/-- each operation ahead of the last one is waited for by it -/
def lastB (ops : Array Oper) (n : Nat) : Bool :=
  decide (ops.size = n + 1) && (match ops[n]? with
    | some o => (List.range n).all fun i => o.after.any fun e => Region.binds .any e && e.on == i
    | none => false)
theorem lastB_spec {ops : Array Oper} {n : Nat} (h : lastB ops n = true) : ops.size = n + 1 ∧ ∀ o, ops[n]? = some o → ∀ i, i < n → ∃ e ∈ o.after, Region.binds .any e = true ∧ e.on = i := by
  simp only [lastB, Bool.and_eq_true, decide_eq_true_eq] at h
  refine ⟨h.1, fun o ho i hi => ?_⟩
  have h2 := h.2
  rw [ho] at h2
  have := List.all_eq_true.1 h2 i (List.mem_range.2 hi)
  obtain ⟨e, he, hb⟩ := Array.any_iff_exists.1 this |> fun ⟨j, hj, hb⟩ => (⟨_, Array.getElem_mem hb.2.1, hb.2.2⟩ : ∃ e ∈ o.after, (Region.binds .any e && e.on == i) = true)
  simp only [Bool.and_eq_true, beq_iff_eq] at hb
  exact ⟨e, he, hb⟩
/-- THE LAW, where the last operation may write. -/
theorem region_free_last {id : Nat} {Q' : Exit → Act → World → Prop} {a : Act} {w : World} {l : List Oper} (n : Nat) (hm : P.follows .mixedOrders = true) (hl : lexical l.toArray = true) (hn : lastB l.toArray n = true)
    (F : (Nat → Value) → Array Value) (D : List Deferred) (u0 : Nat → Value) (ha : a = ⟨F u0, D⟩) (C : World → Prop) (hC : C w.drew) (Φ : Nat → Value → World → Prop)
    (hΦ : ∀ i v W W', Φ i v W → C W → C W' → Below W.heap.size W W' → Φ i v W')
    (hstep : ∀ (u : Nat → Value) (W : World) (i : Nat) (o : Oper), i < n → l[i]? = some o → C W → (∀ e ∈ o.after, Region.binds .any e = true → Φ e.on (u e.on) W) →
      wpList P l.toArray (Exit.then (Came F D C (Φ i) u i W) (fun _ _ _ => False)) [o] ⟨F u, D⟩ W)
    (hlast : ∀ (u : Nat → Value) (W : World) (o : Oper), l[n]? = some o → C W → (∀ i, i < n → Φ i (u i) W) → wpList P l.toArray (Exit.then (fun a' W' => Q' .normal a' W') (fun _ _ _ => False)) [o] ⟨F u, D⟩ W) : (Code.region id l.toArray true).wp P Q' a w := by
  obtain ⟨hsz, hwait⟩ := lastB_spec hn
  have hsz' : l.length = n + 1 := by simpa using hsz
  refine region_inv hm hl (fun L a W => (L n = false ∧ ∃ u, a = ⟨F u, D⟩ ∧ C W ∧ ∀ i, i < n → L i = true → Φ i (u i) W) ∨ ((∀ i, i ≤ n → L i = true) ∧ Q' .normal a W)) (.inl ⟨rfl, u0, ha, hC, fun i _ h => by cases h⟩) ?_ ?_ ?_
  · rintro L L' a W hE (⟨h0, u, h1, h2, h3⟩ | ⟨h1, h2⟩)
    · exact .inl ⟨by rw [← hE n (by omega)]; exact h0, u, h1, h2, fun i hi h => h3 i hi (by rw [hE i (by omega)]; exact h)⟩
    · exact .inr ⟨fun i hi => by rw [← hE i (by omega)]; exact h1 i hi, h2⟩
  · rintro L a W i o hI ho hL hdep
    have hlex := (lexical_spec hl (show l.toArray[i]? = some o by simpa using ho)).2
    have hil : i < l.length := (List.getElem?_eq_some_iff.1 ho).1
    rcases hI with ⟨h0, u, rfl, h2, h3⟩ | ⟨h1, _⟩
    · by_cases hi : i = n
      · subst hi
        have hall : ∀ j, j < i → L j = true := fun j hj => by
          obtain ⟨e, he, hb, rfl⟩ := hwait o (by simpa using ho) j hj
          exact hdep e he hb
        have hs := hlast u W o ho h2 (fun j hj => h3 j hj (hall j hj))
        have fin : ∀ a' W', Q' .normal a' W' → (((i == i || L i) = false ∧ ∃ u, a' = ⟨F u, D⟩ ∧ C W' ∧ ∀ j, j < i → (j == i || L j) = true → Φ j (u j) W') ∨ ((∀ j, j ≤ i → (j == i || L j) = true) ∧ Q' .normal a' W')) := fun a' W' h => .inr ⟨fun j hj => by
          by_cases e : j = i
          · simp [e]
          · simp [hall j (by omega)], h⟩
        unfold wpList at hs ⊢
        split at hs
        · rename_i hw
          rw [if_pos hw]
          rcases hs with hs | ⟨hs1, a', w', hs⟩
          · exact .inl (oper_monoQ (fun _ _ _ h => h) (fun _ _ h => h) (Oper.wp_mono (fun a' w' h => by unfold wpList at h ⊢; exact fin _ _ h) hs))
          · exact hs.elim
        · rename_i hw
          rw [if_neg hw]
          unfold wpList at hs ⊢
          exact fin _ _ hs
      · have hin : i < n := by omega
        have hs := hstep u W i o hin ho h2 (fun e he hb => h3 e.on (by have := hlex e he hb; omega) (hdep e he hb))
        have fin : ∀ a' W', Came F D C (Φ i) u i W a' W' → (((n == i || L n) = false ∧ ∃ u', a' = ⟨F u', D⟩ ∧ C W' ∧ ∀ j, j < n → (j == i || L j) = true → Φ j (u' j) W') ∨ ((∀ j, j ≤ n → (j == i || L j) = true) ∧ Q' .normal a' W')) := by
          rintro a' W' ⟨v, q1, q2, q3, q4⟩
          refine .inl ⟨by simp [h0]; omega, upd u i v, q1, q3, fun j hj h => ?_⟩
          by_cases e : j = i
          · subst e; rw [upd_same]; exact q2
          · rw [upd_other _ _ _ _ e]
            exact hΦ j _ _ _ (h3 j hj (by simpa [e] using h)) h2 q3 q4
        unfold wpList at hs ⊢
        split at hs
        · rename_i hw
          rw [if_pos hw]
          rcases hs with hs | ⟨hs1, a', w', hs⟩
          · exact .inl (oper_monoQ (fun _ _ _ h => h) (fun _ _ h => h) (Oper.wp_mono (fun a' w' h => by unfold wpList at h ⊢; exact fin _ _ h) hs))
          · exact hs.elim
        · rename_i hw
          rw [if_neg hw]
          unfold wpList at hs ⊢
          exact fin _ _ hs
    · rw [h1 i (by omega)] at hL; cases hL
  · rintro a W (⟨h0, _⟩ | ⟨_, h⟩)
    · cases h0
    · exact h
end
end Go.Proofs.Ytkpabnpdpjcmdaa
