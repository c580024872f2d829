/- Regions in an open order, one of whose operations writes to memory that the region itself has made: by a spec for each operation's value, ahead of that operation and behind it. -/
import Derived.Test.YtloogjdojojehaaG1
namespace Go.Proofs.Ytloogjdojojehaa
open Go.RowKit
set_option linter.unusedVariables false

section
variable {P : Program}
/-- THE LAW: operation k turns what the others have come to; all others make no more than new memory. -/
theorem region_turn {id : Nat} {Q' : Exit → Act → World → Prop} {a : Act} {w : World} {l : List Oper} (k : Nat) (hm : P.follows .mixedOrders = true) (hl : lexical l.toArray = true) (hk : k < l.length)
    (F : (Nat → Value) → Array Value) (D : List Deferred) (u0 : Nat → Value) (ha : a = ⟨F u0, D⟩) (C : World → Prop) (hC : C w.drew) (Φ : Bool → Nat → Value → World → Prop)
    (hΦ : ∀ b i v W W', Φ b i v W → C W → C W' → Below W.heap.size W W' → Φ b i v W')
    (hstep : ∀ (b : Bool) (u : Nat → Value) (W : World) (i : Nat) (o : Oper), i ≠ k → l[i]? = some o → C W → (∀ e ∈ o.after, Region.binds .any e = true → Φ b e.on (u e.on) W) →
      wpList P l.toArray (Exit.then (Came F D C (Φ b i) u i W) (fun _ _ _ => False)) [o] ⟨F u, D⟩ W)
    (hone : ∀ (u : Nat → Value) (W : World) (o : Oper), l[k]? = some o → C W → (∀ e ∈ o.after, Region.binds .any e = true → Φ false e.on (u e.on) W) →
      wpList P l.toArray (Exit.then (fun a' W' => ∃ v, a' = ⟨F (upd u k v), D⟩ ∧ Φ true k v W' ∧ C W' ∧ ∀ i x, i ≠ k → Φ false i x W → Φ true i x W') (fun _ _ _ => False)) [o] ⟨F u, D⟩ W)
    (hend : ∀ (u : Nat → Value) (W : World), C W → (∀ i, i < l.length → Φ true i (u i) W) → Q' .normal ⟨F u, D⟩ W) : (Code.region id l.toArray true).wp P Q' a w := by
  refine region_inv hm hl (fun L a W => ∃ u, a = ⟨F u, D⟩ ∧ C W ∧ ∀ i, i < l.length → L i = true → Φ (L k) i (u i) W) ⟨u0, ha, hC, fun i _ h => by cases h⟩ ?_ ?_ ?_
  · rintro L L' a W hE ⟨u, h1, h2, h3⟩
    exact ⟨u, h1, h2, fun i hi h => by rw [← hE k hk]; exact h3 i hi (by rw [hE i hi]; exact h)⟩
  · rintro L a W i o ⟨u, rfl, h2, h3⟩ ho hL hdep
    have hlex := (lexical_spec hl (show l.toArray[i]? = some o by simpa using ho)).2
    have hil : i < l.length := (List.getElem?_eq_some_iff.1 ho).1
    have hd : ∀ e ∈ o.after, Region.binds .any e = true → Φ (L k) e.on (u e.on) W := fun e he hb => h3 e.on (by have := hlex e he hb; omega) (hdep e he hb)
    have key : ∀ (K K' : Act → World → Prop), wpList P l.toArray (Exit.then K (fun _ _ _ => False)) [o] ⟨F u, D⟩ W → (∀ a' W', K a' W' → K' a' W') → wpList P l.toArray (Exit.then K' (fun _ _ _ => False)) [o] ⟨F u, D⟩ W := by
      intro K K' hs fin
      unfold wpList at hs ⊢
      split at hs
      · rename_i hw
        rw [if_pos hw]
        rcases hs with hs | ⟨hs1, a', w', hs⟩
        · exact .inl (oper_monoQ (fun _ _ _ h => h) (fun _ _ h => h) (Oper.wp_mono (fun a' w' h => by unfold wpList at h ⊢; exact fin _ _ h) hs))
        · exact hs.elim
      · rename_i hw
        rw [if_neg hw]
        unfold wpList at hs ⊢
        exact fin _ _ hs
    by_cases hik : i = k
    · subst hik
      rw [hL] at hd
      refine key _ _ (hone u W o ho h2 hd) fun a' W' ⟨v, q1, q2, q3, q4⟩ => ⟨upd u i v, q1, q3, fun j hj h => ?_⟩
      show Φ (i == i || L i) j (upd u i v j) W'
      rw [show (i == i || L i) = true by simp]
      by_cases e : j = i
      · subst e; rw [upd_same]; exact q2
      · rw [upd_other _ _ _ _ e]
        have := h3 j hj (by simpa [e] using h)
        rw [hL] at this
        exact q4 j _ e this
    · refine key _ _ (hstep (L k) u W i o hik ho h2 hd) fun a' W' ⟨v, q1, q2, q3, q4⟩ => ⟨upd u i v, q1, q3, fun j hj h => ?_⟩
      show Φ (k == i || L k) j (upd u i v j) W'
      rw [show (k == i || L k) = L k by rw [show (k == i) = false from beq_eq_false_iff_ne.2 (fun e => hik e.symm), Bool.false_or]]
      by_cases e : j = i
      · subst e; rw [upd_same]; exact q2
      · rw [upd_other _ _ _ _ e]
        exact hΦ _ j _ _ _ (h3 j hj (by simpa [e] using h)) h2 q3 q4
  · rintro a W ⟨u, rfl, h2, h3⟩
    exact hend u W h2 (fun i hi => h3 i hi rfl)
/-- THE LAW, where an operation may read what one that waits for it writes: such a one has not been done yet. -/
theorem region_turnF {id : Nat} {Q' : Exit → Act → World → Prop} {a : Act} {w : World} {l : List Oper} (k : Nat) (hm : P.follows .mixedOrders = true) (hl : lexical l.toArray = true) (hk : k < l.length)
    (F : (Nat → Value) → Array Value) (D : List Deferred) (u0 : Nat → Value) (ha : a = ⟨F u0, D⟩) (C : Bool → World → Prop) (hC : C false w.drew) (Φ : Bool → Nat → Value → World → Prop)
    (hΦ : ∀ b i v W W', Φ b i v W → C b W → C b W' → Below W.heap.size W W' → Φ b i v W')
    (hstep : ∀ (b : Bool) (u : Nat → Value) (W : World) (i : Nat) (o : Oper), i ≠ k → l[i]? = some o → C b W → (∀ e ∈ o.after, Region.binds .any e = true → Φ b e.on (u e.on) W) →
      (∀ j p, l[j]? = some p → (∃ e ∈ p.after, Region.binds .any e = true ∧ e.on = i) → u j = u0 j) →
      wpList P l.toArray (Exit.then (Came F D (C b) (Φ b i) u i W) (fun _ _ _ => False)) [o] ⟨F u, D⟩ W)
    (hone : ∀ (u : Nat → Value) (W : World) (o : Oper), l[k]? = some o → C false W → (∀ e ∈ o.after, Region.binds .any e = true → Φ false e.on (u e.on) W) →
      wpList P l.toArray (Exit.then (fun a' W' => ∃ v, a' = ⟨F (upd u k v), D⟩ ∧ Φ true k v W' ∧ C true W' ∧ ∀ i x, i ≠ k → Φ false i x W → Φ true i x W') (fun _ _ _ => False)) [o] ⟨F u, D⟩ W)
    (hend : ∀ (u : Nat → Value) (W : World), C true W → (∀ i, i < l.length → Φ true i (u i) W) → Q' .normal ⟨F u, D⟩ W) : (Code.region id l.toArray true).wp P Q' a w := by
  refine region_inv hm hl (fun L a W => ∃ u, a = ⟨F u, D⟩ ∧ C (L k) W ∧ (∀ i, i < l.length → L i = true → Φ (L k) i (u i) W) ∧ (∀ i, i < l.length → L i = false → u i = u0 i) ∧
    ∀ i p, l[i]? = some p → L i = true → ∀ e ∈ p.after, Region.binds .any e = true → L e.on = true) ⟨u0, ha, hC, (fun i _ h => by cases h), (fun i _ _ => rfl), fun i p _ h => by cases h⟩ ?_ ?_ ?_
  · rintro L L' a W hE ⟨u, h1, h2, h3, h4, h5⟩
    refine ⟨u, h1, by rw [← hE k hk]; exact h2, fun i hi h => by rw [← hE k hk]; exact h3 i hi (by rw [hE i hi]; exact h), fun i hi h => h4 i hi (by rw [hE i hi]; exact h), fun i p hp h e he hb => ?_⟩
    have hi : i < l.length := (List.getElem?_eq_some_iff.1 hp).1
    have hlt := (lexical_spec hl (show l.toArray[i]? = some p by simpa using hp)).2 e he hb
    rw [← hE e.on (by omega)]
    exact h5 i p hp (by rw [hE i hi]; exact h) e he hb
  · rintro L a W i o ⟨u, rfl, h2, h3, h4, h5⟩ ho hL hdep
    have hlex := (lexical_spec hl (show l.toArray[i]? = some o by simpa using ho)).2
    have hil : i < l.length := (List.getElem?_eq_some_iff.1 ho).1
    have hd : ∀ e ∈ o.after, Region.binds .any e = true → Φ (L k) e.on (u e.on) W := fun e he hb => h3 e.on (by have := hlex e he hb; omega) (hdep e he hb)
    have hfr : ∀ j p, l[j]? = some p → (∃ e ∈ p.after, Region.binds .any e = true ∧ e.on = i) → u j = u0 j := fun j p hp ⟨e, he, hb, hei⟩ => by
      refine h4 j (List.getElem?_eq_some_iff.1 hp).1 ?_
      cases hLj : L j with
      | false => rfl
      | true =>
        have := h5 j p hp hLj e he hb
        rw [hei, hL] at this
        cases this
    have hnew5 : ∀ j p, l[j]? = some p → (j == i || L j) = true → ∀ e ∈ p.after, Region.binds .any e = true → (e.on == i || L e.on) = true := fun j p hp h e he hb => by
      by_cases e1 : j = i
      · subst e1
        rw [ho] at hp
        cases hp
        simp [hdep e he hb]
      · simp [h5 j p hp (by simpa [e1] using h) e he hb]
    have hnew4 : ∀ v j, j < l.length → (j == i || L j) = false → upd u i v j = u0 j := fun v j hj h => by
      simp only [Bool.or_eq_false_iff, beq_eq_false_iff_ne] at h
      rw [upd_other _ _ _ _ h.1]
      exact h4 j hj h.2
    have key : ∀ (K K' : Act → World → Prop), wpList P l.toArray (Exit.then K (fun _ _ _ => False)) [o] ⟨F u, D⟩ W → (∀ a' W', K a' W' → K' a' W') → wpList P l.toArray (Exit.then K' (fun _ _ _ => False)) [o] ⟨F u, D⟩ W := by
      intro K K' hs fin
      unfold wpList at hs ⊢
      split at hs
      · rename_i hw
        rw [if_pos hw]
        rcases hs with hs | ⟨hs1, a', w', hs⟩
        · exact .inl (oper_monoQ (fun _ _ _ h => h) (fun _ _ h => h) (Oper.wp_mono (fun a' w' h => by unfold wpList at h ⊢; exact fin _ _ h) hs))
        · exact hs.elim
      · rename_i hw
        rw [if_neg hw]
        unfold wpList at hs ⊢
        exact fin _ _ hs
    by_cases hik : i = k
    · subst hik
      rw [hL] at hd h2
      refine key _ _ (hone u W o ho h2 hd) fun a' W' ⟨v, q1, q2, q3, q4⟩ => ⟨upd u i v, q1, by simpa using q3, fun j hj h => ?_, hnew4 v, hnew5⟩
      show Φ (i == i || L i) j (upd u i v j) W'
      rw [show (i == i || L i) = true by simp]
      by_cases e : j = i
      · subst e; rw [upd_same]; exact q2
      · rw [upd_other _ _ _ _ e]
        have := h3 j hj (by simpa [e] using h)
        rw [hL] at this
        exact q4 j _ e this
    · have hkk : (k == i || L k) = L k := by rw [show (k == i) = false from beq_eq_false_iff_ne.2 (fun e => hik e.symm), Bool.false_or]
      refine key _ _ (hstep (L k) u W i o hik ho h2 hd hfr) fun a' W' ⟨v, q1, q2, q3, q4⟩ => ⟨upd u i v, q1, by show C (k == i || L k) W'; rw [hkk]; exact q3, fun j hj h => ?_, hnew4 v, hnew5⟩
      show Φ (k == i || L k) j (upd u i v j) W'
      rw [show (k == i || L k) = L k by rw [show (k == i) = false from beq_eq_false_iff_ne.2 (fun e => hik e.symm), Bool.false_or]]
      by_cases e : j = i
      · subst e; rw [upd_same]; exact q2
      · rw [upd_other _ _ _ _ e]
        exact hΦ _ j _ _ _ (h3 j hj (by simpa [e] using h)) h2 q3 q4
  · rintro a W ⟨u, rfl, h2, h3, _, _⟩
    exact hend u W h2 (fun i hi => h3 i hi rfl)
end
end Go.Proofs.Ytloogjdojojehaa
namespace Go.Proofs.Ytloogjdojojehaa
open Go.RowKit
set_option linter.unusedVariables false

theorem OwnB.grownP {w w' : World} {base : Nat} {e : TypeId} {v : Value} {l : List Int} (h : OwnB w base e v l) {o : Option Nat} (hg : w.grownBy w' o) (hne : ∀ b, v.ownBlock = some b → some b ≠ o) : OwnB w' base e v l := by
  obtain ⟨k1, k2⟩ := h
  refine ⟨k1, ?_⟩
  rcases k2 with h | ⟨g, cap, cur, hv, hgg, hh, rest⟩
  · exact .inl h
  · refine .inr ⟨g, cap, cur, hv, hgg, ?_, rest⟩
    have hlt : g < w.heap.size := by
      rcases Nat.lt_or_ge g w.heap.size with hb | hb
      · exact hb
      · rw [Array.getElem?_eq_none hb] at hh; cases hh
    rw [hg.block g hlt (hne g (by rw [hv]; rfl))]
    exact hh
theorem OwnB.keepP {w w' : World} {base : Nat} {e : TypeId} {v : Value} {l : List Int} (h : OwnB w base e v l) (hb : Below w.heap.size w w') : OwnB w' base e v l := h.below hb (fun k hk => (h.lt k hk).2)
/-- a slice that was grown is no other one's -/
theorem own_apart {w w5 : World} {base : Nat} {e : TypeId} {vA v5 vB : Value} {lB : List Int} {o : Obj} (hB : OwnB w base e vB lB) (hne : ∀ x, vA.ownBlock = some x → vB.ownBlock ≠ some x)
    (hat : v5.ownBlock = vA.ownBlock ∨ v5.ownBlock = some (w.alloc o).heap.size) : ∀ x, v5.ownBlock = some x → vB.ownBlock ≠ some x := by
  intro x hx hb
  rcases hat with h | h
  · exact hne x (h ▸ hx) hb
  · have h1 := (hB.lt x hb).2
    rw [h] at hx
    simp at hx
    omega
section
variable {P : Program} {C : World → Prop} {zs : Array Oper} {Q : Act → Prop} {op : Oper} {rest : List Oper} {a : Act}
theorem wpQuiet_string_ownP (hgd : Region.wanted op (yielded zs a.tmps) = true) (src dst e : TypeId) (x : Operand) (ho : op.op = .convert src dst x) (base : Nat) (v : Value) (l : List Int)
    (hx : a.eval x = v) (hs : P.underlying src = some (.slice e)) (he : P.underlying e = some (.int .u8)) (hd : P.underlying dst = some .string)
    (hc : ∀ w', C w' → OwnB w' base e v l) (h : wpQuiet P zs C Q rest (a.put op.dst (.string (bs l)))) : wpQuiet P zs C Q (op :: rest) a := by
  unfold wpQuiet
  rw [if_pos hgd]
  refine ⟨.string (bs l), fun w' hw' => ?_, h⟩
  unfold Oper.quietAt execOp
  simp only [ho, hx, Sem.run_bind, run_string_own (P := P) (w := w') src dst e base v l hs he hd (hc w' hw'), Result.andThen_ok, Sem.run_pure, Oper.quietUpon]
  trivial
end
section
variable {P : Program} {ops : Array Oper} {rest : List Oper} {o : Oper} {a : Act} {w : World} {Q : Exit → Act → World → Prop}
theorem wpList_min3 (hgd : o.guard = none) (x y z : Operand) (i : TypeId) (ho : o.op = .call { callee := .builtin .min, args := #[x, y, z], argTypes := #[i, i, i] })
    (A B C N : Int) (hx : a.eval x = .int .i64 A) (hy : a.eval y = .int .i64 B) (hz : a.eval z = .int .i64 C) (hN : (if C < (if B < A then B else A) then C else (if B < A then B else A)) = N)
    (h : wpList P ops Q rest (a.put o.dst (.int .i64 N)) w) : wpList P ops Q (o :: rest) a w := by
  refine wpList_plain hgd fun K hK => ?_
  subst hN
  unfold Oper.wp execOp
  simp only [ho, resolve, invoke, builtin, Sem.run_bind, Sem.run_pure, Result.andThen_ok, List.map_toArray, List.map_cons, List.map_nil, hx, hy, hz, Builtin.min_, Builtin.min2, List.foldlM_cons, List.foldlM_nil]
  exact hK _ _ h
end
end Go.Proofs.Ytloogjdojojehaa
