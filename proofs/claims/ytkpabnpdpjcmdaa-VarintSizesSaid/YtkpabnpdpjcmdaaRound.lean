/- Byte slices of the call's own, and blocks, in rounds of a range over a function. -/
import Derived.Test.YtkpabnpdpjcmdaaRange
import Derived.Test.YtkpabnpdpjcmdaaOwnM
import Derived.Test.YtkpabnpdpjcmdaaNum
namespace Go.Proofs.Ytkpabnpdpjcmdaa
open Go.RowKit
set_option linter.unusedVariables false

theorem OwnB.kept {W W' : World} {base : Nat} {e : TypeId} {v : Value} {l : List Int} {row : Option Nat} (h : OwnB W base e v l) (hg : W.grownBy W' row) (hrow : ∀ r, row = some r → ∃ o : Obj, W.heap[r]? = some o ∧ o.isCells = false) : OwnB W' base e v l := by
  obtain ⟨h1, h2⟩ := h
  refine ⟨h1, ?_⟩
  rcases h2 with h2 | ⟨g, cap, cur, hv, hg', hh, r⟩
  · exact .inl h2
  · exact .inr ⟨g, cap, cur, hv, hg', (grownBy_keeps_cells hg hrow hh rfl).trans hh, r⟩
theorem Blk.grown {W W' : World} {b g : Nat} {t : TypeId} {vs : List Value} (h : Blk W b t vs) (hg : W.grownBy W' (some g)) (hne : b ≠ g) : Blk W' b t vs := by
  have h' := h
  unfold Blk at h' ⊢
  rw [hg.block b h.lt (by simp; omega)]
  exact h'
section
variable {P : Program} {m : Nat} {ops : Array Oper} {rest : List Oper} {o : Oper} {a : Act} {w : World} {Q : Exit → Act → World → Prop}
theorem wpListIn_load_blkR (l : Nat) (hgd : o.guard = none) (ty : TypeId) (x : Operand) (ho : o.op = .load ty x)
    (g : Nat) (hx : a.eval x = .pointer (some ⟨g, 0, none⟩)) {t : TypeId} {cs : List Value} {d : TypeDesc} (hg : Blk w g t cs)
    (hu : P.underlying ty = some d) (hd : (match d with | .struct _ | .array _ _ => true | _ => false) = true) (hi : (P.info? ty).map (·.size) = some cs.length)
    (h : wpListIn (Fence.wide.inRound l) m P ops Q rest (a.put o.dst (.agg cs.toArray)) w) : wpListIn (Fence.wide.inRound l) m P ops Q (o :: rest) a w :=
  wpListIn_plain hgd fun K hK => operIn_of (K := fun a w => K a w) l (by rw [ho]; intro c hc; cases hc) (fun _ _ h => h) (wp_load_row ty x ho g hx t cs.toArray (0, 0) d hg hu hd (by simpa using hi) (hK _ _ h))
theorem wpListIn_store_blkR (l : Nat) (hgd : o.guard = none) (ty : TypeId) (x y : Operand) (ho : o.op = .store ty x y)
    (g : Nat) (cs : List Value) (hx : a.eval x = .pointer (some ⟨g, 0, none⟩)) (hy : a.eval y = .agg cs.toArray)
    {t : TypeId} {old : List Value} (hg : Blk w g t old) (hi : (P.info? ty).map (·.size) = some cs.length)
    (hold : old.length = cs.length) (h1 : cs.toArray.all (·.oneCell') = true)
    (h : wpListIn (Fence.wide.inRound l) m P ops Q rest (a.put o.dst undef) (w.setRow g cs.toArray)) : wpListIn (Fence.wide.inRound l) m P ops Q (o :: rest) a w :=
  wpListIn_plain hgd fun K hK => operIn_of (K := fun a w => K a w) l (by rw [ho]; intro c hc; cases hc) (fun _ _ h => h) (wp_store_row ty x y ho g cs.toArray hx hy t old.toArray hg (by simpa using hi) (by simpa using hold) h1 (hK _ _ h))
theorem wpListIn_alloc_atR (l : Nat) (hgd : o.guard = none) (t : TypeId) (ho : o.op = .alloc t) (v : Value) (ob : Obj) (hrun : (Instr.alloc t true (.tuple #[])).run P w = .ok v (w.alloc ob))
    (h : wpListIn (Fence.wide.inRound l) m P ops Q rest (a.put o.dst v) (w.alloc ob)) : wpListIn (Fence.wide.inRound l) m P ops Q (o :: rest) a w :=
  wpListIn_plain hgd fun K hK => operIn_of (K := fun a w => K a w) l (by rw [ho]; intro c hc; cases hc) (fun _ _ h => h) (by
    unfold Oper.wp execOp
    simp only [ho, Sem.run_bind, hrun, Result.andThen_ok]
    exact hK _ _ h)
end
theorem OwnB.keep {w w' : World} {base : Nat} {e : TypeId} {v : Value} {l : List Int} (h : OwnB w base e v l) (hb : Below w.heap.size w w') : OwnB w' base e v l := h.below hb (fun k hk => (h.lt k hk).2)
theorem OwnB.other {w : World} {base : Nat} {e : TypeId} {g n cap : Nat} {l : List Int} (h : OwnB w base e (.slice (some ⟨g, 0, none⟩) n cap) l) {b : Nat} (hb : b ≠ g) (V : Value) : OwnB (w.setCell ⟨b, 0, none⟩ V) base e (.slice (some ⟨g, 0, none⟩) n cap) l := by
  obtain ⟨h1, h2⟩ := h
  refine ⟨h1, ?_⟩
  rcases h2 with h2 | ⟨g', cap', cur, hv, hg, hh, r⟩
  · exact .inl h2
  · cases hv
    refine .inr ⟨g, cap, cur, rfl, hg, ?_, r⟩
    rw [(grownBy_setCell' w b V).block g (Array.getElem?_eq_some_iff.1 hh).1 (by simp; omega)]
    exact hh
theorem fold_one (p : Tmp) (v : Value) (t : Array Value) : (#[p].zip #[v]).foldl (fun t (p, v) => t.setIfInBounds p v) t = t.setIfInBounds p v := by simp
end Go.Proofs.Ytkpabnpdpjcmdaa
