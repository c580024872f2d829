/- A slice literal of one row of many cells; an own slice beside a row that is written. -/
import Derived.Test.YtdpdgmfmjgjmiaaJ1
import Derived.Great.BuildSlice
namespace Go.Proofs.Ytdpdgmfmjgjmiaa
open Go.RowKit
set_option linter.unusedVariables false

theorem OwnR.rowApart {w : World} {base : Nat} {e : TypeId} {k : Nat} {v : Value} {rows : List (List Value)} (h : OwnR w base e k v rows) (r : Nat) (row : Array Value) (hne : ∀ b, v.ownBlock = some b → b ≠ r) : OwnR (w.setRow r row) base e k v rows := by
  obtain ⟨k0, k1, k2⟩ := h
  refine ⟨k0, k1, ?_⟩
  rcases k2 with h | ⟨g, cap, cur, hv, hg, hh, rest⟩
  · exact .inl h
  · refine .inr ⟨g, cap, cur, hv, hg, ?_, rest⟩
    have hB : Blk w g e cur.toList := by unfold Blk; exact hh
    have hB' := hB.rowOther (g := r) (hne g (by rw [hv]; rfl)) row
    unfold Blk at hB'
    exact hB'
/-! ### a slice literal of one row -/
theorem fold_row : ∀ (xs pre ys : List Value), ys.length = xs.length → (xs.zipIdx pre.length).foldl (fun (cs : Array Value) x => cs.setIfInBounds (0 + x.2) x.1) (pre ++ ys).toArray = (pre ++ xs).toArray
  | [], pre, ys, h => by
    obtain rfl := List.eq_nil_of_length_eq_zero h
    rfl
  | x :: xs, pre, [], h => by simp at h
  | x :: xs, pre, y :: ys, h => by
    have ih := fold_row xs (pre ++ [x]) ys (by simpa using h)
    rw [List.length_append, List.length_singleton] at ih
    rw [List.zipIdx_cons, List.foldl_cons]
    have e : ((pre ++ y :: ys).toArray.setIfInBounds (0 + pre.length) x) = ((pre ++ [x]) ++ ys).toArray := by
      rw [List.setIfInBounds_toArray, Nat.zero_add, List.set_append_right _ _ (Nat.le_refl _), Nat.sub_self]
      simp
    simp only [e]
    rw [ih]
    simp
theorem fill_row (k : Nat) (cells : Array Value) (r : List Value) (hr : r.length = k) (hc : cells.size = k) : Instr.fill (fun i => some (i * k, k)) cells [(0, .agg r.toArray)] = some r.toArray := by
  have hf := fold_row r [] cells.toList (by simp [hr, hc])
  have hv : (Value.agg r.toArray).cells = r.toArray := rfl
  simp only [Instr.fill, hv, List.size_toArray, hr, hc, Nat.zero_mul, Nat.zero_add]
  simp only [List.nil_append, List.length_nil, Nat.zero_add, Array.toArray_toList] at hf
  rw [← Array.foldl_toList, Array.toList_zipIdx, hf]
  simp
section
variable {P : Program} {ops : Array Oper} {rest : List Oper} {o : Oper} {a : Act} {w : World} {Q : Exit → Act → World → Prop}
/-- a slice literal of one row of k cells -/
theorem wpList_buildRow (hg : o.guard = none) (t e : TypeId) (parts : Array (Nat × Operand)) (ho : o.op = .buildSlice t 1 parts) (r : List Value) (ie : TypeInfo) (z : Value) (N : Nat) (hN : w.heap.size = N)
    (hu : P.underlying t = some (.slice e)) (hie : P.info? e = some ie) (hz : ie.zero = some z) (hk : ie.size = r.length) (h0 : 0 < r.length) (h1 : r.length ≤ 1000) (hp : (parts.map fun (i, x) => (i, a.eval x)).toList = [(0, .agg r.toArray)])
    (h : wpList P ops Q rest (a.put o.dst (.slice (some ⟨N, 0, none⟩) 1 1)) (w.alloc (.cells r.toArray e))) : wpList P ops Q (o :: rest) a w := by
  subst hN
  exact wpList_buildSlice hg t e 1 parts ho r.toArray ie z hu hie hz (by rw [hk]; omega) (by rw [hk]; omega) (by rw [hp]; exact fill_row _ _ r hk.symm (by rw [hk]; simp)) h
end
end Go.Proofs.Ytdpdgmfmjgjmiaa
