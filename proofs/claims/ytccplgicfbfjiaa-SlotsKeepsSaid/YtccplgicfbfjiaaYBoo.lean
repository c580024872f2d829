/- Truths as rows. -/
import Derived.Test.YtccplgicfbfjiaaG4
import Derived.ChangeArms
namespace Go.Proofs.Ytccplgicfbfjiaa
open Go.RowKit
set_option linter.unusedVariables false
def rowsO (l : List Bool) : List (List Value) := l.map fun b => [.bool b]
theorem rowsO_len (l : List Bool) : (rowsO l).length = l.length := by simp [rowsO]
theorem rowsO_at {l : List Bool} {j : Nat} (h : j < l.length) : (rowsO l)[j]? = some [.bool (l.getD j false)] := by simp [rowsO, h]
theorem SlO.cell {w : World} {p : Option Addr} {n cap : Nat} {l : List Bool} (h : Sl w 1 (.slice p n cap) (rowsO l)) {j : Nat} (hj : j < l.length) : ∃ a : Addr, p = some a ∧ w.cell? (a.add j) = some (.bool (l.getD j false)) := by
  obtain ⟨a, e, hc⟩ := h.row (rowsO_at hj)
  exact ⟨a, e, by have := hc 0 _ rfl; rw [Nat.mul_one] at this; exact this⟩
section
variable {H : Type} {enc : TypeId × Value → H} {w : World} {base : Nat} {spare : Nat → Bool} {held : Bool}
theorem open_bools {p0 : Option Addr} {len cap : Nat} {d : DataW H} {p : List MemPlace} (h : DataW.Trod enc Try.prog w base spare held 23 (.slice p0 len cap) d p) :
    ∃ l : List Bool, l.length = len ∧ Sl w 1 (.slice p0 len cap) (rowsO l) ∧ len ≤ cap := by
  obtain ⟨m, hm⟩ := h
  have hcells : (Value.slice p0 len cap).cells.toList = [.slice p0 len cap] := rfl
  rw [hcells] at hm
  rcases Deep.open_slice1 Try.underlying23 (by kernel_rfl) hm with ⟨hcs, _⟩ | ⟨a, len', cap', m', n, V, D, Pl, hcs, hb, hl, hcap, hmm, hx, hall⟩
  · cases hcs
    exact ⟨[], rfl, Sl.none 1, Nat.le_refl _⟩
  · cases hcs
    have hlm : len ≤ m' := by rw [hmm]; split <;> omega
    have each : ∀ i, i < len → ∃ q : Bool, V i = .bool q := fun i hi => by
      obtain ⟨_, g0⟩ := hall i (by omega)
      obtain ⟨x, e0, _⟩ := DataW.trod_bool Try.underlying4 g0
      exact ⟨x, by simpa using e0⟩
    obtain ⟨q, hq⟩ := Deep.choose_lt each
    refine ⟨(List.range len).map fun i => q i, by simp, ?_, by omega⟩
    unfold rowsO
    rw [List.map_map]
    refine rows_of a len cap _ (fun i hi => rfl) (fun h0 => ?_) (fun i hi j x hj => ?_)
    · have := cell_lt (hall 0 (by omega)).1
      rwa [add_block] at this
    · obtain ⟨g0, _⟩ := hall i (by omega)
      have e0 := hq i hi
      match j, hj with
      | 0, hj =>
        have hj' : Value.bool (q i) = x := by simpa using hj
        rw [← hj', ← e0, Nat.mul_one]
        exact g0
      | _ + 1, hj => simp at hj
end
end Go.Proofs.Ytccplgicfbfjiaa
