/- Walks of the reference's Check, Solid and Same over files. -/
import Derived.Test.YtloogjdojojehaaFA
import Derived.Test.YtloogjdojojehaaG3
import Derived.Test.YtloogjdojojehaaG4
namespace Go.Proofs.Ytloogjdojojehaa
open Go.RowKit
set_option linter.unusedVariables false

theorem solid_snoc (l : List (List Nat × List Nat)) {j : Nat} (h : j < l.length) : solidF (l.take (j + 1)) = solidF (l.take j) ++ (l.getD j noF).2 := by
  unfold solidF
  rw [List.take_succ_eq_append_getElem h, List.flatMap_append, List.getD_eq_getElem?_getD, List.getElem?_eq_getElem h]
  simp
theorem solid_take (l : List (List Nat × List Nat)) {n : Nat} (h : ∀ f ∈ l, f.2.length ≤ n) (j : Nat) : (solidF (l.take j)).length ≤ n * l.length := by
  have h1 := solid_len (l := l.take j) (n := n) fun f hf => h f (List.mem_of_mem_take hf)
  have h2 : n * (l.take j).length ≤ n * l.length := Nat.mul_le_mul_left _ (by rw [List.length_take]; omega)
  omega
end Go.Proofs.Ytloogjdojojehaa
namespace Go.Proofs.Ytloogjdojojehaa
open Go.RowKit
set_option linter.unusedVariables false

/-- whole numbers as rows -/
def rowsZF (l : List Int) : List (List Value) := l.map fun q => [.int .i64 q]
theorem rowsZF_len (l : List Int) : (rowsZF l).length = l.length := by simp [rowsZF]
theorem rowsZF_at {l : List Int} {j : Nat} (h : j < l.length) : (rowsZF l)[j]? = some [.int .i64 (l.getD j 0)] := by simp [rowsZF, h]
theorem rowsZ_snoc (l : List Int) (x : Int) : rowsZF (l ++ [x]) = rowsZF l ++ [[.int .i64 x]] := by simp [rowsZF]
theorem SlZF.cell {w : World} {p : Option Addr} {n cap : Nat} {l : List Int} (h : Sl w 1 (.slice p n cap) (rowsZF l)) {j : Nat} (hj : j < l.length) : ∃ a : Addr, p = some a ∧ w.cell? (a.add j) = some (.int .i64 (l.getD j 0)) := by
  obtain ⟨a, e, hc⟩ := h.row (rowsZF_at hj)
  exact ⟨a, e, by have := hc 0 _ rfl; rw [Nat.mul_one] at this; exact this⟩
theorem rowsS_snoc (l : List (List Nat)) (x : List Nat) : rowsS (l ++ [x]) = rowsS l ++ [[.string (tx x)]] := by simp [rowsS]
theorem names_snoc (l : List (List Nat × List Nat)) {j : Nat} (h : j < l.length) : namesF (l.take (j + 1)) = namesF (l.take j) ++ [(l.getD j noF).1] := by
  unfold namesF
  rw [List.take_succ_eq_append_getElem h, List.map_append, List.getD_eq_getElem?_getD, List.getElem?_eq_getElem h]
  rfl
theorem sizes_snoc (l : List (List Nat × List Nat)) {j : Nat} (h : j < l.length) : sizesF (l.take (j + 1)) = sizesF (l.take j) ++ [((l.getD j noF).2.length : Int)] := by
  unfold sizesF
  rw [List.take_succ_eq_append_getElem h, List.map_append, List.getD_eq_getElem?_getD, List.getElem?_eq_getElem h]
  rfl
theorem names_len (l : List (List Nat × List Nat)) : (namesF l).length = l.length := by simp [namesF]
theorem sizes_len (l : List (List Nat × List Nat)) : (sizesF l).length = l.length := by simp [sizesF]
def NamesRet (l : List (List Nat × List Nat)) (w : World) (e : Ending) (w' : World) : Prop :=
  ∃ v u, e = .returned (.tuple #[v, u]) ∧ OwnR w' w.heap.size 9 1 v (rowsS (namesF l)) ∧ OwnR w' w.heap.size 3 1 u (rowsZF (sizesF l)) ∧ Below w.heap.size w w'
end Go.Proofs.Ytloogjdojojehaa
namespace Go.Proofs.Ytloogjdojojehaa
open Go.RowKit
set_option linter.unusedVariables false

theorem pcs_le (s : List Nat) : pcs s ≤ s.length := by unfold pcs; omega
theorem pcs_lt {s : List Nat} {k : Nat} : k < pcs s ↔ 256 * k < s.length := by unfold pcs; omega
theorem piece_tx (s : ByteArray) (k N : Nat) (hN : N = min (256 * k + 256) s.size) : s.extract (256 * k) N = tx (pieceF (sl s) k) := by
  subst hN
  have h1 : s.extract (256 * k) (min (256 * k + 256) s.size) = tx (sl (s.extract (256 * k) (min (256 * k + 256) s.size))) := (tx_sl _).symm
  rw [h1]
  congr 1
  unfold pieceF sl
  rw [ByteArray.data_extract, Array.toList_extract, List.extract_eq_take_drop, List.map_take, List.map_drop]
  apply List.ext_getElem?
  intro i
  rw [List.getElem?_take, List.getElem?_take]
  by_cases h : i < 256
  · rw [if_pos h]
    by_cases h2 : 256 * k + i < s.size
    · rw [if_pos (by omega)]
    · rw [List.getElem?_drop, List.getElem?_eq_none (by simp; omega)]
      split <;> rfl
  · rw [if_neg h, if_neg (by omega)]
theorem cut_snoc (s : List Nat) (k : Nat) : (List.range (k + 1)).map (pieceF s) = (List.range k).map (pieceF s) ++ [pieceF s k] := by rw [List.range_succ, List.map_append]; rfl
end Go.Proofs.Ytloogjdojojehaa
