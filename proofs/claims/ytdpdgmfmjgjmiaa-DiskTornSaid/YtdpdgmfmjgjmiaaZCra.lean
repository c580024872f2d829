/- Walk of the program's disk: Crash. -/
import Derived.Test.YtdpdgmfmjgjmiaaZCrN
namespace Go.Proofs.Ytdpdgmfmjgjmiaa
open Go.RowKit
open Go.Maps Go.Sort Go.Shelf
set_option linter.unusedVariables false

theorem d_keys (M : Nat) (w : World) : Calls Try.prog 26 #[.map (some M)] w fun e w' => e = .returned (.func (.func 36) #[] #[.pointer (some ⟨w.heap.size, 0, none⟩)]) ∧ w' = w.alloc (.cells #[.map (some M)] 46) :=
  (callsIn_wide (n := 5)).1 (AnyZI.keys_in keysA Fence.wide 5 trivial rfl (some M) w)
theorem d_sorted {w : World} {M k : Nat} {E : DataW Unit} (hown : w.ownsMap Try.prog 3 hdrR M k E) (hk : k ≤ 100000) :
    Calls Try.prog 25 #[.func (.func 36) #[] #[.pointer (some ⟨w.heap.size, 0, none⟩)]] (w.alloc (.cells #[.map (some M)] 46)) fun e w' => ∃ (v : Value) (ss : List Int), e = .returned v ∧ ss.Perm (intKeys E) ∧
      w'.ownsRow (w.heap.size + 1) 3 1 v ss.length ((ss.mergeSort (fun x y => decide (x ≤ y))).map encZ) ∧ (v = .slice none 0 0 ↔ ss = []) ∧ Below (w.heap.size + 1) (w.alloc (.cells #[.map (some M)] 46)) w' := by
  have hsz := hown.size_le
  have hmax : Maps.size E ≤ maxLen := by unfold maxLen; omega
  have hbytes : Maps.size E * 8 ≤ 140737488355328 := by omega
  have hbl := hown.lt
  have hseq : SeqGives Fence.wide 2 Try.prog 36 #[.pointer (some ⟨w.heap.size, 0, none⟩)] encZ (fun ss => ss.Perm (intKeys E)) (Maps.size E) (w.alloc (.cells #[.map (some M)] 46)) :=
    AnyZI.keys_gives (ρ := keysA_ren) { keysA with } Fence.wide _ trivial rfl (by omega) w.heap.size M k E _ (by simp) (by simp) (by
      obtain ⟨es, clock, hb, Ft, hs, hD⟩ := hown
      exact ⟨es, clock, (Below.heap_alloc _ _ M hbl).trans hb, Ft, hs, hD⟩)
  have cS := AnyZI.sorted_in sortedA Fence.wide 5 trivial trivial trivial trivial rfl (by omega) (sortsA _) (enters_of Try.func35 (by kernel_rfl) rfl) 36 #[.pointer (some ⟨w.heap.size, 0, none⟩)] trivial (enters_of Try.func36 (by kernel_rfl) rfl) _ _ hmax hbytes _ hseq
  change CallsIn _ _ Try.prog 25 _ _ _ at cS
  refine ((callsIn_wide (n := 5)).1 cS).mono ?_
  rintro e w' ⟨v, ss, h1, h2, h3, h4, h5⟩
  have hz : (w.alloc (.cells #[.map (some M)] 46)).heap.size = w.heap.size + 1 := by simp
  rw [hz] at h3 h5
  exact ⟨v, ss, h1, h2, h3, h4, h5⟩
/-- numbers as rows of one cell -/
def rowsN (l : List Int) : List (List Value) := l.map fun n => [.int .i64 n]
theorem rowsN_flat (l : List Int) : (rowsN l).flatten = l.map encZ := by
  unfold rowsN
  induction l with
  | nil => rfl
  | cons a l ih => rw [List.map_cons, List.flatten_cons, ih]; rfl
theorem Sl.same {w w' : World} {k : Nat} {p : Option Addr} {n c : Nat} {rows : List (List Value)} (h : Sl w k (.slice p n c) rows) (hz : w.heap.size ≤ w'.heap.size) (hs : ∀ a, p = some a → 0 < n → w'.heap[a.block]? = w.heap[a.block]?) : Sl w' k (.slice p n c) rows := by
  obtain ⟨h1, p', cap, h2, h3⟩ := h
  cases h2
  refine ⟨h1, p, c, rfl, fun i r hr => ?_⟩
  obtain ⟨a, q1, q2, q3⟩ := h3 i r hr
  have hi : i < rows.length := (List.getElem?_eq_some_iff.1 hr).1
  refine ⟨a, q1, Nat.lt_of_lt_of_le q2 hz, fun j x hx => ?_⟩
  have := q3 j x hx
  unfold World.cell? at this ⊢
  rw [add_block, hs a q1 (by omega)]
  rw [add_block] at this
  exact this
end Go.Proofs.Ytdpdgmfmjgjmiaa
