/- Lists of texts, as arguments; lists of numbers as rows. -/
import Derived.Test.YtlolcpfkaoembaaKC
namespace Go.Proofs.Ytlolcpfkaoembaa
open Go.RowKit Go.ChangeShapes Go.WideShapes
set_option linter.unusedVariables false

section
variable {H : Type} {enc : TypeId × Value → H} {w : World} {base : Nat} {spare : Nat → Bool} {held : Bool}
theorem open_texts {p0 : Option Addr} {len cap : Nat} {d : DataW H} {p : List MemPlace} (h : DataW.Trod enc Try.prog w base spare held 28 (.slice p0 len cap) d p) :
    ∃ l : List (List Nat), l.length = len ∧ Sl w 1 (.slice p0 len cap) (rowsS l) ∧ (∀ x ∈ l, Bys x) ∧ (Value.slice p0 len cap = .slice none 0 0 ∨ ∃ ad n c, Value.slice p0 len cap = .slice (some ad) n c) ∧ len ≤ cap ∧ cap ≤ maxLen := by
  obtain ⟨m, hm⟩ := h
  have hcells : (Value.slice p0 len cap).cells.toList = [.slice p0 len cap] := rfl
  rw [hcells] at hm
  rcases Deep.open_slice1 Try.underlying28 (by kernel_rfl) hm with ⟨hcs, _⟩ | ⟨a, len', cap', m', n, V, D, Pl, hcs, hb, hl, hcap, hmm, hx, hall⟩
  · cases hcs
    exact ⟨[], rfl, Sl.none 1, fun q h => (by cases h), .inl rfl, Nat.le_refl _, by simp [maxLen]⟩
  · cases hcs
    have hlm : len ≤ m' := by rw [hmm]; split <;> omega
    have each : ∀ i, i < len → ∃ q : ByteArray, V i = .string q := fun i hi => by
      obtain ⟨_, g0⟩ := hall i (by omega)
      obtain ⟨x, e0, _, w0⟩ := DataW.trod_string Try.underlying9 g0
      exact ⟨x, by simpa using e0⟩
    obtain ⟨q, hq⟩ := Deep.choose_lt each
    refine ⟨(List.range len).map fun i => sl (q i), by simp, ?_, fun x hx => ?_, .inr ⟨_, _, _, rfl⟩, by omega, by omega⟩
    · unfold rowsS
      rw [List.map_map]
      refine rows_of a len cap _ (fun i hi => rfl) (fun h0 => ?_) (fun i hi j x hj => ?_)
      · have := cell_lt (hall 0 (by omega)).1
        rwa [add_block] at this
      · obtain ⟨g0, _⟩ := hall i (by omega)
        have e0 := hq i hi
        match j, hj with
        | 0, hj =>
          have hj' : Value.string (tx (sl (q i))) = x := by simpa using hj
          rw [← hj', tx_sl, ← e0, Nat.mul_one]
          exact g0
        | _ + 1, hj => simp at hj
    · obtain ⟨i, hi, rfl⟩ := List.mem_map.1 hx
      exact sl_bys _
end
theorem Sl.taken {w : World} {k : Nat} {p : Option Addr} {n cap : Nat} {rows : List (List Value)} (h : Sl w k (.slice p n cap) rows) {m : Nat} (hm : m ≤ rows.length) (cap' : Nat) : Sl w k (.slice p m cap') (rows.take m) := by
  obtain ⟨h1, p', c', e, h3⟩ := h
  cases e
  refine ⟨fun r hr => h1 r (List.mem_of_mem_take hr), p, cap', by rw [List.length_take, Nat.min_eq_left hm], fun i r hr => h3 i r ?_⟩
  rw [List.getElem?_take] at hr
  split at hr
  · exact hr
  · cases hr
/-- numbers as rows -/
def rowsE (l : List Nat) : List (List Value) := l.map fun (x : Nat) => [.int .i64 (x : Int)]
theorem rowsE_len (l : List Nat) : (rowsE l).length = l.length := by simp [rowsE]
theorem rowsE_at {l : List Nat} {j : Nat} (h : j < l.length) : (rowsE l)[j]? = some [.int .i64 ((l.getD j 0 : Nat) : Int)] := by simp [rowsE, h]
theorem rowsE_snoc (l : List Nat) (x : Nat) : rowsE (l ++ [x]) = rowsE l ++ [[.int .i64 (x : Int)]] := by simp [rowsE]
theorem SlE.cell {w : World} {p : Option Addr} {n cap : Nat} {l : List Nat} (h : Sl w 1 (.slice p n cap) (rowsE l)) {j : Nat} (hj : j < l.length) : ∃ a : Addr, p = some a ∧ w.cell? (a.add j) = some (.int .i64 ((l.getD j 0 : Nat) : Int)) := by
  obtain ⟨a, e, hc⟩ := h.row (rowsE_at hj)
  exact ⟨a, e, by have := hc 0 _ rfl; rw [Nat.mul_one] at this; exact this⟩
theorem info_intK : (Try.prog.info? 3).map (fun i => (i.zero, i.size, i.bytes)) = some (some (.int .i64 0), 1, 8) := by kernel_rfl
/-- where frames end -/
def endsK (l : List (List Nat)) (j : Nat) : List Nat := (List.range j).map fun i => endK l (i + 1)
theorem endsK_len (l : List (List Nat)) (j : Nat) : (endsK l j).length = j := by simp [endsK]
theorem endsK_at (l : List (List Nat)) {j i : Nat} (h : i < j) : (endsK l j).getD i 0 = endK l (i + 1) := map_range_getD _ _ _ h
theorem endsK_snoc (l : List (List Nat)) (j : Nat) : endsK l (j + 1) = endsK l j ++ [endK l (j + 1)] := by unfold endsK; rw [List.range_succ, List.map_append]; rfl
theorem endK_all (l : List (List Nat)) : endK l l.length = (framesK l).length := by unfold endK; rw [List.take_length]
theorem endK_zero (l : List (List Nat)) : endK l 0 = 0 := rfl
theorem frames_take {l : List (List Nat)} {j : Nat} (h : j < l.length) : framesK (l.take (j + 1)) = framesK (l.take j) ++ frameK (l.getD j []) := by
  unfold framesK
  rw [List.take_succ_eq_append_getElem h, List.flatMap_append]
  simp [h]
theorem frames_bys {l : List (List Nat)} (h : ∀ x ∈ l, Bys x) : Bys (framesK l) := Bys.of fun y hy => by
  unfold framesK at hy
  obtain ⟨x, hx, hy⟩ := List.mem_flatMap.1 hy
  exact (frame_bys (h x hx)).mem hy
theorem frames_len {l : List (List Nat)} {n : Nat} (h : ∀ x ∈ l, x.length ≤ n) : (framesK l).length ≤ (6 + n) * l.length := by
  induction l with
  | nil => simp [framesK]
  | cons x l ih =>
    have h1 := h x (by simp)
    have h2 := ih fun y hy => h y (by simp [hy])
    unfold framesK at h2 ⊢
    rw [List.flatMap_cons, List.length_append, frame_len, List.length_cons, Nat.mul_add]
    omega
theorem endK_mono (l : List (List Nat)) {i j : Nat} (h : i ≤ j) : endK l i ≤ endK l j := by
  unfold endK framesK
  have e : l.take i = (l.take j).take i := by rw [List.take_take, Nat.min_eq_left h]
  have e2 : ((l.take j).flatMap frameK).length = (((l.take j).take i).flatMap frameK).length + (((l.take j).drop i).flatMap frameK).length := by
    rw [← List.length_append, ← List.flatMap_append, List.take_append_drop]
  rw [e]
  omega
end Go.Proofs.Ytlolcpfkaoembaa
