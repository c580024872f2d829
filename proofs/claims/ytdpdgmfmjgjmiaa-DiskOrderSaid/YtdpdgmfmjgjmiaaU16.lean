/- Slices of numbers that can't be below zero, as arguments. -/
import Derived.Test.YtdpdgmfmjgjmiaaJ1
import Derived.Test.YtdpdgmfmjgjmiaaG2
namespace Go.Proofs.Ytdpdgmfmjgjmiaa
open Go.ChangeShapes Go.WideShapes Go.ChangeAt Go.RowKit
set_option linter.unusedVariables false

/-- numbers of a kind as rows -/
def rowsU (k : IntKind) (l : List Nat) : List (List Value) := l.map fun (n : Nat) => [.int k (n : Int)]
theorem rowsU_len (k : IntKind) (l : List Nat) : (rowsU k l).length = l.length := by simp [rowsU]
theorem rowsU_at {k : IntKind} {l : List Nat} {j : Nat} (h : j < l.length) : (rowsU k l)[j]? = some [.int k ((l.getD j 0 : Nat) : Int)] := by simp [rowsU, h]
theorem SlU.cell {w : World} {p : Option Addr} {n cap : Nat} {k : IntKind} {l : List Nat} (h : Sl w 1 (.slice p n cap) (rowsU k l)) {j : Nat} (hj : j < l.length) : ∃ a : Addr, p = some a ∧ w.cell? (a.add j) = some (.int k ((l.getD j 0 : Nat) : Int)) := by
  obtain ⟨a, e, hc⟩ := h.row (rowsU_at hj)
  exact ⟨a, e, by have := hc 0 _ rfl; rw [Nat.mul_one] at this; exact this⟩
theorem nat_nums {k : IntKind} {b : Nat} (hk : ∀ q : Int, (Lit.int k q).wf = true → 0 ≤ q ∧ q < (b : Int)) : ∀ (l : List Int), (∀ q ∈ l, (Lit.int k q).wf = true) → ∃ m : List Nat, m.length = l.length ∧ (l.map fun q => [Value.int k q]) = rowsU k m ∧ ∀ q ∈ m, q < b
  | [], _ => ⟨[], rfl, rfl, fun q h => by cases h⟩
  | q :: l, h => by
    obtain ⟨m, h1, h2, h3⟩ := nat_nums hk l (fun q hq => h q (by simp [hq]))
    obtain ⟨h4, h5⟩ := hk q (h q (by simp))
    obtain ⟨n, rfl⟩ : ∃ n : Nat, q = (n : Int) := ⟨q.toNat, by omega⟩
    refine ⟨n :: m, by simp [h1], ?_, fun r hr => ?_⟩
    · rw [List.map_cons, h2]; rfl
    · rcases List.mem_cons.1 hr with rfl | hr
      · omega
      · exact h3 r hr
theorem wf_u16 (q : Int) (h : (Lit.int .u16 q).wf = true) : 0 ≤ q ∧ q < ((65536 : Nat) : Int) := by
  have : (IntKind.u16.min ≤ q) ∧ (q ≤ IntKind.u16.max) := by simpa [Lit.wf] using h
  have e1 : IntKind.u16.min = 0 := by decide
  have e2 : IntKind.u16.max = 65535 := by decide
  omega
theorem wf_u8 (q : Int) (h : (Lit.int .u8 q).wf = true) : 0 ≤ q ∧ q < ((256 : Nat) : Int) := by
  have : (IntKind.u8.min ≤ q) ∧ (q ≤ IntKind.u8.max) := by simpa [Lit.wf] using h
  have e1 : IntKind.u8.min = 0 := by decide
  have e2 : IntKind.u8.max = 255 := by decide
  omega
section
variable {H : Type} {enc : TypeId × Value → H} {w : World} {base : Nat} {spare : Nat → Bool} {held : Bool}
theorem open_u8s {p0 : Option Addr} {len cap : Nat} {d : DataW H} {p : List MemPlace} (h : DataW.Trod enc Try.prog w base spare held 31 (.slice p0 len cap) d p) :
    ∃ l : List Nat, l.length = len ∧ Sl w 1 (.slice p0 len cap) (rowsU .u8 l) ∧ ∀ q ∈ l, q < 256 := by
  obtain ⟨l, h1, h2, h3, h4⟩ := open_nums Try.underlying31 Try.underlying5 (by kernel_rfl) h
  obtain ⟨m, q1, q2, q3⟩ := nat_nums wf_u8 l h3
  exact ⟨m, q1.trans h1, by rw [← q2]; exact h2, q3⟩
end
end Go.Proofs.Ytdpdgmfmjgjmiaa
