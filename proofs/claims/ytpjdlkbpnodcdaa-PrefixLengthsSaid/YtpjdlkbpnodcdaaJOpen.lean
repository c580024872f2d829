/- Slices of pieces and of numbers as arguments. -/
import Derived.Test.YtpjdlkbpnodcdaaJ1
import Derived.OpenShut
namespace Go.Proofs.Ytpjdlkbpnodcdaa
open Go.ChangeShapes Go.WideShapes Go.ChangeAt Go.RowKit
set_option linter.unusedVariables false

theorem nat_pieces : ∀ (l : List (Int × Int)), (∀ q ∈ l, (Lit.int .u32 q.1).wf = true ∧ (Lit.int .i64 q.2).wf = true) → ∃ m : List (Nat × Int), m.length = l.length ∧ (l.map fun q => [Value.int .u32 q.1, Value.int .i64 q.2]) = rowsP m ∧ ∀ q ∈ m, q.1 < 4294967296
  | [], _ => ⟨[], rfl, rfl, fun q h => by cases h⟩
  | q :: l, h => by
    obtain ⟨m, h1, h2, h3⟩ := nat_pieces l (fun q hq => h q (by simp [hq]))
    obtain ⟨n, e, hn⟩ := nat_u32 q.1 (h q (by simp)).1
    refine ⟨(n, q.2) :: m, by simp [h1], ?_, fun r hr => ?_⟩
    · have e2 : rowsP ((n, q.2) :: m) = rowP (n, q.2) :: rowsP m := rfl
      rw [List.map_cons, h2, e2, e]
      rfl
    · rcases List.mem_cons.1 hr with rfl | hr
      · exact hn
      · exact h3 r hr
section
variable {H : Type} {enc : TypeId × Value → H} {w : World} {base : Nat} {spare : Nat → Bool} {held : Bool}
theorem open_pieces {p0 : Option Addr} {len cap : Nat} {d : DataW H} {p : List MemPlace} (h : DataW.Trod enc Try.prog w base spare held 29 (.slice p0 len cap) d p) :
    ∃ l : List (Nat × Int), l.length = len ∧ Sl w 2 (.slice p0 len cap) (rowsP l) ∧ ∀ q ∈ l, q.1 < 4294967296 := by
  obtain ⟨l, h1, h2, h3, h4⟩ := open_pairs Try.underlying29 Try.underlying39 (by kernel_rfl) rfl rfl (by kernel_rfl) (by kernel_rfl) Try.underlying36 Try.underlying3 h
  obtain ⟨m, q1, q2, q3⟩ := nat_pieces l h3
  exact ⟨m, q1.trans h1, by rw [← q2]; exact h2, q3⟩
/-- .. that are nil, or lie somewhere -/
theorem open_pieces2 {p0 : Option Addr} {len cap : Nat} {d : DataW H} {p : List MemPlace} (h : DataW.Trod enc Try.prog w base spare held 29 (.slice p0 len cap) d p) :
    ∃ l : List (Nat × Int), l.length = len ∧ Sl w 2 (.slice p0 len cap) (rowsP l) ∧ (∀ q ∈ l, q.1 < 4294967296) ∧ (Value.slice p0 len cap = .slice none 0 0 ∨ ∃ ad n c, Value.slice p0 len cap = .slice (some ad) n c) := by
  obtain ⟨l, h1, h2, h3⟩ := open_pieces h
  refine ⟨l, h1, h2, h3, ?_⟩
  obtain ⟨m, hm⟩ := h
  have hcells : (Value.slice p0 len cap).cells.toList = [.slice p0 len cap] := rfl
  rw [hcells] at hm
  rcases Deep.open_slice_pairs Try.underlying29 Try.underlying39 (by kernel_rfl) rfl rfl (by kernel_rfl) (by kernel_rfl) hm with ⟨hcs, _⟩ | ⟨a, len', cap', m', n, V0, V1, D0, D1, P0, P1, hcs, _⟩
  · cases hcs; exact .inl rfl
  · cases hcs; exact .inr ⟨_, _, _, rfl⟩
/-- numbers as rows -/
def rowsI (l : List Int) : List (List Value) := l.map fun n => [.int .i64 n]
theorem open_ilist {p0 : Option Addr} {len cap : Nat} {d : DataW H} {p : List MemPlace} (h : DataW.Trod enc Try.prog w base spare held 22 (.slice p0 len cap) d p) :
    ∃ l : List Int, l.length = len ∧ Sl w 1 (.slice p0 len cap) (rowsI l) ∧ ∀ q ∈ l, (Lit.int .i64 q).wf = true := by
  obtain ⟨l, h1, h2, h3, h4⟩ := open_nums Try.underlying22 Try.underlying3 (by kernel_rfl) h
  exact ⟨l, h1, h2, h3⟩
end
end Go.Proofs.Ytpjdlkbpnodcdaa
