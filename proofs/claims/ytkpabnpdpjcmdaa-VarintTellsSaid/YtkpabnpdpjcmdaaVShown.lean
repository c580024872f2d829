/- The case that each law of varint asks. -/
import Derived.Test.YtkpabnpdpjcmdaaVGet
namespace Go.Proofs.Ytkpabnpdpjcmdaa
open Go.RowKit Go.Shelf
set_option linter.unusedVariables false

theorem put_300 : putL 300 = [172, 2] := by decide
theorem get_300 : getL [172, 2, 120] = (300, 2, 0) := by decide
set_option maxRecDepth 100000 in
set_option maxHeartbeats 1000000 in
theorem l4_shown (w : World) :
    Calls Try.prog 8 #[] w fun e w' => e = .returned (.bool true) ∧ Below w.heap.size w w' := by
  have hG : ∀ w, Calls Try.prog 9 #[.string ⟨#[172, 2, 120]⟩] w fun e w' => e = .returned (.tuple #[.int .u64 300, .string ⟨#[120]⟩, .int .i64 0]) ∧ Below w.heap.size w w' := fun w =>
    v_Get ⟨#[172, 2, 120]⟩ w (by decide) 300 2 0 ⟨#[120]⟩ get_300 rfl
  have hP : ∀ w, Calls Try.prog 15 #[.int .u64 300] w fun e w' => e = .returned (.string ⟨#[172, 2]⟩) ∧ Below w.heap.size w w' := fun w => by
    have h := v_Put 300 w (by decide)
    rw [put_300] at h
    exact h
  have HG := Lib.hid hG
  have HP := Lib.hid hP
  clear hG hP
  go_enter Try.func8, Try.ntmps8
  go_wp2_with (first | (go_at_call 9; (with_reducible refine (HG.out _).mono ?_); rintro e w3 ⟨rfl, hb3⟩) | (go_at_call 15; (with_reducible refine (HP.out _).mono ?_); rintro e w4 ⟨rfl, hb4⟩))
  go_ret
  exact ⟨rfl, hb3.trans (hb4.mono hb3.size)⟩
end Go.Proofs.Ytkpabnpdpjcmdaa
