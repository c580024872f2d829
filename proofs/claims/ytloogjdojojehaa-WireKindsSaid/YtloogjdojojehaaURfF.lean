/- Walk of the reference's All: all requests in order (stage 17). Written by gen/mkure.py. -/
import Derived.Test.YtloogjdojojehaaUGb
namespace Go.Proofs.Ytloogjdojojehaa
open Go.RowKit
set_option linter.unusedVariables false

theorem blk_ne {w : World} {g g' : Nat} {t t' : TypeId} {vs vs' : List Value} (h : Blk w g t vs) (h' : Blk w g' t' vs') (ht : t ≠ t') : g ≠ g' := by
  rintro rfl
  unfold Blk at h h'
  rw [h] at h'
  simp at h'
  exact ht h'.2
end Go.Proofs.Ytloogjdojojehaa
