/- Walks of the reference's table. -/
import Derived.Test.YtadppbjchacjiaaDMacs
namespace Go.Proofs.Ytadppbjchacjiaa
open Go.RowKit
set_option linter.unusedVariables false

set_option maxHeartbeats 2000000 in
set_option maxRecDepth 100000 in
theorem r_table (w : World) :
    Calls Try.prog 32 #[] w fun e w' => e = .returned (.agg (ints .u32 kTable).toArray) ∧ Below w.heap.size w w' := by
  go_enter Try.func32, Try.ntmps32
  go_wp2_with (first | (refine wpList_store_blk rfl 38 _ _ rfl w.heap.size (ints .u32 kTable) rfl rfl (Blk.new' w 38 (ints .u32 (zer 64)) rfl) (by rw [size_k64]; rfl) rfl (ints_one _ _) ?_))
  exact bodyPost_ret (v := .agg (ints .u32 kTable).toArray) (results_cell_blk rfl _ _ _ rfl ((Blk.new' w 38 (ints .u32 (zer 64)) rfl).row (ints .u32 kTable) rfl) Try.underlying38 rfl (by rw [size_k64]; rfl)) rfl ⟨rfl, below_setRow ((Below.refl _ _).alloc (Nat.le_refl _) _) (Nat.le_refl _) _⟩

end Go.Proofs.Ytadppbjchacjiaa
