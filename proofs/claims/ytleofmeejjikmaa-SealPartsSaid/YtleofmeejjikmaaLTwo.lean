/- New variables of hashes and blocks that are written at once: what lies there. -/
import Derived.Test.YtleofmeejjikmaaLRSeal
import Derived.Test.YtleofmeejjikmaaLShown
namespace Go.Proofs.Ytleofmeejjikmaa
open Go.RowKit
set_option linter.unusedVariables false

theorem two_hash (w : World) (A B : List Nat) (hA : A.length = 32) (hB : B.length = 32) :
    Blk ((w.alloc (.cells (ints .u8 (nn (zerN 32))).toArray 29)).alloc (.cells (ints .u8 (nn (zerN 32))).toArray 29)) w.heap.size 29 (ints .u8 (nn (zerN 32))) ∧
    Blk (((w.alloc (.cells (ints .u8 (nn (zerN 32))).toArray 29)).alloc (.cells (ints .u8 (nn (zerN 32))).toArray 29)).setRow w.heap.size (ints .u8 (nn A)).toArray) (w.heap.size + 1) 29 (ints .u8 (nn (zerN 32))) ∧
    Blk ((((w.alloc (.cells (ints .u8 (nn (zerN 32))).toArray 29)).alloc (.cells (ints .u8 (nn (zerN 32))).toArray 29)).setRow w.heap.size (ints .u8 (nn A)).toArray).setRow (w.heap.size + 1) (ints .u8 (nn B)).toArray) w.heap.size 29 (ints .u8 (nn A)) ∧
    Blk ((((w.alloc (.cells (ints .u8 (nn (zerN 32))).toArray 29)).alloc (.cells (ints .u8 (nn (zerN 32))).toArray 29)).setRow w.heap.size (ints .u8 (nn A)).toArray).setRow (w.heap.size + 1) (ints .u8 (nn B)).toArray) (w.heap.size + 1) 29 (ints .u8 (nn B)) ∧
    Below w.heap.size w ((((w.alloc (.cells (ints .u8 (nn (zerN 32))).toArray 29)).alloc (.cells (ints .u8 (nn (zerN 32))).toArray 29)).setRow w.heap.size (ints .u8 (nn A)).toArray).setRow (w.heap.size + 1) (ints .u8 (nn B)).toArray) := by
  have P1 : Blk ((w.alloc (.cells (ints .u8 (nn (zerN 32))).toArray 29)).alloc (.cells (ints .u8 (nn (zerN 32))).toArray 29)) w.heap.size 29 (ints .u8 (nn (zerN 32))) := (Blk.new w _ _).alloc _
  have P2 : Blk ((w.alloc (.cells (ints .u8 (nn (zerN 32))).toArray 29)).alloc (.cells (ints .u8 (nn (zerN 32))).toArray 29)) (w.heap.size + 1) 29 (ints .u8 (nn (zerN 32))) := Blk.newAt _ _ (by simp) _ _ rfl
  have Q2 := P2.rowOther (g := w.heap.size) (by omega) (ints .u8 (nn A)).toArray
  refine ⟨P1, Q2, (P1.row (ints .u8 (nn A)) (by rw [ints_length, ints_length, nn_length, nn_length, hA]; rfl)).rowOther (by omega) _, Q2.row (ints .u8 (nn B)) (by rw [ints_length, ints_length, nn_length, nn_length, hB]; rfl), ?_⟩
  exact below_setRow (below_setRow (((Below.refl _ _).alloc (Nat.le_refl _) _).alloc (by simp) _) (Nat.le_refl _) _) (by omega) _
theorem one_16 (w : World) (t : TypeId) (N : List Nat) (hN : N.length = 16) :
    Blk (w.alloc (.cells (ints .u8 (nn (zerN 16))).toArray t)) w.heap.size t (ints .u8 (nn (zerN 16))) ∧
    Blk ((w.alloc (.cells (ints .u8 (nn (zerN 16))).toArray t)).setRow w.heap.size (ints .u8 (nn N)).toArray) w.heap.size t (ints .u8 (nn N)) ∧
    Below w.heap.size w ((w.alloc (.cells (ints .u8 (nn (zerN 16))).toArray t)).setRow w.heap.size (ints .u8 (nn N)).toArray) :=
  ⟨Blk.new w _ _, (Blk.new w t (ints .u8 (nn (zerN 16)))).row _ (by rw [nc_len hN]; rfl), below_setRow ((Below.refl _ _).alloc (Nat.le_refl _) _) (Nat.le_refl _) _⟩
end Go.Proofs.Ytleofmeejjikmaa
