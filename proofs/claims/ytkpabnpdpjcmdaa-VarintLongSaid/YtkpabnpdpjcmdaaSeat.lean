/- Facts of this seat's program that its texts share. -/
import Derived.Test.YtkpabnpdpjcmdaaRows
import Derived.Test.YtkpabnpdpjcmdaaNum
import Derived.Test.YtkpabnpdpjcmdaaOwnM
import Derived.Test.YtkpabnpdpjcmdaaQTail
import Derived.WalkKit
import Derived.ProofKit
import Derived.ChangeOld
import Derived.Below
namespace Go.Proofs.Ytkpabnpdpjcmdaa
open Go.RowKit
set_option linter.unusedVariables false

theorem own : ownKnob Try.prog.godebug = none := by kernel_rfl
theorem laidOut : laidOutB Try.prog = true := by kernel_rfl
theorem mixed : Try.prog.follows .mixedOrders = true := by kernel_rfl
/-- the class of the worlds that are as w0 was, but for new blocks -/
def NewBut (w0 w : World) : Prop := Below w0.heap.size w0 w
theorem size_u8 : (Try.prog.info? 5).map (·.size) = some 1 := by kernel_rfl
theorem info_u8 : (Try.prog.info? 5).map (fun i => (i.zero, i.size, i.bytes)) = some (some (.int .u8 0), 1, 1) := by kernel_rfl
theorem cells_u8 : Try.prog.cellsOf 5 = 1 := by kernel_rfl
theorem index_sl (s : ByteArray) (kk : IntKind) (j : Nat) (hj : j < s.size) (w : World) :
    (Instr.index 9 (.string s) (.int kk (j : Int))).run Try.prog w = .ok (.int .u8 (((sl s).getD j 0 : Nat) : Int)) w := by
  have hv : s.data.toList[j]? = some (s.data.toList[j]'(by simpa using hj)) := List.getElem?_eq_getElem _
  have hg : (sl s).getD j 0 = (s.get j hj).toNat := by
    unfold sl
    rw [List.getD_eq_getElem?_getD, List.getElem?_map, hv]
    rfl
  rw [hg]
  simp [Instr.index, asIntOf, Sem.run_bind, run_underlying Try.underlying9 w, hj]
  rfl
end Go.Proofs.Ytkpabnpdpjcmdaa
