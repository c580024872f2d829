/- Facts of this seat's program that its texts share: those that ask for few texts. -/
import Derived.Test.YtadppbjchacjiaaRows
import Derived.Test.YtadppbjchacjiaaBlk
namespace Go.Proofs.Ytadppbjchacjiaa
open Go.RowKit
set_option linter.unusedVariables false

theorem mixed : Try.prog.follows .mixedOrders = true := by kernel_rfl
/-- the class of the worlds that are as w0 was, but for new blocks -/
def NewBut (w0 w : World) : Prop := Below w0.heap.size w0 w
theorem size_u8 : (Try.prog.info? 5).map (·.size) = some 1 := by kernel_rfl
theorem info_u8 : (Try.prog.info? 5).map (fun i => (i.zero, i.size, i.bytes)) = some (some (.int .u8 0), 1, 1) := by kernel_rfl
theorem sizeOf_u8 (w : World) : (sizeOf 5).run Try.prog w = .ok 1 w := by kernel_rfl
end Go.Proofs.Ytadppbjchacjiaa
