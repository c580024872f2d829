/- Facts of this seat's program that its texts share. -/
import Derived.Test.YtadppbjchacjiaaRows
import Derived.Test.YtadppbjchacjiaaSeat0
import Derived.Test.YtadppbjchacjiaaNum
import Derived.Test.YtadppbjchacjiaaOwnM
import Derived.Test.YtadppbjchacjiaaQTail
import Derived.WalkKit
import Derived.ProofKit
import Derived.ChangeOld
import Derived.Below
namespace Go.Proofs.Ytadppbjchacjiaa
open Go.RowKit
set_option linter.unusedVariables false

theorem own : ownKnob Try.prog.godebug = none := by kernel_rfl
theorem laidOut : laidOutB Try.prog = true := by kernel_rfl
theorem cells_u8 : Try.prog.cellsOf 5 = 1 := by kernel_rfl
theorem index_sl (s : ByteArray) (kk : IntKind) (j : Nat) (hj : j < s.size) (w : World) :
    (Instr.index 9 (.string s) (.int kk (j : Int))).run Try.prog w = .ok (.int .u8 (((sl s).getD j 0 : Nat) : Int)) w := by
  have hv : s.data.toList[j]? = some (s.data.toList[j]'(by simpa using hj)) := List.getElem?_eq_getElem _
  have hg : (sl s).getD j 0 = (s.get j hj).toNat := by
    unfold sl
    rw [List.getD_eq_getElem?_getD, List.getElem?_map, hv]
    rfl
  rw [hg]
  simp [Instr.index, asIntOf, Sem.run_bind, run_underlying Try.underlying9 w, hj]
  rfl
end Go.Proofs.Ytadppbjchacjiaa
