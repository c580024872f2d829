/- Texts cut, and their bytes. -/
import Derived.Test.YtgagafefhmofjaaSShown
namespace Go.Proofs.Ytgagafefhmofjaa
open Go.RowKit
set_option linter.unusedVariables false

theorem sl_head (s : ByteArray) (n : Nat) : sl (s.extract 0 n) = (sl s).take n := by
  simp [sl, ByteArray.data_extract, List.map_take]
theorem sl_tail (s : ByteArray) (n : Nat) : sl (s.extract n s.size) = (sl s).drop n := by
  simp [sl, ByteArray.data_extract, List.map_drop]
  rw [List.take_of_length_le (by simp)]
theorem index_sl (s : ByteArray) (kk : IntKind) (j : Nat) (hj : j < s.size) (w : World) :
    (Instr.index 9 (.string s) (.int kk (j : Int))).run Try.prog w = .ok (.int .u8 (((sl s).getD j 0 : Nat) : Int)) w := by
  have hv : s.data.toList[j]? = some (s.data.toList[j]'(by simpa using hj)) := List.getElem?_eq_getElem _
  have hg : (sl s).getD j 0 = (s.get j hj).toNat := by
    unfold sl
    rw [List.getD_eq_getElem?_getD, List.getElem?_map, hv]
    rfl
  rw [hg]
  simp [Instr.index, asIntOf, Sem.run_bind, run_underlying Try.underlying9 w, hj]
  rfl
end Go.Proofs.Ytgagafefhmofjaa
