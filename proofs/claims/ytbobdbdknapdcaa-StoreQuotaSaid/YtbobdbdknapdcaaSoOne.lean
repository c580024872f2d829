/- The names of thirty texts of one byte are unlike; that of "abc" is not zeros: reckoned by the kernel, one by one. -/
import Derived.Test.YtbobdbdknapdcaaD5
namespace Go.Proofs.Ytbobdbdknapdcaa
set_option linter.unusedVariables false

set_option maxRecDepth 1000000
def n4 (i : Nat) : List Int := (sumL (tx [i])).take 4
theorem n4_0 : n4 0 = [110, 52, 11, 156] := by decide +kernel
theorem n4_1 : n4 1 = [75, 245, 18, 47] := by decide +kernel
theorem n4_2 : n4 2 = [219, 193, 180, 201] := by decide +kernel
theorem n4_3 : n4 3 = [8, 79, 237, 8] := by decide +kernel
theorem n4_4 : n4 4 = [229, 45, 156, 80] := by decide +kernel
theorem n4_5 : n4 5 = [231, 123, 154, 154] := by decide +kernel
theorem n4_6 : n4 6 = [103, 88, 110, 152] := by decide +kernel
theorem n4_7 : n4 7 = [202, 53, 135, 88] := by decide +kernel
theorem n4_8 : n4 8 = [190, 234, 215, 121] := by decide +kernel
theorem n4_9 : n4 9 = [43, 76, 52, 47] := by decide +kernel
theorem n4_10 : n4 10 = [1, 186, 71, 25] := by decide +kernel
theorem n4_11 : n4 11 = [231, 207, 70, 160] := by decide +kernel
theorem n4_12 : n4 12 = [239, 108, 189, 33] := by decide +kernel
theorem n4_13 : n4 13 = [157, 30, 14, 45] := by decide +kernel
theorem n4_14 : n4 14 = [77, 123, 62, 247] := by decide +kernel
theorem n4_15 : n4 15 = [220, 14, 156, 54] := by decide +kernel
theorem n4_16 : n4 16 = [197, 85, 234, 180] := by decide +kernel
theorem n4_17 : n4 17 = [74, 100, 161, 7] := by decide +kernel
theorem n4_18 : n4 18 = [242, 153, 121, 28] := by decide +kernel
theorem n4_19 : n4 19 = [171, 137, 127, 189] := by decide +kernel
theorem n4_20 : n4 20 = [131, 137, 29, 127] := by decide +kernel
theorem n4_21 : n4 21 = [47, 15, 209, 232] := by decide +kernel
theorem n4_22 : n4 22 = [124, 183, 196, 84] := by decide +kernel
theorem n4_23 : n4 23 = [143, 17, 176, 93] := by decide +kernel
theorem n4_24 : n4 24 = [69, 43, 161, 221] := by decide +kernel
theorem n4_25 : n4 25 = [104, 170, 46, 46] := by decide +kernel
theorem n4_26 : n4 26 = [88, 247, 176, 120] := by decide +kernel
theorem n4_27 : n4 27 = [119, 173, 252, 149] := by decide +kernel
theorem n4_28 : n4 28 = [189, 79, 196, 42] := by decide +kernel
theorem n4_29 : n4 29 = [31, 24, 214, 80] := by decide +kernel
theorem abc_ne : sumL ⟨#[97, 98, 99]⟩ ≠ List.replicate 32 0 := by decide +kernel
end Go.Proofs.Ytbobdbdknapdcaa
