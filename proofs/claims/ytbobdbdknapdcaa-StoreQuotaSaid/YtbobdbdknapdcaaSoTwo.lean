/- The names of thirty texts of one byte are unlike. -/
import Derived.Test.YtbobdbdknapdcaaSoOne
namespace Go.Proofs.Ytbobdbdknapdcaa
set_option linter.unusedVariables false

theorem n4_all : (List.range 30).map n4 = [[110, 52, 11, 156], [75, 245, 18, 47], [219, 193, 180, 201], [8, 79, 237, 8], [229, 45, 156, 80], [231, 123, 154, 154], [103, 88, 110, 152], [202, 53, 135, 88], [190, 234, 215, 121], [43, 76, 52, 47], [1, 186, 71, 25], [231, 207, 70, 160], [239, 108, 189, 33], [157, 30, 14, 45], [77, 123, 62, 247], [220, 14, 156, 54], [197, 85, 234, 180], [74, 100, 161, 7], [242, 153, 121, 28], [171, 137, 127, 189], [131, 137, 29, 127], [47, 15, 209, 232], [124, 183, 196, 84], [143, 17, 176, 93], [69, 43, 161, 221], [104, 170, 46, 46], [88, 247, 176, 120], [119, 173, 252, 149], [189, 79, 196, 42], [31, 24, 214, 80]] := by
  simp only [List.range, List.range.loop, List.map_cons, List.map_nil, n4_0, n4_1, n4_2, n4_3, n4_4, n4_5, n4_6, n4_7, n4_8, n4_9, n4_10, n4_11, n4_12, n4_13, n4_14, n4_15, n4_16, n4_17, n4_18, n4_19, n4_20, n4_21, n4_22, n4_23, n4_24, n4_25, n4_26, n4_27, n4_28, n4_29]
theorem one_ne {i j : Nat} (hi : i < 30) (hj : j < 30) (h : sumL (tx [i]) = sumL (tx [j])) : i = j := by
  have hn : ((List.range 30).map n4).Nodup := by rw [n4_all]; decide
  have hl : ((List.range 30).map n4).length = 30 := by rw [List.length_map, List.length_range]
  have e : n4 i = n4 j := by unfold n4; rw [h]
  have hg : ∀ k (hk : k < ((List.range 30).map n4).length), ((List.range 30).map n4)[k]'hk = n4 k := fun k hk => by rw [List.getElem_map, List.getElem_range]
  have hp := List.pairwise_iff_getElem.1 hn
  rcases Nat.lt_trichotomy i j with hlt | hlt | hlt
  · exact absurd ((hg i (by rw [hl]; exact hi)).trans (e.trans (hg j (by rw [hl]; exact hj)).symm)) (hp i j (by rw [hl]; exact hi) (by rw [hl]; exact hj) hlt)
  · exact hlt
  · exact absurd ((hg j (by rw [hl]; exact hj)).trans (e.symm.trans (hg i (by rw [hl]; exact hi)).symm)) (hp j i (by rw [hl]; exact hj) (by rw [hl]; exact hi) hlt)
end Go.Proofs.Ytbobdbdknapdcaa
