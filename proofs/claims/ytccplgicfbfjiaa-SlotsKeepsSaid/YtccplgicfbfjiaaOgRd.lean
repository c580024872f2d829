/- Walks of a pair of slots: pairOf, start. -/
import Derived.Test.YtccplgicfbfjiaaOgNw
import Derived.Test.YtccplgicfbfjiaaZB
import Derived.Test.YtccplgicfbfjiaaFC
import Derived.Test.YtccplgicfbfjiaaY1
import Derived.Test.YtccplgicfbfjiaaAf2
import Derived.BigQuiet
namespace Go.Proofs.Ytccplgicfbfjiaa
open Go.RowKit
set_option linter.unusedVariables false

/-- a pair of slots in memory -/
def prV (D : Nat) (fr k : Int) : List Value := [ptD D, .int .i64 fr, .int .i64 k]
theorem g_start (D fr k i : Nat) (w : World) (hfr : fr ≤ 4096) (hk : k ≤ 100) (hi : i ≤ 1) (n : Nat) (hn : fr + i * k = n) :
    Calls Try.prog 35 #[.agg (prV D fr k).toArray, .int .i64 (i : Int)] w fun e w' => e = .returned (.int .i64 (n : Int)) ∧ Below w.heap.size w w' := by
  obtain ⟨w1, hw1⟩ : ∃ w1, w.alloc (.cells (prV D fr k).toArray 50) = w1 := ⟨_, rfl⟩
  have hb1 : Below w.heap.size w w1 := by rw [← hw1]; exact (Below.refl w.heap.size w).alloc (Nat.le_refl _) _
  have k1 : Blk w1 w.heap.size 50 (prV D fr k) := by rw [← hw1]; exact Blk.new w _ _
  have c1 := k1.cell 1
  have c2 := k1.cell 2
  unfold prV ptD at c1 c2 hw1 ⊢
  simp only [List.getElem?_cons_zero, List.getElem?_cons_succ] at c1 c2
  have HB1 := Lib.hid hb1
  have hle : i * k ≤ 100 := by
    rcases (show i = 0 ∨ i = 1 by omega) with rfl | rfl <;> omega
  obtain ⟨m, hm⟩ : ∃ m, i * k = m := ⟨_, rfl⟩
  have e1 : (i : Int) * (k : Int) = (m : Int) := by rw [← hm]; exact (Int.natCast_mul i k).symm
  have e2 : IntKind.i64.wrap ((i : Int) * (k : Int)) = (m : Int) := by rw [e1, IntKind.wrap_i64]; omega
  have e3 : (fr : Int) + (m : Int) = (n : Int) := by omega
  have i1 : (fr : Int) ≤ 4096 := by omega
  have i2 : (m : Int) ≤ 100 := by omega
  have E3 := Lib.hid e3
  clear hb1 k1 hn hm hle e3 hfr hk hi
  go_enter Try.func35, Try.ntmps35
  go_wp2
  go_ret
  exact ⟨by rw [← E3.out]; rfl, HB1.out⟩
set_option maxRecDepth 100000 in
theorem g_pairOf_yes {w : World} {base D S M kk : Nat} {E : DataW Unit} {V : Nat → Value} {q : Option (Nat × Int)} {d : DiskM} (h : DkW w base D S M kk E V q d) (hb : d.sec.length ≤ 4096) (fr k : Int) (hm : mayS d fr k) :
    Calls Try.prog 17 #[ptD D, .int .i64 fr, .int .i64 k] w fun e w' => e = .returned (.tuple #[.agg (prV D fr k).toArray, .int .i64 0]) ∧ Below w.heap.size w w' := by
  obtain ⟨w1, hw1⟩ : ∃ w1, w.alloc (.cells #[.pointer none, .int .i64 0, .int .i64 0] 50) = w1 := ⟨_, rfl⟩
  have hb1 : Below w.heap.size w w1 := by rw [← hw1]; exact (Below.refl w.heap.size w).alloc (Nat.le_refl _) _
  have k1 : Blk w1 w.heap.size 50 [.pointer none, .int .i64 0, .int .i64 0] := by rw [← hw1]; exact Blk.new w _ _
  obtain ⟨h1, h2, h3, h4⟩ := hm
  have HS := Lib.hid (d_Sectors (h.below hb1))
  have K1 := Lib.hid k1
  have K2 := Lib.hid (k1.row (prV D fr k) rfl)
  have KB := Lib.hid (below_setRow hb1 (b := w.heap.size) (Nat.le_refl _) (prV D fr k).toArray)
  have d1 : ¬ k < 1 := by omega
  have d2 : ¬ 100 < k := by omega
  have d3 : ¬ fr < 0 := by omega
  have d4 : ¬ (d.sec.length : Int) - 2 * k < fr := by omega
  have g1 : (d.sec.length : Int) ≤ 4096 := by omega
  have g2 : (0 : Int) ≤ (d.sec.length : Int) := by omega
  unfold ptD at HS ⊢
  unfold prV ptD at K2 KB ⊢
  clear h hb h1 h2 h3 h4 hb1 k1
  generalize (d.sec.length : Int) = n at *
  obtain ⟨z, hz⟩ : ∃ z, w.heap.size = z := ⟨_, rfl⟩
  rw [hz] at K1 K2 KB ⊢
  go_enter Try.func17, Try.ntmps17
  go_wp2_with (first | (go_at_call 29; (with_reducible refine HS.out.mono ?_); rintro e w2 ⟨rfl, rfl⟩) | (refine wpList_store_blk rfl 50 _ _ rfl z [.pointer (some ⟨D, 0, none⟩), .int .i64 fr, .int .i64 k] rfl rfl K1.out (by rw [size_pair]; rfl) rfl (by simp [Value.oneCell']) ?_))
  refine bodyPost_ret (v := .tuple #[.agg (#[.pointer (some ⟨D, 0, none⟩), .int .i64 fr, .int .i64 k]), .int .i64 0]) (results_cell_tmp rfl _ _ z rfl (.int .i64 0) rfl K2.out Try.underlying50 rfl (by rw [size_pair]; rfl)) rfl ⟨rfl, KB.out⟩
set_option maxRecDepth 100000 in
theorem g_pairOf_no {w : World} {base D S M kk : Nat} {E : DataW Unit} {V : Nat → Value} {q : Option (Nat × Int)} {d : DiskM} (h : DkW w base D S M kk E V q d) (hb : d.sec.length ≤ 4096) (fr k : Int) (hm : ¬ mayS d fr k) :
    Calls Try.prog 17 #[ptD D, .int .i64 fr, .int .i64 k] w fun e w' => e = .returned (.tuple #[.agg #[.pointer none, .int .i64 0, .int .i64 0], .int .i64 1]) ∧ Below w.heap.size w w' := by
  obtain ⟨w1, hw1⟩ : ∃ w1, w.alloc (.cells #[.pointer none, .int .i64 0, .int .i64 0] 50) = w1 := ⟨_, rfl⟩
  have hb1 : Below w.heap.size w w1 := by rw [← hw1]; exact (Below.refl w.heap.size w).alloc (Nat.le_refl _) _
  have k1 : Blk w1 w.heap.size 50 [.pointer none, .int .i64 0, .int .i64 0] := by rw [← hw1]; exact Blk.new w _ _
  unfold mayS at hm
  have HS := Lib.hid (d_Sectors (h.below hb1))
  have K1 := Lib.hid k1
  have K2 := Lib.hid (k1.row [.pointer none, .int .i64 0, .int .i64 0] rfl)
  have KB := Lib.hid (below_setRow hb1 (b := w.heap.size) (Nat.le_refl _) #[.pointer none, .int .i64 0, .int .i64 0])
  have g1 : (d.sec.length : Int) ≤ 4096 := by omega
  have g2 : (0 : Int) ≤ (d.sec.length : Int) := by omega
  unfold ptD at HS ⊢
  clear h hb hb1 k1
  generalize (d.sec.length : Int) = n at *
  obtain ⟨z, hz⟩ : ∃ z, w.heap.size = z := ⟨_, rfl⟩
  rw [hz] at K1 K2 KB ⊢
  by_cases d1 : k < 1
  · clear hm
    go_enter Try.func17, Try.ntmps17
    go_wp2_with (refine wpList_store_blk rfl 50 _ _ rfl z [.pointer none, .int .i64 0, .int .i64 0] rfl rfl K1.out (by rw [size_pair]; rfl) rfl (by simp [Value.oneCell']) ?_)
    refine bodyPost_ret (v := .tuple #[.agg #[.pointer none, .int .i64 0, .int .i64 0], .int .i64 1]) (results_cell_tmp rfl _ _ z rfl (.int .i64 1) rfl K2.out Try.underlying50 rfl (by rw [size_pair]; rfl)) rfl ⟨rfl, KB.out⟩
  by_cases d2 : 100 < k
  · clear hm
    go_enter Try.func17, Try.ntmps17
    go_wp2_with (refine wpList_store_blk rfl 50 _ _ rfl z [.pointer none, .int .i64 0, .int .i64 0] rfl rfl K1.out (by rw [size_pair]; rfl) rfl (by simp [Value.oneCell']) ?_)
    refine bodyPost_ret (v := .tuple #[.agg #[.pointer none, .int .i64 0, .int .i64 0], .int .i64 1]) (results_cell_tmp rfl _ _ z rfl (.int .i64 1) rfl K2.out Try.underlying50 rfl (by rw [size_pair]; rfl)) rfl ⟨rfl, KB.out⟩
  by_cases d3 : fr < 0
  · clear hm
    go_enter Try.func17, Try.ntmps17
    go_wp2_with (refine wpList_store_blk rfl 50 _ _ rfl z [.pointer none, .int .i64 0, .int .i64 0] rfl rfl K1.out (by rw [size_pair]; rfl) rfl (by simp [Value.oneCell']) ?_)
    refine bodyPost_ret (v := .tuple #[.agg #[.pointer none, .int .i64 0, .int .i64 0], .int .i64 1]) (results_cell_tmp rfl _ _ z rfl (.int .i64 1) rfl K2.out Try.underlying50 rfl (by rw [size_pair]; rfl)) rfl ⟨rfl, KB.out⟩
  · have d4 : n - 2 * k < fr := by omega
    clear hm
    go_enter Try.func17, Try.ntmps17
    go_wp2_with (first | (go_at_call 29; (with_reducible refine HS.out.mono ?_); rintro e w2 ⟨rfl, rfl⟩) | (refine wpList_store_blk rfl 50 _ _ rfl z [.pointer none, .int .i64 0, .int .i64 0] rfl rfl K1.out (by rw [size_pair]; rfl) rfl (by simp [Value.oneCell']) ?_))
    refine bodyPost_ret (v := .tuple #[.agg #[.pointer none, .int .i64 0, .int .i64 0], .int .i64 1]) (results_cell_tmp rfl _ _ z rfl (.int .i64 1) rfl K2.out Try.underlying50 rfl (by rw [size_pair]; rfl)) rfl ⟨rfl, KB.out⟩
end Go.Proofs.Ytccplgicfbfjiaa
