/- Walk of varint's Fixed. -/
import Derived.Test.YtkpabnpdpjcmdaaVBig
namespace Go.Proofs.Ytkpabnpdpjcmdaa
open Go.RowKit Go.Shelf
set_option linter.unusedVariables false

theorem fix_step (F b : Nat) (hF : F < 72057594037927936) (hb : b < 256) : bits .or .u64 ((F : Int) * 256) (b : Int) = ((F * 256 + b : Nat) : Int) := by
  have e : (F : Int) * 256 = ((F * 256 : Nat) : Int) := by omega
  rw [e, or_u64 _ _ (by omega) (by omega), Nat.or_comm, Nat.add_comm]
  exact congrArg _ (or_add b F 8 hb)
theorem fix_small {l : List Nat} (h : Bys l) (j : Nat) (hj : j < 8) : fixN l j < 72057594037927936 := by
  have h1 := fix_lt h j
  have h2 : (2 : Nat) ^ (8 * j) ≤ 2 ^ 56 := Nat.pow_le_pow_right (by decide) (by omega)
  have h3 : (2 : Nat) ^ 56 = 72057594037927936 := by decide
  omega
set_option maxRecDepth 100000 in
set_option maxHeartbeats 1000000 in
theorem v_Fixed (s : ByteArray) (k : Nat) (w : World) (h1 : 1 ≤ k) (h2 : k ≤ 8) (hs : s.size ≤ 65536) (n er : Nat) (r : ByteArray)
    (hw : (k ≤ s.size ∧ fixN (sl s) k = n ∧ s.extract k s.size = r ∧ er = 0) ∨ (s.size < k ∧ n = 0 ∧ r = ⟨#[]⟩ ∧ er = 40)) :
    Calls Try.prog 13 #[.string s, .int .i64 (k : Int)] w fun e w' => e = .returned (.tuple #[.int .u64 (n : Int), .string r, .int .i64 (er : Int)]) ∧ Below w.heap.size w w' := by
  have hW := fun w => v_width_yes k w h1 h2
  have HWd := Lib.hid hW
  have HW := Lib.hid hw
  have HSB := Lib.hid (sl_bys s)
  have k8 : (k : Int) ≤ 8 := by omega
  have k1 : (1 : Int) ≤ (k : Int) := by omega
  clear hW hw
  go_enter Try.func13, Try.ntmps13
  go_wp2_with (first | (go_at_call 22; (with_reducible refine (HWd.out _).mono ?_); rintro e w1 ⟨rfl, rfl⟩) | (go_at_call 21; (with_reducible refine (v_reader _ _).mono ?_); rintro e w9 ⟨rfl, rfl⟩))
  have K0 : Blk ((w.alloc (.cells #[.string s] 9)).alloc (.cells #[.int .i64 0] 3)) w.heap.size 9 [.string s] := (Blk.new' w 9 [.string s] rfl).alloc _
  have K1 : Blk ((w.alloc (.cells #[.string s] 9)).alloc (.cells #[.int .i64 0] 3)) (w.heap.size + 1) 3 [.int .i64 ((0 : Nat) : Int)] := Blk.new2 w _ 3 [.int .i64 0] rfl
  have Kb : Below w.heap.size w ((w.alloc (.cells #[.string s] 9)).alloc (.cells #[.int .i64 0] 3)) := ((Below.refl _ _).alloc (Nat.le_refl _) _).alloc (by simp) _
  generalize World.alloc (World.alloc w _) _ = w4 at *
  go_loopw [8, 17] (fun u i wr => ∃ j : Nat, j ≤ k ∧ j ≤ s.size ∧ i = .int .i64 (j : Int) ∧ u = .int .u64 ((fixN (sl s) j : Nat) : Int) ∧ Blk wr w.heap.size 9 [.string s] ∧ Blk wr (w.heap.size + 1) 3 [.int .i64 (j : Int)] ∧ Below w.heap.size w wr) (fun _ i _ => 8 - (intOf i).toNat)
  case atStart => exact ⟨0, by omega, by omega, rfl, rfl, K0, K1, Kb⟩
  case round =>
    obtain ⟨j, hj, hjs, rfl, rfl, g0, g1, gb⟩ := hrel
    clear K0 K1 Kb
    by_cases hlt : j < k
    · have d1 : (j : Int) < (k : Int) := by omega
      by_cases hjl : j = s.size
      · obtain ⟨q1, rfl, rfl, rfl⟩ : s.size < k ∧ n = 0 ∧ r = ⟨#[]⟩ ∧ er = 40 := by
          rcases HW.out with ⟨q, _⟩ | q
          · omega
          · exact q
        have HJL := Lib.hid hjl
        clear hjl
        go_wp2_with (go_at_call 24; (with_reducible refine (v_rd_none _ _ _ _ _ g1 g0 HJL.out).mono ?_); rintro e w9 ⟨rfl, rfl⟩)
        go_ret3
        exact ⟨rfl, gb⟩
      · have hst := fix_step (fixN (sl s) j) ((sl s).getD j 0) (fix_small HSB.out j (by omega)) (HSB.out j)
        have hfs := fix_small HSB.out j (by omega)
        have hbb := HSB.out j
        rw [show fixN (sl s) j * 256 + (sl s).getD j 0 = fixN (sl s) (j + 1) from rfl] at hst
        have g1' := g1.set 0 (.int .i64 ((j : Int) + 1))
        have g0' := g0.other (a := ⟨w.heap.size + 1, 0, none⟩) (show w.heap.size + 1 ≠ w.heap.size by omega) (.int .i64 ((j : Int) + 1))
        have gb' := gb.setCell (p := ⟨w.heap.size + 1, 0, none⟩) (show w.heap.size ≤ w.heap.size + 1 by omega) (.int .i64 ((j : Int) + 1))
        have hC := v_rd_some _ _ _ s wr g1 g0 (by omega) (by omega) (by omega)
        have HC := Lib.hid hC
        clear hC
        generalize hF1 : fixN (sl s) (j + 1) = F1 at *
        have HF1 := Lib.hid hF1
        clear hF1
        generalize fixN (sl s) j = F0 at *
        generalize (sl s).getD j 0 = b at *
        go_wp2_with (go_at_call 24; (with_reducible refine HC.out.mono ?_); rintro e w9 ⟨rfl, rfl⟩)
        go_roundw
        case rel => exact ⟨j + 1, by omega, by omega, by go_num, by rw [HF1.out], g0', g1', gb'⟩
        case measure => simp [intOf]; omega
    · obtain rfl : j = k := by omega
      obtain ⟨q1, rfl, rfl, rfl⟩ : j ≤ s.size ∧ fixN (sl s) j = n ∧ s.extract j s.size = r ∧ er = 0 := by
        rcases HW.out with q | ⟨q, _⟩
        · exact q
        · omega
      have d3 : (j : Int) ≤ (s.size : Int) := by omega
      clear HW
      go_wp2
      refine region_drew_tail 6 mixed (by kernel_rfl) ?_
      simp only [List.take_succ_cons, List.take_zero, List.drop_succ_cons, List.drop_zero]
      repeat (first | go_big_quiet_step (fail) | quiet_step (fail))
      refine wpQuiet_nil ?_
      rintro _ ⟨nq, rfl⟩
      go_wp2
      go_ret3
      exact ⟨rfl, below_drewN gb nq⟩
end Go.Proofs.Ytkpabnpdpjcmdaa
