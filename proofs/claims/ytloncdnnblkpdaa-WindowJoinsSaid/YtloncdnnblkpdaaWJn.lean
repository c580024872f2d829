/- Walks of put, each and Join. -/
import Derived.Test.YtloncdnnblkpdaaWJoi
import Derived.Test.YtloncdnnblkpdaaWShown
namespace Go.Proofs.Ytloncdnnblkpdaa
open Go.RowKit
set_option linter.unusedVariables false

theorem rowT_arr0 (n b : Int) : (rowT (0, n, b)).toArray = #[.int .u8 0, .int .i64 n, .int .i64 b] := rfl
/-- what a token does: the error, and the bytes -/
def stepW (most : Int) (t : Nat × Int × Int) (b : List Nat) : Nat × List Nat :=
  if t.2.1 = 0 then (if t.2.2 ≠ 0 then (1, b) else if most < ((b.length + 1 : Nat) : Int) then (90, b ++ [t.1]) else (0, b ++ [t.1]))
  else if t.2.1 < 3 ∨ 34 < t.2.1 ∨ t.2.2 < 1 ∨ 512 < t.2.2 ∨ t.1 ≠ 0 then (1, b)
  else if (b.length : Int) < t.2.2 then (80, b)
  else if most < ((b.length + t.2.1.toNat : Nat) : Int) then (90, copyW t.2.2.toNat t.2.1.toNat b)
  else (0, copyW t.2.2.toNat t.2.1.toNat b)
theorem join_cons (most : Int) (t : Nat × Int × Int) (l : List (Nat × Int × Int)) (b : List Nat) : joinW most (t :: l) b = if (stepW most t b).1 = 0 then joinW most l (stepW most t b).2 else ([], (stepW most t b).1) := by
  obtain ⟨c, n, k⟩ := t
  unfold stepW
  rw [joinW]
  simp only
  split
  · split
    · rfl
    · split
      · rfl
      · rfl
  · split
    · rfl
    · split
      · rfl
      · split
        · rfl
        · rfl
theorem step_len (most : Int) (t : Nat × Int × Int) (b : List Nat) : (stepW most t b).2.length ≤ b.length + 34 := by
  obtain ⟨c, n, k⟩ := t
  unfold stepW
  simp only
  split
  · split
    · show b.length ≤ _; omega
    · split <;> (show (b ++ [c]).length ≤ _; rw [List.length_append, List.length_singleton]; omega)
  · split
    · show b.length ≤ _; omega
    · rename_i h
      have h34 : n ≤ 34 := by omega
      split
      · show b.length ≤ _; omega
      · split <;> (show (copyW _ _ b).length ≤ _; rw [copyW_len]; omega)
/-- what put hands back -/
def PutRet (w : World) (B J : Nat) (most : Int) (v : Value) (er : Nat) (b' : List Nat) (e : Ending) (w' : World) : Prop := e = .returned (.int .i64 (er : Int)) ∧ (er = 0 → ∃ v', JW w' B J most v' b') ∧ Below B w w'
set_option maxRecDepth 100000 in
set_option maxHeartbeats 2000000 in
theorem j_put {w : World} {B J : Nat} {most : Int} {v : Value} {b : List Nat} (h : JW w B J most v b) (t : Nat × Int × Int) (hl : b.length ≤ 900000) (er : Nat) (b' : List Nat) (hst : stepW most t b = (er, b')) :
    Calls Try.prog 23 #[.pointer (some ⟨J, 0, none⟩), .agg #[.int .u8 (t.1 : Int), .int .i64 t.2.1, .int .i64 t.2.2]] w (PutRet w B J most v er b') := by
  obtain ⟨c, n, k⟩ := t
  simp only
  have hJl := h.blk.lt
  have hBw : B ≤ w.heap.size := by have := h.hJ; omega
  have hX := Blk.new' w 42 (c := #[.int .u8 (c : Int), .int .i64 n, .int .i64 k]) (rowT (c, n, k)) rfl
  have hb1 := (Below.refl w.heap.size w).alloc (Nat.le_refl _) (.cells #[.int .u8 (c : Int), .int .i64 n, .int .i64 k] 42)
  have h1 := h.below hb1
  have q1 := hX.cell 1
  simp only [rowT, List.getElem?_cons_zero, List.getElem?_cons_succ] at q1
  have hmf := mkf
  obtain ⟨w1, hw1⟩ : ∃ w1, w.alloc (.cells #[.int .u8 (c : Int), .int .i64 n, .int .i64 k] 42) = w1 := ⟨_, rfl⟩
  rw [hw1] at hX hb1 h1 q1
  have HW1 := Lib.hid hw1
  have HX := Lib.hid hX
  have HB1 := Lib.hid (hb1.mono hBw)
  have H1 := Lib.hid h1
  have HST := Lib.hid hst
  clear hX hw1 hb1 h1 h hst
  by_cases hn : n = 0
  · subst hn
    by_cases hk : k = 0
    · subst hk
      have hP := j_putByte H1.out c (by omega)
      have HP := Lib.hid hP
      clear hP
      by_cases hmost : most < ((b.length + 1 : Nat) : Int)
      · have hst := HST.out
        rw [show stepW most (c, 0, 0) b = (if most < ((b.length + 1 : Nat) : Int) then (90, b ++ [c]) else (0, b ++ [c])) from rfl, if_pos hmost] at hst
        cases hst
        have D1 := Lib.hid (decide_eq_true hmost)
        clear hmost
        go_enter Try.func23, Try.ntmps23
        go_wp2_with (first | (rw [HW1.out]; refine wpList_load_blk rfl 42 _ rfl w.heap.size rfl HX.out Try.underlying42 rfl size_tk ?_; first | rw [rowT_arr0] | rw [rowT_arr]))
        (with_reducible refine HP.out.mono ?_)
        rintro e w2 ⟨rfl, v2, hJ2, hA2⟩
        obtain ⟨pa, cap, hv⟩ := hJ2.own.isSlice
        rw [rowsB_len, List.length_append, List.length_singleton] at hv
        have c0 := hJ2.blk.cell 0
        have c1 := hJ2.blk.cell 1
        simp only [List.getElem?_cons_zero, List.getElem?_cons_succ] at c0 c1
        rw [hv] at c0
        have d1 := D1.out
        have HB2 := Lib.hid (HB1.out.trans hA2.below)
        clear hJ2 hA2 hv
        obtain ⟨N, hN⟩ : ∃ N, b.length + 1 = N := ⟨_, rfl⟩
        rw [hN] at c0 d1
        clear hN
        go_wp2_with fail
        go_quiet (fail)
        go_wp2
        go_ret
        exact ⟨rfl, (fun h => by cases h), below_drewN HB2.out _⟩
      · have hst := HST.out
        rw [show stepW most (c, 0, 0) b = (if most < ((b.length + 1 : Nat) : Int) then (90, b ++ [c]) else (0, b ++ [c])) from rfl, if_neg hmost] at hst
        cases hst
        have D1 := Lib.hid (decide_eq_false hmost)
        clear hmost
        go_enter Try.func23, Try.ntmps23
        go_wp2_with (first | (rw [HW1.out]; refine wpList_load_blk rfl 42 _ rfl w.heap.size rfl HX.out Try.underlying42 rfl size_tk ?_; first | rw [rowT_arr0] | rw [rowT_arr]))
        (with_reducible refine HP.out.mono ?_)
        rintro e w2 ⟨rfl, v2, hJ2, hA2⟩
        obtain ⟨pa, cap, hv⟩ := hJ2.own.isSlice
        rw [rowsB_len, List.length_append, List.length_singleton] at hv
        have c0 := hJ2.blk.cell 0
        have c1 := hJ2.blk.cell 1
        simp only [List.getElem?_cons_zero, List.getElem?_cons_succ] at c0 c1
        rw [hv] at c0
        have d1 := D1.out
        have HB2 := Lib.hid (HB1.out.trans hA2.below)
        have HJ2 := Lib.hid hJ2
        clear hJ2 hA2 hv
        obtain ⟨N, hN⟩ : ∃ N, b.length + 1 = N := ⟨_, rfl⟩
        rw [hN] at c0 d1
        clear hN
        go_wp2_with fail
        go_quiet (fail)
        go_wp2
        go_ret
        exact ⟨rfl, (fun _ => ⟨_, HJ2.out.below (below_drewN (Below.refl _ _) _)⟩), below_drewN HB2.out _⟩
    · have hst := HST.out
      rw [show stepW most (c, 0, k) b = (1, b) by unfold stepW; rw [if_pos rfl, if_pos hk]] at hst
      cases hst
      have hP := j_putByte_no (w := w1) J c k hk
      have HP := Lib.hid hP
      clear hP
      go_enter Try.func23, Try.ntmps23
      go_wp2_with (first | (rw [HW1.out]; refine wpList_load_blk rfl 42 _ rfl w.heap.size rfl HX.out Try.underlying42 rfl size_tk ?_; first | rw [rowT_arr0] | rw [rowT_arr]))
      (with_reducible refine HP.out.mono ?_)
      rintro e w2 ⟨rfl, hb2⟩
      have HB2 := Lib.hid (HB1.out.trans (hb2.mono HB1.out.size |>.mono (by first | exact Nat.le_refl _ | exact Nat.le_trans hBw HB1.out.size | omega)))
      clear hb2
      go_wp2
      go_ret
      exact ⟨rfl, (fun h => by cases h), HB2.out⟩
  · have e0 : (n == 0) = false := by rw [beq_eq_false_iff_ne]; exact hn
    by_cases hbad : n < 3 ∨ 34 < n ∨ k < 1 ∨ 512 < k ∨ c ≠ 0
    · have hst := HST.out
      rw [show stepW most (c, n, k) b = (1, b) by unfold stepW; rw [if_neg hn, if_pos hbad]] at hst
      cases hst
      have hP := j_putMatch_no (w := w1) J (c, n, k) (by unfold badT; simp only; omega)
      have HP := Lib.hid hP
      clear hP hbad hn
      go_enter Try.func23, Try.ntmps23
      go_wp2_with (first | (rw [HW1.out]; refine wpList_load_blk rfl 42 _ rfl w.heap.size rfl HX.out Try.underlying42 rfl size_tk ?_; first | rw [rowT_arr0] | rw [rowT_arr]))
      (with_reducible refine HP.out.mono ?_)
      rintro e w2 ⟨rfl, hb2⟩
      have HB2 := Lib.hid (HB1.out.trans (hb2.mono HB1.out.size |>.mono (by first | exact Nat.le_refl _ | exact Nat.le_trans hBw HB1.out.size | omega)))
      clear hb2
      go_wp2
      go_ret
      exact ⟨rfl, (fun h => by cases h), HB2.out⟩
    · obtain ⟨m, rfl⟩ : ∃ m : Nat, n = (m : Int) := ⟨n.toNat, by omega⟩
      obtain ⟨q, rfl⟩ : ∃ q : Nat, k = (q : Int) := ⟨k.toNat, by omega⟩
      obtain rfl : c = 0 := by omega
      have HW1 : Hid (w.alloc (.cells #[.int .u8 0, .int .i64 (m : Int), .int .i64 (q : Int)] 42) = w1) := HW1
      by_cases hs : b.length < q
      · have hst := HST.out
        rw [show stepW most (0, (m : Int), (q : Int)) b = (80, b) by unfold stepW; rw [if_neg hn, if_neg hbad, if_pos (show (b.length : Int) < (q : Int) by omega)]] at hst
        cases hst
        have hP := j_putMatch_short H1.out (m : Int) q (by omega) (by omega) hs
        have HP := Lib.hid hP
        clear hP hbad hn hs
        go_enter Try.func23, Try.ntmps23
        go_wp2_with (first | (rw [HW1.out]; refine wpList_load_blk rfl 42 _ rfl w.heap.size rfl HX.out Try.underlying42 rfl size_tk ?_; first | rw [rowT_arr0] | rw [rowT_arr]))
        (with_reducible refine HP.out.mono ?_)
        rintro e w2 ⟨rfl, hb2⟩
        have HB2 := Lib.hid (HB1.out.trans (hb2.mono HB1.out.size |>.mono (by first | exact Nat.le_refl _ | exact Nat.le_trans hBw HB1.out.size | omega)))
        clear hb2
        go_wp2
        go_ret
        exact ⟨rfl, (fun h => by cases h), HB2.out⟩
      · have hsw : stepW most (0, (m : Int), (q : Int)) b = (if most < ((b.length + m : Nat) : Int) then (90, copyW q m b) else (0, copyW q m b)) := by
          unfold stepW
          rw [if_neg hn, if_neg hbad, if_neg (show ¬ (b.length : Int) < (q : Int) by omega)]
          simp only [Int.toNat_natCast]
        have hP := j_putMatch H1.out m q (by omega) (by omega) (by omega) (by omega)
        have HP := Lib.hid hP
        clear hP
        by_cases hmost : most < ((b.length + m : Nat) : Int)
        · have hst := HST.out
          rw [hsw, if_pos hmost] at hst
          cases hst
          clear hsw hbad hn hs
          have D1 := Lib.hid (decide_eq_true hmost)
          clear hmost
          go_enter Try.func23, Try.ntmps23
          go_wp2_with (first | (rw [HW1.out]; refine wpList_load_blk rfl 42 _ rfl w.heap.size rfl HX.out Try.underlying42 rfl size_tk ?_; first | rw [rowT_arr0] | rw [rowT_arr]))
          (with_reducible refine HP.out.mono ?_)
          rintro e w2 ⟨rfl, v2, hJ2, hA2⟩
          obtain ⟨pa, cap, hv⟩ := hJ2.own.isSlice
          rw [rowsB_len, copyW_len] at hv
          have c0 := hJ2.blk.cell 0
          have c1 := hJ2.blk.cell 1
          simp only [List.getElem?_cons_zero, List.getElem?_cons_succ] at c0 c1
          rw [hv] at c0
          have d1 := D1.out
          have HB2 := Lib.hid (HB1.out.trans hA2.below)
          clear hJ2 hA2 hv
          obtain ⟨N, hN⟩ : ∃ N, b.length + m = N := ⟨_, rfl⟩
          rw [hN] at c0 d1
          clear hN
          go_wp2_with fail
          go_quiet (fail)
          go_wp2
          go_ret
          exact ⟨rfl, (fun h => by cases h), below_drewN HB2.out _⟩
        · have hst := HST.out
          rw [hsw, if_neg hmost] at hst
          cases hst
          clear hsw hbad hn hs
          have D1 := Lib.hid (decide_eq_false hmost)
          clear hmost
          go_enter Try.func23, Try.ntmps23
          go_wp2_with (first | (rw [HW1.out]; refine wpList_load_blk rfl 42 _ rfl w.heap.size rfl HX.out Try.underlying42 rfl size_tk ?_; first | rw [rowT_arr0] | rw [rowT_arr]))
          (with_reducible refine HP.out.mono ?_)
          rintro e w2 ⟨rfl, v2, hJ2, hA2⟩
          obtain ⟨pa, cap, hv⟩ := hJ2.own.isSlice
          rw [rowsB_len, copyW_len] at hv
          have c0 := hJ2.blk.cell 0
          have c1 := hJ2.blk.cell 1
          simp only [List.getElem?_cons_zero, List.getElem?_cons_succ] at c0 c1
          rw [hv] at c0
          have d1 := D1.out
          have HB2 := Lib.hid (HB1.out.trans hA2.below)
          have HJ2 := Lib.hid hJ2
          clear hJ2 hA2 hv
          obtain ⟨N, hN⟩ : ∃ N, b.length + m = N := ⟨_, rfl⟩
          rw [hN] at c0 d1
          clear hN
          go_wp2_with fail
          go_quiet (fail)
          go_wp2
          go_ret
          exact ⟨rfl, (fun _ => ⟨_, HJ2.out.below (below_drewN (Below.refl _ _) _)⟩), below_drewN HB2.out _⟩
end Go.Proofs.Ytloncdnnblkpdaa
