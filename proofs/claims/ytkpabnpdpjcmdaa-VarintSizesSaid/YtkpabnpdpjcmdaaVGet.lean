/- Walk of varint's Get. -/
import Derived.Test.YtkpabnpdpjcmdaaVPutW
import Derived.IntWalk
namespace Go.Proofs.Ytkpabnpdpjcmdaa
open Go.RowKit Go.Shelf
set_option linter.unusedVariables false

theorem acc_step (l : List Nat) (i : Nat) : bits .or .u64 ((accN l i : Nat) : Int) (IntKind.u64.wrap (((l.getD i 0 : Nat) : Int) % 128 * 2 ^ (7 * i))) = ((accN l (i + 1) : Nat) : Int) := by
  have h1 := accN_lt l i
  have h2 : l.getD i 0 % 128 * 2 ^ (7 * i) % 18446744073709551616 < 18446744073709551616 := Nat.mod_lt _ (by decide)
  have e : IntKind.u64.wrap (((l.getD i 0 : Nat) : Int) % 128 * 2 ^ (7 * i)) = ((l.getD i 0 % 128 * 2 ^ (7 * i) % 18446744073709551616 : Nat) : Int) := by rw [IntKind.wrap_u64]; simp
  rw [e, or_u64 _ _ h1 h2]
  rfl
theorem tx_nil : tx [] = ⟨#[]⟩ := rfl
set_option maxRecDepth 100000 in
set_option maxHeartbeats 1000000 in
theorem v_Get (s : ByteArray) (w : World) (hs : s.size ≤ 65536) (n k er : Nat) (r : ByteArray) (hg : getL (sl s) = (n, k, er)) (hr : tx ((sl s).drop k) = r) :
    Calls Try.prog 9 #[.string s] w fun e w' => e = .returned (.tuple #[.int .u64 (n : Int), .string r, .int .i64 (er : Int)]) ∧ Below w.heap.size w w' := by
  have HG := Lib.hid hg
  have HR := Lib.hid hr
  clear hg hr
  have hsl := sl_len s
  have hsb := sl_bys s
  have HSL := Lib.hid hsl
  have HSB := Lib.hid hsb
  clear hsl hsb
  go_enter Try.func9, Try.ntmps9
  go_wp2_with (go_at_call 21; (with_reducible refine (v_reader _ _).mono ?_); rintro e w9 ⟨rfl, rfl⟩)
  have K0 : Blk ((w.alloc (.cells #[.string s] 9)).alloc (.cells #[.int .i64 0] 3)) w.heap.size 9 [.string s] := (Blk.new' w 9 [.string s] rfl).alloc _
  have K1 : Blk ((w.alloc (.cells #[.string s] 9)).alloc (.cells #[.int .i64 0] 3)) (w.heap.size + 1) 3 [.int .i64 ((0 : Nat) : Int)] := Blk.new2 w _ 3 [.int .i64 0] rfl
  have Kb : Below w.heap.size w ((w.alloc (.cells #[.string s] 9)).alloc (.cells #[.int .i64 0] 3)) := ((Below.refl _ _).alloc (Nat.le_refl _) _).alloc (by simp) _
  generalize World.alloc (World.alloc w _) _ = w4 at *
  go_loopw [6, 12] (fun u i wr => ∃ j : Nat, j ≤ 10 ∧ j ≤ s.size ∧ i = .int .i64 (j : Int) ∧ u = .int .u64 ((accN (sl s) j : Nat) : Int) ∧ getL (sl s) = getR (sl s) (10 - j) j ∧ Blk wr w.heap.size 9 [.string s] ∧ Blk wr (w.heap.size + 1) 3 [.int .i64 (j : Int)] ∧ Below w.heap.size w wr) (fun _ i _ => 10 - (intOf i).toNat)
  case atStart => exact ⟨0, by omega, by omega, rfl, rfl, rfl, K0, K1, Kb⟩
  case round =>
    obtain ⟨j, hj, hjs, rfl, rfl, hgl, g0, g1, gb⟩ := hrel
    clear K0 K1 Kb
    have HGL := Lib.hid hgl
    clear hgl
    by_cases h10 : j < 10
    · have d10 : (j : Int) < 10 := by omega
      by_cases hjl : j = s.size
      · have hE : (0, s.size, 40) = (n, k, er) := by
          rw [← HG.out, HGL.out, show 10 - j = (10 - j - 1) + 1 by omega, get_short _ _ _ (by rw [HSL.out]; omega), HSL.out]
        have hR : r = ⟨#[]⟩ := by
          rw [← HR.out, ← tx_nil, show k = s.size by simpa using (congrArg (fun x => x.2.1) hE).symm, List.drop_eq_nil_of_le (by rw [HSL.out]; exact Nat.le_refl _)]
        obtain ⟨rfl, rfl, rfl⟩ : n = 0 ∧ k = s.size ∧ er = 40 := by simpa [eq_comm] using hE
        subst hR
        clear hE
        have HJL := Lib.hid hjl
        clear hjl
        go_wp2_with (go_at_call 24; (with_reducible refine (v_rd_none _ _ _ _ _ g1 g0 HJL.out).mono ?_); rintro e w9 ⟨rfl, rfl⟩)
        go_ret3
        exact ⟨rfl, gb⟩
      · have hlt : j < s.size := by omega
        have hacc := acc_step (sl s) j
        have hbb := HSB.out j
        have han := andNot_u8 _ hbb
        have i1 : (7 * (j : Int)).toNat = 7 * j := by omega
        have i2 : (0 : Int) ≤ 7 * (j : Int) := by omega
        have i3 : 7 * (j : Int) < 100 := by omega
        have g1' := g1.set 0 (.int .i64 ((j : Int) + 1))
        have g0' := g0.other (a := ⟨w.heap.size + 1, 0, none⟩) (show w.heap.size + 1 ≠ w.heap.size by omega) (.int .i64 ((j : Int) + 1))
        have gb' := gb.setCell (p := ⟨w.heap.size + 1, 0, none⟩) (show w.heap.size ≤ w.heap.size + 1 by omega) (.int .i64 ((j : Int) + 1))
        have HACC := Lib.hid hacc
        have hC := v_rd_some _ _ _ s wr g1 g0 (by omega) hlt (by omega)
        have HC := Lib.hid hC
        clear hacc hC
        generalize hbe : (sl s).getD j 0 = b at *
        have HB := Lib.hid hbe
        clear hbe
        by_cases h128 : b < 128
        · have d1 : decide ((128 : Int) ≤ (b : Int)) = false := by simp; omega
          have hP : ∀ wx, Calls Try.prog 15 #[.int .u64 ((accN (sl s) (j + 1) : Nat) : Int)] wx fun e w' => e = .returned (.string (tx (putL (accN (sl s) (j + 1))))) ∧ Below wx.heap.size wx w' := fun wx => v_Put _ wx (accN_lt _ _)
          have HP := Lib.hid hP
          clear hP
          have HACC' := HACC.out
          have hw : (putL (accN (sl s) (j + 1)) = (sl s).take (j + 1) ∧ ((tx (putL (accN (sl s) (j + 1)))).toList == (s.extract 0 (j + 1)).toList) = true ∧ accN (sl s) (j + 1) = n ∧ er = 0 ∧ r = s.extract (j + 1) s.size) ∨
              (((tx (putL (accN (sl s) (j + 1)))).toList == (s.extract 0 (j + 1)).toList) = false ∧ n = 0 ∧ er = 41 ∧ r = ⟨#[]⟩) := by
            by_cases hP : putL (accN (sl s) (j + 1)) = (sl s).take (j + 1)
            · have hE : (accN (sl s) (j + 1), j + 1, 0) = (n, k, er) := by
                rw [← HG.out, HGL.out, show 10 - j = (10 - (j + 1)) + 1 by omega, get_last _ _ _ (by rw [HSL.out]; exact hlt) (by rw [HB.out]; exact h128) hP]
              obtain ⟨q1, q2, q3⟩ : n = accN (sl s) (j + 1) ∧ k = j + 1 ∧ er = 0 := by simpa [eq_comm] using hE
              exact .inl ⟨hP, txt_eq (by rw [hP, head_tx]), q1.symm, q3, by rw [← HR.out, q2, tail_tx]⟩
            · have hE : (0, s.size, 41) = (n, k, er) := by
                rw [← HG.out, HGL.out, show 10 - j = (10 - (j + 1)) + 1 by omega, get_long _ _ _ (by rw [HSL.out]; exact hlt) (by rw [HB.out]; exact h128) hP, HSL.out]
              obtain ⟨q1, q2, q3⟩ : n = 0 ∧ k = s.size ∧ er = 41 := by simpa [eq_comm] using hE
              refine .inr ⟨txt_ne (fun e => hP (tx_inj (put_bys (accN_lt _ _)) ((HSB.out).take _) (e.trans (head_tx _ _)))), q1, q3, ?_⟩
              rw [← HR.out, ← tx_nil, q2, List.drop_eq_nil_of_le (by rw [HSL.out]; exact Nat.le_refl _)]
          clear HG HR HGL
          generalize accN (sl s) (j + 1) = a1 at *
          generalize accN (sl s) j = a0 at *
          generalize putL a1 = p1 at *
          generalize tx p1 = t1 at *
          have e1 : IntKind.i64.wrap ((j : Int) + 1) = (j : Int) + 1 := IntWalk.i64_in _ (by omega)
          have e2 : ((j : Int) + 1).toNat = j + 1 := by omega
          have e3 : (0 : Int) ≤ (j : Int) + 1 := by omega
          have e4 : (j : Int) + 1 ≤ (s.size : Int) := by omega
          rcases hw with ⟨_, hx, rfl, rfl, rfl⟩ | ⟨hx, rfl, rfl, rfl⟩
          all_goals
            go_wp2_with (go_at_call 24; (with_reducible refine HC.out.mono ?_); rintro e w9 ⟨rfl, rfl⟩)
            generalize World.setCell wr _ _ = w5 at *
            have hP5 : ∀ wx, NewBut w5 wx → Calls Try.prog 15 #[.int .u64 ((a1 : Nat) : Int)] wx fun e w' => e = .returned (.string t1) ∧ NewBut w5 w' := fun wx h => (HP.out wx).mono fun _ _ ⟨q1, q2⟩ => ⟨q1, h.trans (q2.mono h.size)⟩
            have HP5 := Lib.hid hP5
            clear hP5
            refine region_quiet_tail (C := NewBut w5) 6 mixed (by kernel_rfl) (show Below _ _ _ from (Below.refl _ _).drew) ?_
            simp only [List.take_succ_cons, List.take_zero, List.drop_succ_cons, List.drop_zero]
            repeat (refine wpQuiet_step (fun K' hK' => ?_); go_simp; first | (refine ⟨_, fun _ _ => rfl, hK' _ ?_⟩; clear hK' K') | ((with_reducible refine ⟨_, fun wx hx => HP5.out wx hx, hK' _ ?_⟩); clear hK' K'))
            refine wpQuiet_nil ?_
            intro w6 hb6
            go_wp2
          · refine region_drew_tail 7 mixed (by kernel_rfl) ?_
            simp only [List.take_succ_cons, List.take_zero, List.drop_succ_cons, List.drop_zero]
            repeat (first | go_big_quiet_step (fail) | quiet_step (fail))
            refine wpQuiet_nil ?_
            rintro _ ⟨nq, rfl⟩
            go_wp2
            go_ret3
            exact ⟨rfl, below_drewN (gb'.trans (hb6.mono gb'.size)) nq⟩
          · go_ret3
            exact ⟨rfl, gb'.trans (hb6.mono gb'.size)⟩
        · have d1 : decide ((128 : Int) ≤ (b : Int)) = true := by simp; omega
          go_wp2_with (go_at_call 24; (with_reducible refine HC.out.mono ?_); rintro e w9 ⟨rfl, rfl⟩)
          go_roundw
          case rel => exact ⟨j + 1, by omega, by omega, by go_num, by rw [HACC.out], by rw [HGL.out, show 10 - j = (10 - (j + 1)) + 1 by omega, get_more _ _ _ (by rw [HSL.out]; exact hlt) (by rw [HB.out]; omega)], g0', g1', gb'⟩
          case measure => simp [intOf]; omega
    · obtain rfl : j = 10 := by omega
      have hE : (0, s.size, 41) = (n, k, er) := by
        rw [← HG.out, HGL.out, Nat.sub_self, get_zero, HSL.out]
      obtain ⟨q1, q2, q3⟩ : n = 0 ∧ k = s.size ∧ er = 41 := by simpa [eq_comm] using hE
      have hR : r = ⟨#[]⟩ := by rw [← HR.out, ← tx_nil, q2, List.drop_eq_nil_of_le (by rw [HSL.out]; exact Nat.le_refl _)]
      subst hR q1 q3
      clear hE
      go_wp2
      go_ret3
      exact ⟨rfl, gb⟩
end Go.Proofs.Ytkpabnpdpjcmdaa
