/- Walk of the reference's Get. -/
import Derived.Test.YtkpabnpdpjcmdaaVRPut
namespace Go.Proofs.Ytkpabnpdpjcmdaa
open Go.RowKit Go.Shelf
set_option linter.unusedVariables false

set_option maxRecDepth 100000 in
set_option maxHeartbeats 1000000 in
theorem r_VGet (s : ByteArray) (w : World) (hs : s.size ≤ 65536) (n k er : Nat) (r : ByteArray) (hg : getL (sl s) = (n, k, er)) (hr : tx ((sl s).drop k) = r) :
    Calls Try.prog 10 #[.string s] w fun e w' => e = .returned (.tuple #[.int .u64 (n : Int), .string r, .int .i64 (er : Int)]) ∧ Below w.heap.size w w' := by
  have HG := Lib.hid hg
  have HR := Lib.hid hr
  clear hg hr
  have hsl := sl_len s
  have hsb := sl_bys s
  have HSL := Lib.hid hsl
  have HSB := Lib.hid hsb
  clear hsl hsb
  go_enter Try.func10, Try.ntmps10
  go_wp2
  go_loop [5, 6] (fun u i => ∃ j : Nat, j ≤ 10 ∧ j ≤ s.size ∧ i = .int .i64 (j : Int) ∧ u = .int .u64 ((accN (sl s) j : Nat) : Int) ∧ getL (sl s) = getR (sl s) (10 - j) j) (fun _ i => 10 - (intOf i).toNat)
  case atStart => exact ⟨0, by omega, by omega, rfl, rfl, rfl⟩
  case round =>
    obtain ⟨j, hj, hjs, rfl, rfl, hgl⟩ := hrel
    have HGL := Lib.hid hgl
    clear hgl
    by_cases h10 : j < 10
    · have d10 : (j : Int) < 10 := by omega
      by_cases hjl : j = s.size
      · have hE : (0, s.size, 40) = (n, k, er) := by
          rw [← HG.out, HGL.out, show 10 - j = (10 - j - 1) + 1 by omega, get_short _ _ _ (by rw [HSL.out]; omega), HSL.out]
        have hR : r = ⟨#[]⟩ := by
          rw [← HR.out, ← tx_nil, show k = s.size by simpa using (congrArg (fun x => x.2.1) hE).symm, List.drop_eq_nil_of_le (by rw [HSL.out]; exact Nat.le_refl _)]
        obtain ⟨rfl, rfl, rfl⟩ : n = 0 ∧ k = s.size ∧ er = 40 := by simpa [eq_comm] using hE
        subst hR
        clear hE
        have dj : ¬ j < s.size := by omega
        have dk : decide ((s.size : Nat) ≤ j) = true := by simp; omega
        clear hjl
        go_wp2
        go_ret3
        exact ⟨rfl, Below.refl _ _⟩
      · have hlt : j < s.size := by omega
        have hacc := acc_step (sl s) j
        have hbb := HSB.out j
        have han := andNot_u8 _ hbb
        have i1 : (7 * (j : Int)).toNat = 7 * j := by omega
        have i2 : (0 : Int) ≤ 7 * (j : Int) := by omega
        have i3 : 7 * (j : Int) < 100 := by omega
        have hix := fun w => index_sl s .i64 j hlt w
        have dk : decide ((s.size : Nat) ≤ j) = false := by simp; omega
        have HACC := Lib.hid hacc
        clear hacc
        generalize hbe : (sl s).getD j 0 = b at *
        have HB := Lib.hid hbe
        clear hbe
        by_cases h128 : b < 128
        · have d1 : decide ((128 : Int) ≤ (b : Int)) = false := by simp; omega
          have hP : ∀ wx, Calls Try.prog 16 #[.int .u64 ((accN (sl s) (j + 1) : Nat) : Int)] wx fun e w' => e = .returned (.string (tx (putL (accN (sl s) (j + 1))))) ∧ Below wx.heap.size wx w' := fun wx => r_VPut _ wx (accN_lt _ _)
          have HP := Lib.hid hP
          clear hP
          have HACC' := HACC.out
          have hw : (putL (accN (sl s) (j + 1)) = (sl s).take (j + 1) ∧ ((tx (putL (accN (sl s) (j + 1)))).toList == (s.extract 0 (j + 1)).toList) = true ∧ accN (sl s) (j + 1) = n ∧ er = 0 ∧ r = s.extract (j + 1) s.size) ∨
              (((tx (putL (accN (sl s) (j + 1)))).toList == (s.extract 0 (j + 1)).toList) = false ∧ n = 0 ∧ er = 41 ∧ r = ⟨#[]⟩) := by
            by_cases hP : putL (accN (sl s) (j + 1)) = (sl s).take (j + 1)
            · have hE : (accN (sl s) (j + 1), j + 1, 0) = (n, k, er) := by
                rw [← HG.out, HGL.out, show 10 - j = (10 - (j + 1)) + 1 by omega, get_last _ _ _ (by rw [HSL.out]; exact hlt) (by rw [HB.out]; exact h128) hP]
              obtain ⟨q1, q2, q3⟩ : n = accN (sl s) (j + 1) ∧ k = j + 1 ∧ er = 0 := by simpa [eq_comm] using hE
              exact .inl ⟨hP, txt_eq (by rw [hP, head_tx]), q1.symm, q3, by rw [← HR.out, q2, tail_tx]⟩
            · have hE : (0, s.size, 41) = (n, k, er) := by
                rw [← HG.out, HGL.out, show 10 - j = (10 - (j + 1)) + 1 by omega, get_long _ _ _ (by rw [HSL.out]; exact hlt) (by rw [HB.out]; exact h128) hP, HSL.out]
              obtain ⟨q1, q2, q3⟩ : n = 0 ∧ k = s.size ∧ er = 41 := by simpa [eq_comm] using hE
              refine .inr ⟨txt_ne (fun e => hP (tx_inj (put_bys (accN_lt _ _)) ((HSB.out).take _) (e.trans (head_tx _ _)))), q1, q3, ?_⟩
              rw [← HR.out, ← tx_nil, q2, List.drop_eq_nil_of_le (by rw [HSL.out]; exact Nat.le_refl _)]
          clear HG HR HGL
          generalize accN (sl s) (j + 1) = a1 at *
          generalize accN (sl s) j = a0 at *
          generalize putL a1 = p1 at *
          generalize tx p1 = t1 at *
          have e1 : IntKind.i64.wrap ((j : Int) + 1) = (j : Int) + 1 := IntWalk.i64_in _ (by omega)
          have e2 : ((j : Int) + 1).toNat = j + 1 := by omega
          have e3 : (0 : Int) ≤ (j : Int) + 1 := by omega
          have e4 : (j : Int) + 1 ≤ (s.size : Int) := by omega
          rcases hw with ⟨_, hx, rfl, rfl, rfl⟩ | ⟨hx, rfl, rfl, rfl⟩
          all_goals
            go_wp2
            obtain ⟨w5, hw5⟩ : ∃ w5 : World, w5 = w := ⟨_, rfl⟩
            subst hw5
            have hP5 : ∀ wx, NewBut w5 wx → Calls Try.prog 16 #[.int .u64 ((a1 : Nat) : Int)] wx fun e w' => e = .returned (.string t1) ∧ NewBut w5 w' := fun wx h => (HP.out wx).mono fun _ _ ⟨q1, q2⟩ => ⟨q1, h.trans (q2.mono h.size)⟩
            have HP5 := Lib.hid hP5
            clear hP5
            refine region_quiet_tail (C := NewBut w5) 6 mixed (by kernel_rfl) (show Below _ _ _ from (Below.refl _ _).drew) ?_
            simp only [List.take_succ_cons, List.take_zero, List.drop_succ_cons, List.drop_zero]
            repeat (refine wpQuiet_step (fun K' hK' => ?_); go_simp; first | (refine ⟨_, fun _ _ => rfl, hK' _ ?_⟩; clear hK' K') | ((with_reducible refine ⟨_, fun wx hx => HP5.out wx hx, hK' _ ?_⟩); clear hK' K'))
            refine wpQuiet_nil ?_
            intro w6 hb6
            go_wp2
          · refine region_drew_tail 7 mixed (by kernel_rfl) ?_
            simp only [List.take_succ_cons, List.take_zero, List.drop_succ_cons, List.drop_zero]
            repeat (first | go_big_quiet_step (fail) | quiet_step (fail))
            refine wpQuiet_nil ?_
            rintro _ ⟨nq, rfl⟩
            go_wp2
            go_ret3
            exact ⟨rfl, below_drewN hb6 nq⟩
          · go_ret3
            exact ⟨rfl, hb6⟩
        · have d1 : decide ((128 : Int) ≤ (b : Int)) = true := by simp; omega
          go_wp2
          go_round
          case rel => exact ⟨j + 1, by omega, by omega, by go_num, by rw [HACC.out], by rw [HGL.out, show 10 - j = (10 - (j + 1)) + 1 by omega, get_more _ _ _ (by rw [HSL.out]; exact hlt) (by rw [HB.out]; omega)]⟩
          case measure => simp [intOf]; omega
    · obtain rfl : j = 10 := by omega
      have hE : (0, s.size, 41) = (n, k, er) := by
        rw [← HG.out, HGL.out, Nat.sub_self, get_zero, HSL.out]
      obtain ⟨q1, q2, q3⟩ : n = 0 ∧ k = s.size ∧ er = 41 := by simpa [eq_comm] using hE
      have hR : r = ⟨#[]⟩ := by rw [← HR.out, ← tx_nil, q2, List.drop_eq_nil_of_le (by rw [HSL.out]; exact Nat.le_refl _)]
      subst hR q1 q3
      clear hE
      go_wp2
      go_ret3
      exact ⟨rfl, Below.refl _ _⟩
end Go.Proofs.Ytkpabnpdpjcmdaa
