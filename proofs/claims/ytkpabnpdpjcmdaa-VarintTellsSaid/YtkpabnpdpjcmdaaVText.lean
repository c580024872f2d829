/- Walks of varint's Text and Read. -/
import Derived.Test.YtkpabnpdpjcmdaaVGet
namespace Go.Proofs.Ytkpabnpdpjcmdaa
open Go.RowKit Go.Shelf
set_option linter.unusedVariables false
/-- what Read tells of bytes: the text, what is behind, the error -/
def readL (l : List Nat) : List Nat × List Nat × Nat :=
  if (getL l).2.2 ≠ 0 then ([], [], (getL l).2.2) else if (l.drop (getL l).2.1).length < (getL l).1 then ([], [], 40) else ((l.drop (getL l).2.1).take (getL l).1, (l.drop (getL l).2.1).drop (getL l).1, 0)

set_option maxRecDepth 100000 in
set_option maxHeartbeats 400000 in
theorem v_Text (s : ByteArray) (w : World) (hs : s.size ≤ 65536) :
    Calls Try.prog 17 #[.string s] w fun e w' => e = .returned (.string (tx (putL s.size ++ sl s))) ∧ Below w.heap.size w w' := by
  have hP := fun w => v_Put s.size w (by omega)
  have hz : (tx (putL s.size)).size ≤ 10 := by rw [tx_size]; exact put_len_le _
  have hadd : ∀ w, (Op.stringOp .add (tx (putL s.size)) s).run Try.prog w = .ok (.string (tx (putL s.size ++ sl s))) w := fun w => by
    rw [run_string_add_sum _ _ _ (by omega), tx_app, tx_sl]
  generalize tx (putL s.size ++ sl s) = z at *
  generalize tx (putL s.size) = t at *
  have HP := Lib.hid hP
  clear hP
  go_enter Try.func17, Try.ntmps17
  go_wp2_with (go_at_call 15; (with_reducible refine (HP.out _).mono ?_); rintro e w1 ⟨rfl, hb1⟩)
  go_ret
  exact ⟨rfl, hb1⟩
set_option maxRecDepth 100000 in
set_option maxHeartbeats 1000000 in
theorem v_Read (s : ByteArray) (w : World) (hs : s.size ≤ 65536) (x y : List Nat) (er : Nat) (a b : ByteArray) (h : readL (sl s) = (x, y, er)) (ha : tx x = a) (hb : tx y = b) :
    Calls Try.prog 11 #[.string s] w fun e w' => e = .returned (.tuple #[.string a, .string b, .int .i64 (er : Int)]) ∧ Below w.heap.size w w' := by
  obtain ⟨n, k, g, hg⟩ : ∃ n k g, getL (sl s) = (n, k, g) := ⟨_, _, _, rfl⟩
  have hG := fun w => v_Get s w hs n k g _ hg rfl
  have hn : n < 18446744073709551616 := by have := get_lt (sl s); rwa [hg] at this
  have hsl : sl (tx ((sl s).drop k)) = (sl s).drop k := sl_tx ((sl_bys s).drop _)
  have hrz : (tx ((sl s).drop k)).size = ((sl s).drop k).length := tx_size _
  have hrl : ((sl s).drop k).length ≤ 65536 := by rw [List.length_drop, sl_len]; omega
  unfold readL at h
  rw [hg] at h
  dsimp only at h
  generalize tx ((sl s).drop k) = r at *
  generalize (sl s).drop k = R at *
  have HG := Lib.hid hG
  have HRZ := Lib.hid hrz
  clear hG hg
  by_cases h0 : g = 0
  · subst h0
    rw [if_neg (by decide)] at h
    by_cases hlt : R.length < n
    · rw [if_pos hlt] at h
      obtain ⟨rfl, rfl, rfl⟩ : x = [] ∧ y = [] ∧ er = 40 := by simpa [eq_comm] using h
      rw [tx_nil] at ha hb
      subst ha hb
      have d1 : (r.size : Int) < (n : Int) := by rw [HRZ.out]; omega
      clear hsl hrz h
      go_enter Try.func11, Try.ntmps11
      go_wp2_with (go_at_call 9; (with_reducible refine (HG.out _).mono ?_); rintro e w1 ⟨rfl, hb1⟩)
      go_ret3
      exact ⟨rfl, hb1⟩
    · rw [if_neg hlt] at h
      obtain ⟨rfl, rfl, rfl⟩ : x = R.take n ∧ y = R.drop n ∧ er = 0 := by simpa [eq_comm] using h
      have ea : a = r.extract 0 n := by rw [← ha, head_tx, hsl]
      have eb : b = r.extract n r.size := by rw [← hb, tail_tx, hsl]
      have d1 : ¬ (r.size : Int) < (n : Int) := by rw [HRZ.out]; omega
      have d2 : (n : Int) ≤ (r.size : Int) := by omega
      have d3 : r.size ≤ 65536 := by rw [HRZ.out]; omega
      clear hsl hrz h ha hb
      subst ea eb
      go_enter Try.func11, Try.ntmps11
      go_wp2_with (go_at_call 9; (with_reducible refine (HG.out _).mono ?_); rintro e w1 ⟨rfl, hb1⟩)
      refine region_drew_tail 8 mixed (by kernel_rfl) ?_
      simp only [List.take_succ_cons, List.take_zero, List.drop_succ_cons, List.drop_zero]
      repeat (first | go_big_quiet_step (fail) | quiet_step (fail))
      refine wpQuiet_nil ?_
      rintro _ ⟨nq, rfl⟩
      go_wp2
      go_ret3
      exact ⟨rfl, below_drewN hb1 nq⟩
  · rw [if_pos h0] at h
    obtain ⟨rfl, rfl, rfl⟩ : x = [] ∧ y = [] ∧ er = g := by simpa [eq_comm] using h
    rw [tx_nil] at ha hb
    subst ha hb
    have d1 : ((er : Int) == 0) = false := by simp; omega
    have d2 : ((er : Int) != 0) = true := by simp; omega
    clear hsl hrz h
    go_enter Try.func11, Try.ntmps11
    go_wp2_with (go_at_call 9; (with_reducible refine (HG.out _).mono ?_); rintro e w1 ⟨rfl, hb1⟩)
    go_ret3
    exact ⟨rfl, hb1⟩
end Go.Proofs.Ytkpabnpdpjcmdaa
