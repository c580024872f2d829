/-
  For all numbers, texts, texts behind and widths: what was put is read again, with what is behind it, each of the three ways. Longer texts than the bound are answered by the case shown alone. No condition.
-/
import Derived.Test.YtkpabnpdpjcmdaaRows
import Derived.Test.YtkpabnpdpjcmdaaVShown
import Derived.Test.YtkpabnpdpjcmdaaVFixed
import Derived.Test.YtkpabnpdpjcmdaaQTail
import Derived.ShutString
import Derived.ChangeOld
namespace Go.Proofs.Ytkpabnpdpjcmdaa.varintBack
open Go.ChangeShapes Go.WideShapes Go.ChangeAt Go.RowKit
open Go.ChangeMaps (open_string shut_string)
set_option linter.unusedVariables false

theorem read_text (a r : List Nat) (h : a.length < 18446744073709551616) : readL (putL a.length ++ a ++ r) = (a, r, 0) := by
  unfold readL
  rw [List.append_assoc, get_put h]
  simp
set_option maxHeartbeats 1000000 in
set_option maxRecDepth 100000 in
theorem walk (x0 : Int) (s t : ByteArray) (x3 : Int) (n0 : (Lit.int .u64 x0).wf = true) (n1 : s.size ≤ maxLen) (n2 : t.size ≤ maxLen) (n3 : (Lit.int .u8 x3).wf = true) (w : World) :
    Calls Try.prog 4 #[.int .u64 x0, .string s, .string t, .int .u8 x3] w fun e w' => e = .returned (.bool true) ∧ Below w.heap.size w w' := by
  obtain ⟨n, rfl, hn⟩ := nat_u64 x0 n0
  obtain ⟨c, rfl, hc⟩ := nat_u8 x3 n3
  have hS := fun w => l4_shown w
  have HS := Lib.hid hS
  clear hS n0 n3
  by_cases h1 : 1024 < s.size
  · have g1 : (1024 : Int) < (s.size : Int) := by omega
    go_enter Try.func4, Try.ntmps4
    go_wp2_with (go_at_call 8; (with_reducible refine (HS.out _).mono ?_); rintro e w1 ⟨rfl, hb1⟩)
    go_ret
    exact ⟨rfl, hb1⟩
  by_cases h2 : 1024 < t.size
  · have g1 : ¬ (1024 : Int) < (s.size : Int) := by omega
    have g2 : (1024 : Int) < (t.size : Int) := by omega
    go_enter Try.func4, Try.ntmps4
    go_wp2_with (go_at_call 8; (with_reducible refine (HS.out _).mono ?_); rintro e w1 ⟨rfl, hb1⟩)
    go_ret
    exact ⟨rfl, hb1⟩
  have g1 : ¬ (1024 : Int) < (s.size : Int) := by omega
  have g2 : ¬ (1024 : Int) < (t.size : Int) := by omega
  obtain ⟨k, hk, hk1, hk8⟩ : ∃ k : Nat, 1 + (c : Int) % 8 = (k : Int) ∧ 1 ≤ k ∧ k ≤ 8 := ⟨1 + c % 8, by omega, by omega, by omega⟩
  have hP := fun w => v_Put n w hn
  have hT := fun w => v_Text s w (by omega)
  have hB := fun w => v_Big n k w hk1 hk8 hn
  have zP := tx_size (putL n)
  have zPl := put_len_le n
  have zT := tx_size (putL s.size ++ sl s)
  have zTl := put_len_le s.size
  have zB := tx_size (bigL n k)
  rw [big_len] at zB
  rw [List.length_append, sl_len] at zT
  have hG : ∀ w, Calls Try.prog 9 #[.string (tx (putL n) ++ t)] w fun e w' => e = .returned (.tuple #[.int .u64 (n : Int), .string t, .int .i64 ((0 : Nat) : Int)]) ∧ Below w.heap.size w w' := fun w =>
    v_Get (tx (putL n) ++ t) w (by rw [ByteArray.size_append]; omega) n (putL n).length 0 t (by rw [sl_app, sl_tx (put_bys hn)]; exact get_put hn _) (by rw [sl_app, sl_tx (put_bys hn), List.drop_left, tx_sl])
  have hR : ∀ w, Calls Try.prog 11 #[.string (tx (putL s.size ++ sl s) ++ t)] w fun e w' => e = .returned (.tuple #[.string s, .string t, .int .i64 ((0 : Nat) : Int)]) ∧ Below w.heap.size w w' := fun w =>
    v_Read (tx (putL s.size ++ sl s) ++ t) w (by rw [ByteArray.size_append]; omega) (sl s) (sl t) 0 s t (by
      rw [sl_app, sl_tx ((put_bys (by omega)).app (sl_bys s))]
      have := read_text (sl s) (sl t) (by rw [sl_len]; omega)
      rwa [sl_len] at this) (tx_sl _) (tx_sl _)
  have hF : ∀ w, Calls Try.prog 13 #[.string (tx (bigL n k) ++ t), .int .i64 (k : Int)] w fun e w' => e = .returned (.tuple #[.int .u64 ((n % 2 ^ (8 * k) : Nat) : Int), .string t, .int .i64 ((0 : Nat) : Int)]) ∧ Below w.heap.size w w' := fun w =>
    v_Fixed (tx (bigL n k) ++ t) k w hk1 hk8 (by rw [ByteArray.size_append]; omega) _ 0 t (.inl ⟨by rw [ByteArray.size_append]; omega, by rw [sl_app, sl_tx (big_bys _ _)]; exact fix_put _ _ _, by rw [tail_tx, sl_app, sl_tx (big_bys _ _), List.drop_left' (big_len _ _), tx_sl], rfl⟩)
  have a1 : ∀ w, (Op.stringOp .add (tx (putL n)) t).run Try.prog w = .ok (.string (tx (putL n) ++ t)) w := fun w => run_string_add_sum _ _ _ (by omega)
  have a2 : ∀ w, (Op.stringOp .add (tx (putL s.size ++ sl s)) t).run Try.prog w = .ok (.string (tx (putL s.size ++ sl s) ++ t)) w := fun w => run_string_add_sum _ _ _ (by omega)
  have a3 : ∀ w, (Op.stringOp .add (tx (bigL n k)) t).run Try.prog w = .ok (.string (tx (bigL n k) ++ t)) w := fun w => run_string_add_sum _ _ _ (by omega)
  generalize tx (putL n) ++ t = t1 at *
  generalize tx (putL n) = p1 at *
  generalize tx (putL s.size ++ sl s) ++ t = t2 at *
  generalize tx (putL s.size ++ sl s) = p2 at *
  generalize tx (bigL n k) ++ t = t3 at *
  generalize tx (bigL n k) = p3 at *
  have HP := Lib.hid hP
  have HT := Lib.hid hT
  have HB := Lib.hid hB
  have HG := Lib.hid hG
  have HR := Lib.hid hR
  have k1 : (1 : Int) ≤ (k : Int) := by omega
  have k8 : (k : Int) ≤ 8 := by omega
  clear hP hT hB hG hR zP zPl zT zTl zB
  have hm : (k = 8 ∧ n % 2 ^ (8 * k) = n) ∨ (k < 8 ∧ IntKind.u64.wrap ((2 : Int) ^ (8 * k)) = ((2 ^ (8 * k) : Nat) : Int) ∧ 0 < 2 ^ (8 * k)) := by
    by_cases h8 : k = 8
    · subst h8
      exact .inl ⟨rfl, Nat.mod_eq_of_lt hn⟩
    · have h : (2 : Nat) ^ (8 * k) < 2 ^ 64 := Nat.pow_lt_pow_right (by omega) (by omega)
      refine .inr ⟨by omega, ?_, Nat.two_pow_pos _⟩
      rw [show (2 : Int) ^ (8 * k) = ((2 ^ (8 * k) : Nat) : Int) by simp]
      exact wraps_u64 _ (Int.natCast_nonneg _) (by exact_mod_cast h)
  rcases hm with ⟨d8, hm⟩ | ⟨d8, hm, hpos⟩
  · have d9 : ¬ (k : Int) < 8 := by omega
    rw [hm] at hF
    have HF := Lib.hid hF
    clear hF hm d8
    go_enter Try.func4, Try.ntmps4
    go_wp2_with (first | (go_at_call 8; (with_reducible refine (HS.out _).mono ?_); rintro e w1 ⟨rfl, hb1⟩) | (go_at_call 15; (with_reducible refine (HP.out _).mono ?_); rintro e w2 ⟨rfl, hb2⟩) | (go_at_call 9; (with_reducible refine (HG.out _).mono ?_); rintro e w3 ⟨rfl, hb3⟩) | (go_at_call 17; (with_reducible refine (HT.out _).mono ?_); rintro e w4 ⟨rfl, hb4⟩) | (go_at_call 11; (with_reducible refine (HR.out _).mono ?_); rintro e w5 ⟨rfl, hb5⟩) | (go_at_call 19; (with_reducible refine (HB.out _).mono ?_); rintro e w6 ⟨rfl, hb6⟩) | (go_at_call 13; (with_reducible refine (HF.out _).mono ?_); rintro e w7 ⟨rfl, hb7⟩))
    go_ret
    have c2 := hb1.trans (hb2.mono hb1.size)
    have c3 := c2.trans (hb3.mono c2.size)
    have c4 := c3.trans (hb4.mono c3.size)
    have c5 := c4.trans (hb5.mono c4.size)
    have c6 := c5.trans (hb6.mono c5.size)
    exact ⟨rfl, c6.trans (hb7.mono c6.size)⟩
  · have d9 : (k : Int) < 8 := by omega
    have hmod : (n : Int) % ((2 ^ (8 * k) : Nat) : Int) = ((n % 2 ^ (8 * k) : Nat) : Int) := by rw [Int.natCast_emod]
    have hp2 : ¬ (((2 ^ (8 * k) : Nat) : Int) = 0) := by omega
    have i1 : (8 * (k : Int)).toNat = 8 * k := by omega
    have i2 : (0 : Int) ≤ 8 * (k : Int) := by omega
    generalize 2 ^ (8 * k) = M at *
    generalize n % M = nm at *
    have HF := Lib.hid hF
    clear hF
    go_enter Try.func4, Try.ntmps4
    go_wp2_with (first | (go_at_call 8; (with_reducible refine (HS.out _).mono ?_); rintro e w1 ⟨rfl, hb1⟩) | (go_at_call 15; (with_reducible refine (HP.out _).mono ?_); rintro e w2 ⟨rfl, hb2⟩) | (go_at_call 9; (with_reducible refine (HG.out _).mono ?_); rintro e w3 ⟨rfl, hb3⟩) | (go_at_call 17; (with_reducible refine (HT.out _).mono ?_); rintro e w4 ⟨rfl, hb4⟩) | (go_at_call 11; (with_reducible refine (HR.out _).mono ?_); rintro e w5 ⟨rfl, hb5⟩) | (go_at_call 19; (with_reducible refine (HB.out _).mono ?_); rintro e w6 ⟨rfl, hb6⟩) | (go_at_call 13; (with_reducible refine (HF.out _).mono ?_); rintro e w7 ⟨rfl, hb7⟩))
    go_ret
    have c2 := hb1.trans (hb2.mono hb1.size)
    have c3 := c2.trans (hb3.mono c2.size)
    have c4 := c3.trans (hb4.mono c3.size)
    have c5 := c4.trans (hb5.mono c4.size)
    have c6 := c5.trans (hb6.mono c5.size)
    exact ⟨rfl, c6.trans (hb7.mono c6.size)⟩

set_option maxRecDepth 100000 in
theorem lifted (os : Os) (started : os.Started) (H : Type) (enc : TypeId × Value → H) :
    ReturnsInHanded {} Try.checked os 4 .any (Rows.varintBackSpec.pre6 enc Try.prog Try.f4 Rows.varintBackRow.domain false) (Rows.varintBackSpec.post enc Try.prog Try.f4 false true false false) := by
  refine returnsInHanded_of_change (C := Try.checked) own started (by kernel_rfl) Try.func4
    (ChangeSpec.witness6 (enc := enc) (C := Try.checked) false ⟨#[], #[.int .u64 0, .string ByteArray.empty, .string ByteArray.empty, .int .u8 0], []⟩ 8 (by kernel_rfl) (by kernel_rfl) (by kernel_rfl) (by kernel_rfl)) ?_
  intro W base args ds gs before hval0 hW hcnd _
  have hval : ∀ (j : Nat) t v, Try.f4.params[j]? = some t → args[j]? = some v → Value.okWide Try.prog W .any base t v := hval0
  have hW' := hW
  obtain ⟨p, q, hA0, hV, rfl, hfz, hnd⟩ := hW
  have hA : DataW.TrodAll enc Try.prog W 0 (fun _ => true) true Try.f4.params.toList args.toList ds p := hA0
  rw [Try.params4] at hA hval
  obtain ⟨v0, vs0, d0, ds0, p0, q0, hargs, rfl, rfl, h0, r0⟩ := trodAll_cons hA
  obtain ⟨v1, vs1, d1, ds1, p1, q1, rfl, rfl, rfl, h1, r1⟩ := trodAll_cons r0
  obtain ⟨v2, vs2, d2, ds2, p2, q2, rfl, rfl, rfl, h2, r2⟩ := trodAll_cons r1
  obtain ⟨v3, vs3, d3, ds3, p3, q3, rfl, rfl, rfl, h3, r3⟩ := trodAll_cons r2
  obtain ⟨rfl, rfl, rfl⟩ := trodAll_nil r3
  obtain rfl : args = #[v0, v1, v2, v3] := by cases args; simp_all
  obtain ⟨rfl, rfl⟩ := trodVars_none hV
  obtain ⟨l0, rfl, rfl, rfl, n0⟩ := open_int Try.underlying22 (hval 0 22 v0 rfl rfl) h0
  obtain ⟨l1, rfl, rfl, rfl, n1⟩ := open_string Try.underlying9 (hval 1 9 v1 rfl rfl) h1
  obtain ⟨l2, rfl, rfl, rfl, n2⟩ := open_string Try.underlying9 (hval 2 9 v2 rfl rfl) h2
  obtain ⟨l3, rfl, rfl, rfl, n3⟩ := open_int Try.underlying5 (hval 3 5 v3 rfl rfl) h3
  clear hA0 hval0
  simp only [List.append_nil] at hW'
  refine (walk l0 l1 l2 l3 n0 n1 n2 n3 W).mono fun e W' ⟨he, bel⟩ => ?_
  subst he
  exact ⟨_, rfl, _, _, _, [], _, [], hW', trodAll_mk1 (shut_bool Try.underlying4 _), (trodAll_cons_mk (shut_int Try.underlying22 n0) (trodAll_cons_mk (shut_string Try.underlying9 n1) (trodAll_cons_mk (shut_string Try.underlying9 n2) (trodAll_cons_mk (shut_int Try.underlying5 n3) trodAll_mk0)))), rfl, bel.frame _, fun h => by cases h⟩

theorem over : Rows.varintBackRow.holds Try.pinned (OpenSpec.ofChange Rows.varintBackSpec) :=
  OpenClaim.holds_of_wide 4 Try.f4 rfl rfl rfl rfl rfl rfl rfl ⟨rfl, rfl, rfl, rfl, rfl⟩ rfl rfl rfl rfl rfl (by kernel_rfl) Try.func4 (by kernel_rfl)
    (of_decide_eq_true (by kernel_rfl)) (by unfold Func.isWrapper; first | (rw [if_pos (by decide +kernel)]; kernel_rfl) | (rw [if_neg (by decide +kernel)]; exact ⟨rfl, rfl⟩))
    (fun os started H enc _ => lifted os started H enc)

theorem proved : Rows.VarintBackSaid :=
  over
#print axioms proved
end Go.Proofs.Ytkpabnpdpjcmdaa.varintBack
