/-
  For all pairs of numbers and all bytes: the greater one's text is no shorter, both have one byte to ten, the power of 2 has a byte for each seven bits, and the case shown holds. No condition.
-/
import Derived.Test.YtkpabnpdpjcmdaaRows
import Derived.Test.YtkpabnpdpjcmdaaVShown
import Derived.Test.YtkpabnpdpjcmdaaQTail
import Derived.ShutString
import Derived.ChangeOld
namespace Go.Proofs.Ytkpabnpdpjcmdaa.varintSizes
open Go.ChangeShapes Go.WideShapes Go.ChangeAt Go.RowKit
open Go.ChangeMaps (open_string shut_string)
set_option linter.unusedVariables false

set_option maxHeartbeats 1000000 in
set_option maxRecDepth 100000 in
theorem walk (x0 x1 x2 : Int) (n0 : (Lit.int .u64 x0).wf = true) (n1 : (Lit.int .u64 x1).wf = true) (n2 : (Lit.int .u8 x2).wf = true) (w : World) :
    Calls Try.prog 6 #[.int .u64 x0, .int .u64 x1, .int .u8 x2] w fun e w' => e = .returned (.bool true) ∧ Below w.heap.size w w' := by
  obtain ⟨a, rfl, ha⟩ := nat_u64 x0 n0
  obtain ⟨b, rfl, hb⟩ := nat_u64 x1 n1
  obtain ⟨c, rfl, hc⟩ := nat_u8 x2 n2
  have hS := fun w => l4_shown w
  have HS := Lib.hid hS
  clear hS n0 n1 n2
  obtain ⟨k, hk, hk64⟩ : ∃ k : Nat, (c : Int) % 64 = (k : Int) ∧ k < 64 := ⟨c % 64, by omega, by omega⟩
  have x1 := put_len_pos a
  have x2 := put_len_le a
  have x6 := put_len_pos b
  have x7 := put_len_le b
  have x3 := put_len_pow k hk64
  have x4 := put_len_mono (a := a) (b := b)
  have x5 := put_len_mono (a := b) (b := a)
  have hpw : 2 ^ k < 18446744073709551616 := Nat.pow_lt_pow_right (a := 2) (by omega) hk64
  have hw : IntKind.u64.wrap ((2 : Int) ^ k) = ((2 ^ k : Nat) : Int) := by
    rw [show (2 : Int) ^ k = ((2 ^ k : Nat) : Int) by simp]
    exact wraps_u64 _ (Int.natCast_nonneg _) (by exact_mod_cast hpw)
  have HW := Lib.hid hw
  clear hw
  have hA := fun w => v_Put a w ha
  have hB := fun w => v_Put b w hb
  have hC := fun (x : Int) w (e : x = ((2 ^ k : Nat) : Int)) => by have := v_Put (2 ^ k) w hpw; rw [← e] at this; exact this
  have sa := tx_size (putL a)
  have sb := tx_size (putL b)
  have sc := tx_size (putL (2 ^ k))
  generalize tx (putL a) = ta at *
  generalize tx (putL b) = tb at *
  generalize tx (putL (2 ^ k)) = tc at *
  generalize (putL a).length = la at *
  generalize (putL b).length = lb at *
  rw [x3] at sc
  have HA := Lib.hid hA
  have HB := Lib.hid hB
  have HC := Lib.hid hC
  clear hA hB hC x3
  have y1 : (1 : Int) ≤ (la : Int) := by omega
  have y2 : (la : Int) ≤ 10 := by omega
  have y3 : (1 : Int) ≤ (lb : Int) := by omega
  have y4 : (lb : Int) ≤ 10 := by omega
  rcases Nat.lt_trichotomy a b with h | rfl | h
  · have d1 : (a : Int) < (b : Int) := by omega
    have d2 : ¬ ((b : Int) < (a : Int)) := by omega
    have d3 : la ≤ lb := x4 (by omega)
    clear x4 x5
    go_enter Try.func6, Try.ntmps6
    go_wp2_with fail
    refine (HA.out _).mono ?_
    rintro e w4 ⟨rfl, hb4⟩
    go_wp2_with fail
    refine (HB.out _).mono ?_
    rintro e w5 ⟨rfl, hb5⟩
    go_wp2_with fail
    refine (HC.out _ _ ?_).mono ?_
    · exact HW.out
    rintro e w6 ⟨rfl, hb6⟩
    go_wp2_with fail
    refine (HS.out _).mono ?_
    rintro e w7 ⟨rfl, hb7⟩
    go_wp2_with fail
    go_ret
    have c5 := hb4.trans (hb5.mono hb4.size)
    have c6 := c5.trans (hb6.mono c5.size)
    exact ⟨rfl, c6.trans (hb7.mono c6.size)⟩
  · have d1 : ¬ (a : Int) < (a : Int) := by omega
    clear x4 x5
    go_enter Try.func6, Try.ntmps6
    go_wp2_with fail
    refine (HA.out _).mono ?_
    rintro e w4 ⟨rfl, hb4⟩
    go_wp2_with fail
    refine (HA.out _).mono ?_
    rintro e w5 ⟨rfl, hb5⟩
    go_wp2_with fail
    refine (HC.out _ _ ?_).mono ?_
    · exact HW.out
    rintro e w6 ⟨rfl, hb6⟩
    go_wp2_with fail
    refine (HS.out _).mono ?_
    rintro e w7 ⟨rfl, hb7⟩
    go_wp2_with fail
    go_ret
    have c5 := hb4.trans (hb5.mono hb4.size)
    have c6 := c5.trans (hb6.mono c5.size)
    exact ⟨rfl, c6.trans (hb7.mono c6.size)⟩
  · have d1 : (b : Int) < (a : Int) := by omega
    have d2 : ¬ ((a : Int) < (b : Int)) := by omega
    have d3 : lb ≤ la := x5 (by omega)
    clear x4 x5
    go_enter Try.func6, Try.ntmps6
    go_wp2_with fail
    refine (HB.out _).mono ?_
    rintro e w4 ⟨rfl, hb4⟩
    go_wp2_with fail
    refine (HA.out _).mono ?_
    rintro e w5 ⟨rfl, hb5⟩
    go_wp2_with fail
    refine (HC.out _ _ ?_).mono ?_
    · exact HW.out
    rintro e w6 ⟨rfl, hb6⟩
    go_wp2_with fail
    refine (HS.out _).mono ?_
    rintro e w7 ⟨rfl, hb7⟩
    go_wp2_with fail
    go_ret
    have c5 := hb4.trans (hb5.mono hb4.size)
    have c6 := c5.trans (hb6.mono c5.size)
    exact ⟨rfl, c6.trans (hb7.mono c6.size)⟩

set_option maxRecDepth 100000 in
theorem lifted (os : Os) (started : os.Started) (H : Type) (enc : TypeId × Value → H) :
    ReturnsInHanded {} Try.checked os 6 .any (Rows.varintSizesSpec.pre6 enc Try.prog Try.f6 Rows.varintSizesRow.domain false) (Rows.varintSizesSpec.post enc Try.prog Try.f6 false true false false) := by
  refine returnsInHanded_of_change (C := Try.checked) own started (by kernel_rfl) Try.func6
    (ChangeSpec.witness6 (enc := enc) (C := Try.checked) false ⟨#[], #[.int .u64 0, .int .u64 0, .int .u8 0], []⟩ 8 (by kernel_rfl) (by kernel_rfl) (by kernel_rfl) (by kernel_rfl)) ?_
  intro W base args ds gs before hval0 hW hcnd _
  have hval : ∀ (j : Nat) t v, Try.f6.params[j]? = some t → args[j]? = some v → Value.okWide Try.prog W .any base t v := hval0
  have hW' := hW
  obtain ⟨p, q, hA0, hV, rfl, hfz, hnd⟩ := hW
  have hA : DataW.TrodAll enc Try.prog W 0 (fun _ => true) true Try.f6.params.toList args.toList ds p := hA0
  rw [Try.params6] at hA hval
  obtain ⟨v0, vs0, d0, ds0, p0, q0, hargs, rfl, rfl, h0, r0⟩ := trodAll_cons hA
  obtain ⟨v1, vs1, d1, ds1, p1, q1, rfl, rfl, rfl, h1, r1⟩ := trodAll_cons r0
  obtain ⟨v2, vs2, d2, ds2, p2, q2, rfl, rfl, rfl, h2, r2⟩ := trodAll_cons r1
  obtain ⟨rfl, rfl, rfl⟩ := trodAll_nil r2
  obtain rfl : args = #[v0, v1, v2] := by cases args; simp_all
  obtain ⟨rfl, rfl⟩ := trodVars_none hV
  obtain ⟨l0, rfl, rfl, rfl, n0⟩ := open_int Try.underlying22 (hval 0 22 v0 rfl rfl) h0
  obtain ⟨l1, rfl, rfl, rfl, n1⟩ := open_int Try.underlying22 (hval 1 22 v1 rfl rfl) h1
  obtain ⟨l2, rfl, rfl, rfl, n2⟩ := open_int Try.underlying5 (hval 2 5 v2 rfl rfl) h2
  clear hA0 hval0
  simp only [List.append_nil] at hW'
  refine (walk l0 l1 l2 n0 n1 n2 W).mono fun e W' ⟨he, bel⟩ => ?_
  subst he
  exact ⟨_, rfl, _, _, _, [], _, [], hW', trodAll_mk1 (shut_bool Try.underlying4 _), (trodAll_cons_mk (shut_int Try.underlying22 n0) (trodAll_cons_mk (shut_int Try.underlying22 n1) (trodAll_cons_mk (shut_int Try.underlying5 n2) trodAll_mk0))), rfl, bel.frame _, fun h => by cases h⟩

theorem over : Rows.varintSizesRow.holds Try.pinned (OpenSpec.ofChange Rows.varintSizesSpec) :=
  OpenClaim.holds_of_wide 6 Try.f6 rfl rfl rfl rfl rfl rfl rfl ⟨rfl, rfl, rfl, rfl, rfl⟩ rfl rfl rfl rfl rfl (by kernel_rfl) Try.func6 (by kernel_rfl)
    (of_decide_eq_true (by kernel_rfl)) (by unfold Func.isWrapper; first | (rw [if_pos (by decide +kernel)]; kernel_rfl) | (rw [if_neg (by decide +kernel)]; exact ⟨rfl, rfl⟩))
    (fun os started H enc _ => lifted os started H enc)

theorem proved : Rows.VarintSizesSaid :=
  over
#print axioms proved
end Go.Proofs.Ytkpabnpdpjcmdaa.varintSizes
