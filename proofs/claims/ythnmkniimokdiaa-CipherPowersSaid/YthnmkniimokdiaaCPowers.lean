/-
  For all bytes a and i, with k = i % 8: products by 2 to the k shift, as long as nothing falls out; 1 times it is itself; by 0 is 0; and the box has what it should. No condition.
-/
import Derived.Test.YthnmkniimokdiaaRows
import Derived.WalkKit
import Derived.ProofKit
import Derived.OpenShut
import Derived.ChangeOld
import Derived.Below
import Derived.Test.YthnmkniimokdiaaCipB
namespace Go.Proofs.Ythnmkniimokdiaa.cipherPowers
open Go.ChangeShapes Go.WideShapes Go.ChangeAt Go.RowKit
set_option linter.unusedVariables false

theorem own : ownKnob Try.prog.godebug = none := by kernel_rfl

theorem nat_of (x : Int) (h : (Lit.int .u8 x).wf = true) : ∃ n : Nat, x = (n : Int) ∧ n < 256 := by
  have := bounds_u8 h
  exact ⟨x.toNat, by omega, by omega⟩
theorem mixed : Try.prog.follows .mixedOrders = true := by kernel_rfl
theorem low_bits (a k : Nat) (ha : a < 256) (hk : k < 8) : bits .and .u8 (a : Int) (255 / 2 ^ k) = ((a % 2 ^ (8 - k) : Nat) : Int) := by
  have h : (255 / 2 ^ k : Nat) < 2 ^ 8 := Nat.lt_of_le_of_lt (Nat.div_le_self _ _) (by omega)
  have e := (bits_nat .u8 8 (by decide) wraps_u8 a (255 / 2 ^ k) (by omega) h).1
  have h8 : (255 / 2 ^ k : Nat) = 2 ^ (8 - k) - 1 := by
    have h' : ∀ m : Fin 8, (255 / 2 ^ m.val : Nat) = 2 ^ (8 - m.val) - 1 := by decide
    exact h' ⟨k, hk⟩
  rw [show (((255 / 2 ^ k : Nat) : Nat) : Int) = 255 / 2 ^ k by simp] at e
  rw [e, h8, Nat.and_two_pow_sub_one_eq_mod]
theorem pow_facts {a k : Nat} (ha : a < 256) (hk : k < 8) : a % 2 ^ (8 - k) * 2 ^ k < 256 ∧ mul (a % 2 ^ (8 - k)) (2 ^ k) = a % 2 ^ (8 - k) * 2 ^ k ∧ mul (2 ^ k) (a % 2 ^ (8 - k)) = a % 2 ^ (8 - k) * 2 ^ k ∧ mul 1 (2 ^ k) = 2 ^ k := by
  have h : (List.range 8).all (fun k => (List.range 256).all fun a => Nat.blt (a % 2 ^ (8 - k) * 2 ^ k) 256 && (Nat.beq (mul (a % 2 ^ (8 - k)) (2 ^ k)) (a % 2 ^ (8 - k) * 2 ^ k) && (Nat.beq (mul (2 ^ k) (a % 2 ^ (8 - k))) (a % 2 ^ (8 - k) * 2 ^ k) && Nat.beq (mul 1 (2 ^ k)) (2 ^ k)))) = true := by decide +kernel
  have := all256 (all8 h hk) ha
  simp only [Bool.and_eq_true] at this
  obtain ⟨h1, h2, h3, h4⟩ := this
  exact ⟨by simpa [Nat.blt_eq] using h1, Nat.eq_of_beq_eq_true h2, Nat.eq_of_beq_eq_true h3, Nat.eq_of_beq_eq_true h4⟩
set_option maxHeartbeats 1000000 in
set_option maxRecDepth 100000 in
theorem walk (a0 : Int) (a1 : Int) (w0 : (Lit.int .u8 a0).wf = true) (w1 : (Lit.int .u8 a1).wf = true) (w : World) :
    Calls Try.prog 8 #[.int .u8 a0, .int .u8 a1] w fun e w' => e = .returned (.bool true) ∧ Below w.heap.size w w' := by
  obtain ⟨a, rfl, ha⟩ := nat_of a0 w0
  obtain ⟨i, rfl, hi⟩ := nat_of a1 w1
  clear w0 w1
  obtain ⟨k, hk, hk8⟩ : ∃ k : Nat, (i : Int) % 8 = (k : Int) ∧ k < 8 := ⟨i % 8, by omega, by omega⟩
  have l1 := low_bits a k ha hk8
  have p1 : (2 : Int) ^ k % 256 = ((2 ^ k : Nat) : Int) := by
    have := pow_lt hk8
    have e : ((2 ^ k : Nat) : Int) = 2 ^ k := by simp
    rw [← e]; exact Int.emod_eq_of_lt (Int.natCast_nonneg _) (by omega)
  obtain ⟨f1, f2, f3, f4⟩ := pow_facts ha hk8
  have kI : (k : Int) < 8 := by omega
  have hlow : a % 2 ^ (8 - k) < 256 := Nat.lt_of_le_of_lt (Nat.mod_le _ _) ha
  have t1 := fun w => c_Times (a % 2 ^ (8 - k)) (2 ^ k) w hlow (pow_lt hk8)
  have t2 := fun w => c_Times (2 ^ k) (a % 2 ^ (8 - k)) w (pow_lt hk8) hlow
  have t3 : ∀ w, Calls Try.prog 14 #[.int .u8 1, .int .u8 ((2 ^ k : Nat) : Int)] w fun e w' => e = .returned (.int .u8 (mul 1 (2 ^ k) : Nat)) ∧ w = w' := fun w => c_Times 1 (2 ^ k) w (by omega) (pow_lt hk8)
  have t4 : ∀ w, Calls Try.prog 14 #[.int .u8 (a : Int), .int .u8 0] w fun e w' => e = .returned (.int .u8 (mul a 0 : Nat)) ∧ w = w' := fun w => c_Times a 0 w ha (by omega)
  rw [f2] at t1
  rw [f3] at t2
  rw [f4] at t3
  rw [mul_zero] at t4
  have e1 : (a : Int) % 2 ^ (8 - k) = ((a % 2 ^ (8 - k) : Nat) : Int) := by simp
  have e2 : ((a % 2 ^ (8 - k) : Nat) : Int) * 2 ^ k % 256 = ((a % 2 ^ (8 - k) * 2 ^ k : Nat) : Int) := by
    have e : ((a % 2 ^ (8 - k) * 2 ^ k : Nat) : Int) = ((a % 2 ^ (8 - k) : Nat) : Int) * 2 ^ k := by simp
    rw [← e]; exact Int.emod_eq_of_lt (Int.natCast_nonneg _) (by omega)
  have e3 : IntKind.u8.wrap (((a % 2 ^ (8 - k) : Nat) : Int) * 2 ^ k) = ((a % 2 ^ (8 - k) * 2 ^ k : Nat) : Int) := by rw [IntKind.wrap_u8]; exact e2
  clear f1 f2 f3 f4
  generalize a % 2 ^ (8 - k) * 2 ^ k = R at *
  generalize a % 2 ^ (8 - k) = L at *
  generalize (2 ^ k : Nat) = X at *
  have T1 := Lib.hid (fun w => (t1 w).mono fun _ _ ⟨x, y⟩ => (⟨x, y.symm⟩ : _ ∧ _ = w))
  have T2 := Lib.hid (fun w => (t2 w).mono fun _ _ ⟨x, y⟩ => (⟨x, y.symm⟩ : _ ∧ _ = w))
  have T3 := Lib.hid (fun w => (t3 w).mono fun _ _ ⟨x, y⟩ => (⟨x, y.symm⟩ : _ ∧ _ = w))
  have T4 := Lib.hid (fun w => (t4 w).mono fun _ _ ⟨x, y⟩ => (⟨x, y.symm⟩ : _ ∧ _ = w))
  clear t1 t2 t3 t4
  go_enter Try.func8, Try.ntmps8
  go_wp2
  refine wp_region_still_tail 28 mixed (by kernel_rfl) ?_
  simp only [List.take_succ_cons, List.take_zero, List.drop_succ_cons, List.drop_zero]
  change wpStill _ _ (World.drew _) _ _ _
  repeat (first | still_step | (refine wpStill_step (fun K hK => ?_); go_simp; (with_reducible refine ⟨_, T1.out _, hK _ ?_⟩); clear hK K) | (refine wpStill_step (fun K hK => ?_); go_simp; (with_reducible refine ⟨_, T2.out _, hK _ ?_⟩); clear hK K) | (refine wpStill_step (fun K hK => ?_); go_simp; (with_reducible refine ⟨_, T3.out _, hK _ ?_⟩); clear hK K) | (refine wpStill_step (fun K hK => ?_); go_simp; (with_reducible refine ⟨_, T4.out _, hK _ ?_⟩); clear hK K))
  refine wpStill_nil ?_
  change wpList _ _ _ _ _ (World.drew _)
  generalize hw2 : World.drew w = w2
  go_wp2_with (go_at_call 16; (with_reducible refine (l_shown _).mono ?_); rintro e w3 ⟨rfl, hb3⟩)
  go_ret
  subst hw2
  exact ⟨rfl, (below_drewN (Below.refl _ _) 1).trans hb3⟩

set_option maxRecDepth 100000 in
theorem lifted (os : Os) (started : os.Started) (H : Type) (enc : TypeId × Value → H) :
    ReturnsInHanded {} Try.checked os 8 .any (Rows.cipherPowersSpec.pre6 enc Try.prog Try.f8 Rows.cipherPowersRow.domain false) (Rows.cipherPowersSpec.post enc Try.prog Try.f8 false true false false) := by
  refine returnsInHanded_of_change (C := Try.checked) own started (by kernel_rfl) Try.func8
    (ChangeSpec.witness6 (enc := enc) (C := Try.checked) false ⟨#[], #[.int .u8 0, .int .u8 0], []⟩ 8 (by kernel_rfl) (by kernel_rfl) (by kernel_rfl) (by kernel_rfl)) ?_
  intro W base args ds gs before hval0 hW hcnd _
  have hval : ∀ (j : Nat) t v, Try.f8.params[j]? = some t → args[j]? = some v → Value.okWide Try.prog W .any base t v := hval0
  have hW' := hW
  obtain ⟨p, q, hA0, hV, rfl, hfz, hnd⟩ := hW
  have hA : DataW.TrodAll enc Try.prog W 0 (fun _ => true) true Try.f8.params.toList args.toList ds p := hA0
  rw [Try.params8] at hA hval
  obtain ⟨v0, vs0, d0, ds0, p0, q0, hargs, rfl, rfl, h0, r0⟩ := trodAll_cons hA
  obtain ⟨v1, vs1, d1, ds1, p1, q1, rfl, rfl, rfl, h1, r1⟩ := trodAll_cons r0
  obtain ⟨rfl, rfl, rfl⟩ := trodAll_nil r1
  obtain rfl : args = #[v0, v1] := by cases args; simp_all
  obtain ⟨rfl, rfl⟩ := trodVars_none hV
  obtain ⟨a0, rfl, rfl, rfl, w0⟩ := open_int Try.underlying5 (hval 0 5 v0 rfl rfl) h0
  obtain ⟨a1, rfl, rfl, rfl, w1⟩ := open_int Try.underlying5 (hval 1 5 v1 rfl rfl) h1
  clear hA0 hval0
  simp only [List.append_nil] at hW'
  refine (walk a0 a1 w0 w1 W).mono fun e W' ⟨he, bel⟩ => ?_
  subst he
  exact ⟨_, rfl, _, _, _, [], _, [], hW', trodAll_mk1 (shut_bool Try.underlying4 _), (trodAll_cons_mk (shut_int Try.underlying5 w0) (trodAll_cons_mk (shut_int Try.underlying5 w1) trodAll_mk0)), rfl, bel.frame _, fun h => by cases h⟩

theorem over : Rows.cipherPowersRow.holds Try.pinned (OpenSpec.ofChange Rows.cipherPowersSpec) :=
  OpenClaim.holds_of_wide 8 Try.f8 rfl rfl rfl rfl rfl rfl rfl ⟨rfl, rfl, rfl, rfl, rfl⟩ rfl rfl rfl rfl rfl (by kernel_rfl) Try.func8 (by kernel_rfl)
    (of_decide_eq_true (by kernel_rfl)) (by unfold Func.isWrapper; first | (rw [if_pos (by decide +kernel)]; kernel_rfl) | (rw [if_neg (by decide +kernel)]; exact ⟨rfl, rfl⟩))
    (fun os started H enc _ => lifted os started H enc)

theorem proved : Rows.CipherPowersSaid :=
  over
#print axioms proved
end Go.Proofs.Ythnmkniimokdiaa.cipherPowers
