/-
  For every uint32 n: Whole of n is a multiple of 64, at least n + 9 and below n + 9 + 64, Whole of -1 - n is 0, and the hash of nothing begins as the document says. No condition.
-/
import Derived.Test.YtofgjplcpdgedaaRows
import Derived.WalkKit
import Derived.ProofKit
import Derived.OpenShut
import Derived.ChangeOld
import Derived.Below
import Derived.Test.YtofgjplcpdgedaaShown
namespace Go.Proofs.Ytofgjplcpdgedaa.digestWhole
open Go.ChangeShapes Go.WideShapes Go.ChangeAt Go.RowKit
set_option linter.unusedVariables false

theorem own : ownKnob Try.prog.godebug = none := by kernel_rfl

theorem ret_and (a b : Bool) : (a && b) = true ↔ a = true ∧ b = true := by simp

set_option maxHeartbeats 1000000 in
set_option maxRecDepth 100000 in
theorem walk (a0 : Int) (w0 : (Lit.int .u32 a0).wf = true) (w : World) :
    Calls Try.prog 5 #[.int .u32 a0] w fun e w' => e = .returned (.bool true) ∧ Below w.heap.size w w' := by
  obtain ⟨b0, b1⟩ : 0 ≤ a0 ∧ a0 ≤ 4294967295 := by
    have := bounds_u32 w0
    omega
  have hW := whole_in a0 (by omega) (by omega)
  have hN := whole_out (-1 - a0) (by omega)
  have k0 : 0 ≤ wholeZ a0 ∧ wholeZ a0 ≤ 4294967400 := by rw [hW]; omega
  have k1 : wholeZ a0 % 64 = 0 := by rw [hW]; omega
  have k2 : a0 + 9 ≤ wholeZ a0 := by rw [hW]; omega
  have k3 : wholeZ a0 < a0 + 9 + 64 := by rw [hW]; omega
  have HN := Lib.hid hN
  clear hW hN
  go_enter Try.func5, Try.ntmps5
  go_wp2_with fail
  refine (d_Whole _ _ (by omega) (by omega)).mono ?_
  rintro e w1 ⟨rfl, rfl⟩
  generalize wholeZ a0 = W at *
  have g1 : (W % 64 == 0) = true := by rw [beq_iff_eq]; exact k1
  have g2 : decide (a0 + 9 ≤ W) = true := by simpa using k2
  have g3 : decide (W < a0 + 9 + 64) = true := by simpa using k3
  clear k1
  go_wp2_with (first | (go_at_call 13; refine (d_Whole _ _ (by omega) (by omega)).mono ?_; rw [HN.out]; rintro e w2 ⟨rfl, rfl⟩) | (go_at_call 8; refine (l_shown _).mono ?_; rintro e w3 ⟨rfl, hb3⟩))
  go_ret
  exact ⟨rfl, hb3⟩

set_option maxRecDepth 100000 in
theorem lifted (os : Os) (started : os.Started) (H : Type) (enc : TypeId × Value → H) :
    ReturnsInHanded {} Try.checked os 5 .any (Rows.digestWholeSpec.pre6 enc Try.prog Try.f5 Rows.digestWholeRow.domain false) (Rows.digestWholeSpec.post enc Try.prog Try.f5 false true false false) := by
  refine returnsInHanded_of_change (C := Try.checked) own started (by kernel_rfl) Try.func5
    (ChangeSpec.witness6 (enc := enc) (C := Try.checked) false ⟨#[], #[.int .u32 0], []⟩ 8 (by kernel_rfl) (by kernel_rfl) (by kernel_rfl) (by kernel_rfl)) ?_
  intro W base args ds gs before hval0 hW hcnd _
  have hval : ∀ (j : Nat) t v, Try.f5.params[j]? = some t → args[j]? = some v → Value.okWide Try.prog W .any base t v := hval0
  have hW' := hW
  obtain ⟨p, q, hA0, hV, rfl, hfz, hnd⟩ := hW
  have hA : DataW.TrodAll enc Try.prog W 0 (fun _ => true) true Try.f5.params.toList args.toList ds p := hA0
  rw [Try.params5] at hA hval
  obtain ⟨v0, vs0, d0, ds0, p0, q0, hargs, rfl, rfl, h0, r0⟩ := trodAll_cons hA
  obtain ⟨rfl, rfl, rfl⟩ := trodAll_nil r0
  obtain rfl : args = #[v0] := by cases args; simp_all
  obtain ⟨rfl, rfl⟩ := trodVars_none hV
  obtain ⟨a0, rfl, rfl, rfl, w0⟩ := open_int Try.underlying31 (hval 0 31 v0 rfl rfl) h0
  clear hA0 hval0
  simp only [List.append_nil] at hW'
  refine (walk a0 w0 W).mono fun e W' ⟨he, bel⟩ => ?_
  subst he
  exact ⟨_, rfl, _, _, _, [], _, [], hW', trodAll_mk1 (shut_bool Try.underlying4 _), (trodAll_cons_mk (shut_int Try.underlying31 w0) trodAll_mk0), rfl, bel.frame _, fun h => by cases h⟩

theorem over : Rows.digestWholeRow.holds Try.pinned (OpenSpec.ofChange Rows.digestWholeSpec) :=
  OpenClaim.holds_of_wide 5 Try.f5 rfl rfl rfl rfl rfl rfl rfl ⟨rfl, rfl, rfl, rfl, rfl⟩ rfl rfl rfl rfl rfl (by kernel_rfl) Try.func5 (by kernel_rfl)
    (of_decide_eq_true (by kernel_rfl)) (by unfold Func.isWrapper; first | (rw [if_pos (by decide +kernel)]; kernel_rfl) | (rw [if_neg (by decide +kernel)]; exact ⟨rfl, rfl⟩))
    (fun os started H enc _ => lifted os started H enc)

theorem proved : Rows.DigestWholeSaid :=
  over
#print axioms proved
end Go.Proofs.Ytofgjplcpdgedaa.digestWhole
