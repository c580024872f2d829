/-
  For all bytes a and b: the box has at a what the document says, and the same at a and b only if they are the same, and at b what its table says; and the box has what it should. No condition.
-/
import Derived.Test.YthnmkniimokdiaaRows
import Derived.WalkKit
import Derived.ProofKit
import Derived.OpenShut
import Derived.ChangeOld
import Derived.Below
import Derived.Test.YthnmkniimokdiaaCipD
import Derived.Test.YthnmkniimokdiaaQTail
namespace Go.Proofs.Ythnmkniimokdiaa.cipherBox
open Go.ChangeShapes Go.WideShapes Go.ChangeAt Go.RowKit
set_option linter.unusedVariables false

theorem own : ownKnob Try.prog.godebug = none := by kernel_rfl

theorem nat_of (x : Int) (h : (Lit.int .u8 x).wf = true) : ∃ n : Nat, x = (n : Int) ∧ n < 256 := by
  have := bounds_u8 h
  exact ⟨x.toNat, by omega, by omega⟩
theorem mixed : Try.prog.follows .mixedOrders = true := by kernel_rfl
/-- the class of the worlds that are as w0 was, but for new blocks -/
def NewBut (w0 w : World) : Prop := Below w0.heap.size w0 w
set_option maxHeartbeats 1000000 in
set_option maxRecDepth 100000 in
theorem walk (a0 : Int) (a1 : Int) (w0 : (Lit.int .u8 a0).wf = true) (w1 : (Lit.int .u8 a1).wf = true) (w : World) :
    Calls Try.prog 4 #[.int .u8 a0, .int .u8 a1] w fun e w' => e = .returned (.bool true) ∧ Below w.heap.size w w' := by
  obtain ⟨a, rfl, ha⟩ := nat_of a0 w0
  obtain ⟨b, rfl, hb⟩ := nat_of a1 w1
  clear w0 w1
  have hL := boxT_len
  have gA : boxT.getD a 0 = boxG a := rfl
  have gB : boxT.getD b 0 = boxG b := rfl
  have hinj : boxG a = boxG b → a = b := boxG_inj ha hb
  have hS := fun w => c_Box w
  have hT := fun w => r_Table w
  have hA := fun w => r_At a w ha
  have hixL : (nn boxT).length = 256 := by rw [nn_length, hL]
  have hix := fun w => run_index_ints (P := Try.prog) 38 5 256 .u8 .u8 (nn boxT) b Try.underlying38 ⟨_, Try.underlying5, rfl⟩ size_u8 hixL hb w
  rw [nn_getD, gB] at hix
  generalize boxT = B at *
  generalize boxG a = va at *
  generalize boxG b = vb at *
  obtain ⟨c, g1, g2⟩ : ∃ c : Bool, ((va : Int) == (vb : Int)) = c ∧ ((a : Int) == (b : Int)) = c := by
    by_cases e : a = b
    · subst e
      rw [gA] at gB
      subst gB
      exact ⟨true, by simp, by simp⟩
    · refine ⟨false, ?_, ?_⟩
      · rw [beq_eq_false_iff_ne]
        intro h
        exact e (hinj (by omega))
      · rw [beq_eq_false_iff_ne]
        omega
  have HS := Lib.hid hS
  have HT := Lib.hid hT
  have HA := Lib.hid hA
  have HL := Lib.hid hL
  have HI := Lib.hid hinj
  have GA := Lib.hid gA
  have GB := Lib.hid gB
  clear hS hT hA hL hixL gA gB hinj
  go_enter Try.func4, Try.ntmps4
  go_wp2_with fail
  refine (HS.out _).mono ?_
  rintro e w1 ⟨rfl, hb1⟩
  go_wp2_with (first | (refine wpList_alloc_at rfl 38 rfl _ _ (alloc_p256 _) ?_) | (refine wpList_store_blk rfl 38 _ _ rfl w1.heap.size (ints .u8 (nn B)) rfl rfl (Blk.new' w1 38 (ints .u8 (nn (List.replicate 256 0))) rfl) (by rw [size_p256]; exact congrArg some (by rw [ints_length, nn_length, HL.out])) (by rw [ints_length, ints_length, nn_length, nn_length, HL.out]; rfl) (ints_one _ _) ?_))
  have hB4 : Blk ((w1.alloc (.cells (ints .u8 (nn (List.replicate 256 0))).toArray 38)).setRow w1.heap.size (ints .u8 (nn B)).toArray) w1.heap.size 38 (ints .u8 (nn B)) :=
    (Blk.new' w1 38 (ints .u8 (nn (List.replicate 256 0))) rfl).row _ (by rw [ints_length, ints_length, nn_length, nn_length, HL.out]; rfl)
  have hb4 : Below w.heap.size w ((w1.alloc (.cells (ints .u8 (nn (List.replicate 256 0))).toArray 38)).setRow w1.heap.size (ints .u8 (nn B)).toArray) := below_setRow (hb1.alloc hb1.size _) hb1.size _
  generalize World.setRow _ _ _ = w4 at *
  generalize w1.heap.size = bx at *
  have hcA : ∀ wx, NewBut w4 wx → wx.cell? ⟨bx, a, none⟩ = some (.int .u8 (va : Int)) := fun wx hx => by
    rw [(hB4.below hx hB4.lt).nat (by rw [HL.out]; exact ha), GA.out]
  have hcB : ∀ wx, NewBut w4 wx → wx.cell? ⟨bx, b, none⟩ = some (.int .u8 (vb : Int)) := fun wx hx => by
    rw [(hB4.below hx hB4.lt).nat (by rw [HL.out]; exact hb), GB.out]
  have a5 : (a : Int) < 256 := by omega
  have b5 : (b : Int) < 256 := by omega
  have HCA := Lib.hid hcA
  have HCB := Lib.hid hcB
  clear hcA hcB
  refine region_quiet_tail (C := NewBut w4) 29 mixed (by kernel_rfl) (show Below _ _ _ from (Below.refl _ _).drew) ?_
  simp only [List.take_succ_cons, List.take_zero, List.drop_succ_cons, List.drop_zero]
  repeat (refine wpQuiet_step (fun K' hK' => ?_); go_simp; first | (refine ⟨_, fun _ _ => rfl, hK' _ ?_⟩; clear hK' K') | (refine ⟨_, fun wx hx => (HA.out wx).mono fun _ _ ⟨h1, n, h2⟩ => ⟨h1, by rw [h2]; exact below_drewN hx n⟩, hK' _ ?_⟩; clear hK' K') | (refine ⟨_, fun wx hx => (HT.out wx).mono fun _ _ ⟨h1, h2⟩ => ⟨h1, hx.trans (h2.mono hx.size)⟩, hK' _ ?_⟩; clear hK' K') | (refine ⟨.int .u8 (va : Int), ?_, hK' _ ?_⟩; (focus (intro wx hx; have hc := HCA.out wx hx; go_simp; done)); clear hK' K') | (refine ⟨.int .u8 (vb : Int), ?_, hK' _ ?_⟩; (focus (intro wx hx; have hc := HCB.out wx hx; go_simp; done)); clear hK' K'))
  refine wpQuiet_nil ?_
  intro w5 hb5
  go_wp2_with (go_at_call 16; (with_reducible refine (l_shown _).mono ?_); rintro e w6 ⟨rfl, hb6⟩)
  go_ret
  exact ⟨rfl, (hb4.trans (hb5.mono hb4.size)).trans (hb6.mono (by have := hb4.size; have := hb5.size; omega))⟩

set_option maxRecDepth 100000 in
theorem lifted (os : Os) (started : os.Started) (H : Type) (enc : TypeId × Value → H) :
    ReturnsInHanded {} Try.checked os 4 .any (Rows.cipherBoxSpec.pre6 enc Try.prog Try.f4 Rows.cipherBoxRow.domain false) (Rows.cipherBoxSpec.post enc Try.prog Try.f4 false true false false) := by
  refine returnsInHanded_of_change (C := Try.checked) own started (by kernel_rfl) Try.func4
    (ChangeSpec.witness6 (enc := enc) (C := Try.checked) false ⟨#[], #[.int .u8 0, .int .u8 0], []⟩ 8 (by kernel_rfl) (by kernel_rfl) (by kernel_rfl) (by kernel_rfl)) ?_
  intro W base args ds gs before hval0 hW hcnd _
  have hval : ∀ (j : Nat) t v, Try.f4.params[j]? = some t → args[j]? = some v → Value.okWide Try.prog W .any base t v := hval0
  have hW' := hW
  obtain ⟨p, q, hA0, hV, rfl, hfz, hnd⟩ := hW
  have hA : DataW.TrodAll enc Try.prog W 0 (fun _ => true) true Try.f4.params.toList args.toList ds p := hA0
  rw [Try.params4] at hA hval
  obtain ⟨v0, vs0, d0, ds0, p0, q0, hargs, rfl, rfl, h0, r0⟩ := trodAll_cons hA
  obtain ⟨v1, vs1, d1, ds1, p1, q1, rfl, rfl, rfl, h1, r1⟩ := trodAll_cons r0
  obtain ⟨rfl, rfl, rfl⟩ := trodAll_nil r1
  obtain rfl : args = #[v0, v1] := by cases args; simp_all
  obtain ⟨rfl, rfl⟩ := trodVars_none hV
  obtain ⟨a0, rfl, rfl, rfl, w0⟩ := open_int Try.underlying5 (hval 0 5 v0 rfl rfl) h0
  obtain ⟨a1, rfl, rfl, rfl, w1⟩ := open_int Try.underlying5 (hval 1 5 v1 rfl rfl) h1
  clear hA0 hval0
  simp only [List.append_nil] at hW'
  refine (walk a0 a1 w0 w1 W).mono fun e W' ⟨he, bel⟩ => ?_
  subst he
  exact ⟨_, rfl, _, _, _, [], _, [], hW', trodAll_mk1 (shut_bool Try.underlying4 _), (trodAll_cons_mk (shut_int Try.underlying5 w0) (trodAll_cons_mk (shut_int Try.underlying5 w1) trodAll_mk0)), rfl, bel.frame _, fun h => by cases h⟩

theorem over : Rows.cipherBoxRow.holds Try.pinned (OpenSpec.ofChange Rows.cipherBoxSpec) :=
  OpenClaim.holds_of_wide 4 Try.f4 rfl rfl rfl rfl rfl rfl rfl ⟨rfl, rfl, rfl, rfl, rfl⟩ rfl rfl rfl rfl rfl (by kernel_rfl) Try.func4 (by kernel_rfl)
    (of_decide_eq_true (by kernel_rfl)) (by unfold Func.isWrapper; first | (rw [if_pos (by decide +kernel)]; kernel_rfl) | (rw [if_neg (by decide +kernel)]; exact ⟨rfl, rfl⟩))
    (fun os started H enc _ => lifted os started H enc)

theorem proved : Rows.CipherBoxSaid :=
  over
#print axioms proved
end Go.Proofs.Ythnmkniimokdiaa.cipherBox
