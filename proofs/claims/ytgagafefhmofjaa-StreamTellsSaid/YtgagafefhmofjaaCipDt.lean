/- Walk of the reference's Table. -/
import Derived.Test.YtgagafefhmofjaaCipB
namespace Go.Proofs.Ytgagafefhmofjaa
open Go.RowKit
set_option linter.unusedVariables false

section
variable {P : Program} {ops : Array Oper} {rest : List Oper} {o : Oper} {a : Act} {w : World} {Q : Exit → Act → World → Prop}
/-- an array literal -/
theorem wpList_build_at (hgd : o.guard = none) (t : TypeId) (parts : Array (Nat × Operand)) (ho : o.op = .build t parts) (v : Value) (hrun : (Instr.build t (parts.map fun (i, x) => (i, a.eval x))).run P w = .ok v w)
    (h : wpList P ops Q rest (a.put o.dst v) w) : wpList P ops Q (o :: rest) a w :=
  wpList_plain hgd fun _ hK => by
    unfold Oper.wp execOp
    simp only [ho, Sem.run_bind, hrun, Result.andThen_ok]
    exact hK _ _ h
end
set_option maxHeartbeats 2000000 in
set_option maxRecDepth 100000 in
theorem r_Table (w : World) :
    Calls Try.prog 29 #[] w fun e w' => e = .returned (.agg (ints .u8 (nn boxT)).toArray) ∧ Below w.heap.size w w' := by
  have hz := Blk.new' w 55 (ints .u8 (nn (List.replicate 256 0))) rfl
  have hB := boxT_len
  have HB := Lib.hid hB
  clear hB
  go_enter Try.func29, Try.ntmps29
  go_wp2_with (first | (refine wpList_alloc_at rfl 55 rfl _ _ (alloc_p256 _) ?_) | (refine wpList_build_at rfl 55 _ rfl (.agg (ints .u8 (nn boxT)).toArray) (by kernel_rfl) ?_) | (refine wpList_store_blk rfl 55 _ _ rfl w.heap.size (ints .u8 (nn boxT)) rfl rfl hz (by rw [size_p256, ints_length, nn_length, HB.out]) (by rw [ints_length, ints_length, nn_length, nn_length, HB.out]; rfl) (ints_one _ _) ?_))
  exact bodyPost_ret (v := .agg (ints .u8 (nn boxT)).toArray) (results_cell_blk rfl _ _ _ rfl (hz.row (ints .u8 (nn boxT)) (by rw [ints_length, ints_length, nn_length, nn_length, HB.out]; rfl)) Try.underlying55 rfl (by rw [size_p256, ints_length, nn_length, HB.out])) rfl ⟨rfl, below_setRow ((Below.refl _ _).alloc (Nat.le_refl _) _) (Nat.le_refl _) _⟩
end Go.Proofs.Ytgagafefhmofjaa
