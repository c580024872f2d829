/- Walks of the reference's At, Table. -/
import Derived.Test.YthnmkniimokdiaaCipC
namespace Go.Proofs.Ythnmkniimokdiaa
open Go.RowKit
set_option linter.unusedVariables false

theorem affine_ref (n : Nat) : n ^^^ rotl8 n 1 ^^^ rotl8 n 2 ^^^ rotl8 n 3 ^^^ rotl8 n 4 ^^^ 99 = affine n := by
  unfold affine
  rw [Nat.xor_comm _ 99]
  simp only [Nat.xor_assoc]
set_option maxHeartbeats 1000000 in
set_option maxRecDepth 100000 in
theorem r_At (a : Nat) (w : World) (ha : a < 256) :
    Calls Try.prog 18 #[.int .u8 (a : Int)] w fun e w' => e = .returned (.int .u8 (boxG a : Nat)) ∧ ∃ n, w' = w.drewN n := by
  have hs : affine (inv a) = boxG a := sbox_table ha
  rw [← affine_ref] at hs
  have hp := inv_lt ha
  have h0 : a = 0 → inv a = 0 := fun e => by rw [e, inv_zero]
  have hI := fun w => r_inverse a w ha
  have t1 : ∀ w, Calls Try.prog 34 #[.int .u8 (inv a : Nat), .int .i64 1] w fun e w' => e = .returned (.int .u8 (rotl8 (inv a) 1 : Nat)) ∧ ∃ n, w' = w.drewN n := fun w => r_left (inv a) 1 w hp (by omega) (by omega)
  have t2 : ∀ w, Calls Try.prog 34 #[.int .u8 (inv a : Nat), .int .i64 2] w fun e w' => e = .returned (.int .u8 (rotl8 (inv a) 2 : Nat)) ∧ ∃ n, w' = w.drewN n := fun w => r_left (inv a) 2 w hp (by omega) (by omega)
  have t3 : ∀ w, Calls Try.prog 34 #[.int .u8 (inv a : Nat), .int .i64 3] w fun e w' => e = .returned (.int .u8 (rotl8 (inv a) 3 : Nat)) ∧ ∃ n, w' = w.drewN n := fun w => r_left (inv a) 3 w hp (by omega) (by omega)
  have t4 : ∀ w, Calls Try.prog 34 #[.int .u8 (inv a : Nat), .int .i64 4] w fun e w' => e = .returned (.int .u8 (rotl8 (inv a) 4 : Nat)) ∧ ∃ n, w' = w.drewN n := fun w => r_left (inv a) 4 w hp (by omega) (by omega)
  have r1 := rotl8_lt (inv a) 1 hp (by omega)
  have r2 := rotl8_lt (inv a) 2 hp (by omega)
  have r3 := rotl8_lt (inv a) 3 hp (by omega)
  have r4 := rotl8_lt (inv a) 4 hp (by omega)
  have x1 := xor_byte _ _ hp r1
  have l1 := xor_lt hp r1
  have x2 := xor_byte _ _ l1 r2
  have l2 := xor_lt l1 r2
  have x3 := xor_byte _ _ l2 r3
  have l3 := xor_lt l2 r3
  have x4 := xor_byte _ _ l3 r4
  have l4 := xor_lt l3 r4
  have x5 : bits .xor .u8 ((inv a ^^^ rotl8 (inv a) 1 ^^^ rotl8 (inv a) 2 ^^^ rotl8 (inv a) 3 ^^^ rotl8 (inv a) 4 : Nat) : Int) 99 = ((inv a ^^^ rotl8 (inv a) 1 ^^^ rotl8 (inv a) 2 ^^^ rotl8 (inv a) 3 ^^^ rotl8 (inv a) 4 ^^^ 99 : Nat) : Int) := xor_byte _ 99 l4 (by omega)
  rw [hs] at x5
  clear hs l1 l2 l3 l4 r1 r2 r3 r4
  generalize inv a ^^^ rotl8 (inv a) 1 ^^^ rotl8 (inv a) 2 ^^^ rotl8 (inv a) 3 ^^^ rotl8 (inv a) 4 = S4 at *
  generalize inv a ^^^ rotl8 (inv a) 1 ^^^ rotl8 (inv a) 2 ^^^ rotl8 (inv a) 3 = S3 at *
  generalize inv a ^^^ rotl8 (inv a) 1 ^^^ rotl8 (inv a) 2 = S2 at *
  generalize inv a ^^^ rotl8 (inv a) 1 = S1 at *
  generalize rotl8 (inv a) 1 = R1 at *
  generalize rotl8 (inv a) 2 = R2 at *
  generalize rotl8 (inv a) 3 = R3 at *
  generalize rotl8 (inv a) 4 = R4 at *
  generalize inv a = n at *
  generalize boxG a = B at *
  have HI := Lib.hid hI
  have T1 := Lib.hid t1
  have T2 := Lib.hid t2
  have T3 := Lib.hid t3
  have T4 := Lib.hid t4
  clear hI t1 t2 t3 t4
  by_cases hz : a = 0
  · have hn := h0 hz
    subst hn
    have Z1 : ∀ w, Calls Try.prog 34 #[.int .u8 0, .int .i64 1] w fun e w' => e = .returned (.int .u8 (R1 : Nat)) ∧ ∃ n, w' = w.drewN n := T1.out
    have Y1 := Lib.hid Z1
    clear Z1 T1
    have Z2 : ∀ w, Calls Try.prog 34 #[.int .u8 0, .int .i64 2] w fun e w' => e = .returned (.int .u8 (R2 : Nat)) ∧ ∃ n, w' = w.drewN n := T2.out
    have Y2 := Lib.hid Z2
    clear Z2 T2
    have Z3 : ∀ w, Calls Try.prog 34 #[.int .u8 0, .int .i64 3] w fun e w' => e = .returned (.int .u8 (R3 : Nat)) ∧ ∃ n, w' = w.drewN n := T3.out
    have Y3 := Lib.hid Z3
    clear Z3 T3
    have Z4 : ∀ w, Calls Try.prog 34 #[.int .u8 0, .int .i64 4] w fun e w' => e = .returned (.int .u8 (R4 : Nat)) ∧ ∃ n, w' = w.drewN n := T4.out
    have Y4 := Lib.hid Z4
    clear Z4 T4
    have x0 : bits .xor .u8 0 (R1 : Int) = (S1 : Int) := x1
    clear x1
    have hle' : ((a : Int) != 0) = false := by simp; omega
    clear h0 hz
    go_enter Try.func18, Try.ntmps18
    go_wp2_with (first | (go_at_call 34; (with_reducible refine (Y1.out _).mono ?_); rintro e w' ⟨rfl, q1, rfl⟩) | (go_at_call 34; (with_reducible refine (Y2.out _).mono ?_); rintro e w' ⟨rfl, q2, rfl⟩) | (go_at_call 34; (with_reducible refine (Y3.out _).mono ?_); rintro e w' ⟨rfl, q3, rfl⟩) | (go_at_call 34; (with_reducible refine (Y4.out _).mono ?_); rintro e w' ⟨rfl, q4, rfl⟩))
    go_ret
    exact ⟨rfl, _, rfl⟩
  · have hle : ((a : Int) != 0) = true := by simp; omega
    clear h0 hz
    go_enter Try.func18, Try.ntmps18
    go_wp2_with (first | (go_at_call 33; (with_reducible refine (HI.out _).mono ?_); rintro e w' ⟨rfl, rfl⟩) | (go_at_call 34; (with_reducible refine (T1.out _).mono ?_); rintro e w' ⟨rfl, q1, rfl⟩) | (go_at_call 34; (with_reducible refine (T2.out _).mono ?_); rintro e w' ⟨rfl, q2, rfl⟩) | (go_at_call 34; (with_reducible refine (T3.out _).mono ?_); rintro e w' ⟨rfl, q3, rfl⟩) | (go_at_call 34; (with_reducible refine (T4.out _).mono ?_); rintro e w' ⟨rfl, q4, rfl⟩))
    go_ret
    exact ⟨rfl, _, rfl⟩

section
variable {P : Program} {ops : Array Oper} {rest : List Oper} {o : Oper} {a : Act} {w : World} {Q : Exit → Act → World → Prop}
/-- an array literal -/
theorem wpList_build_at (hgd : o.guard = none) (t : TypeId) (parts : Array (Nat × Operand)) (ho : o.op = .build t parts) (v : Value) (hrun : (Instr.build t (parts.map fun (i, x) => (i, a.eval x))).run P w = .ok v w)
    (h : wpList P ops Q rest (a.put o.dst v) w) : wpList P ops Q (o :: rest) a w :=
  wpList_plain hgd fun _ hK => by
    unfold Oper.wp execOp
    simp only [ho, Sem.run_bind, hrun, Result.andThen_ok]
    exact hK _ _ h
end
set_option maxHeartbeats 2000000 in
set_option maxRecDepth 100000 in
theorem r_Table (w : World) :
    Calls Try.prog 19 #[] w fun e w' => e = .returned (.agg (ints .u8 (nn boxT)).toArray) ∧ Below w.heap.size w w' := by
  have hz := Blk.new' w 38 (ints .u8 (nn (List.replicate 256 0))) rfl
  have hB := boxT_len
  have HB := Lib.hid hB
  clear hB
  go_enter Try.func19, Try.ntmps19
  go_wp2_with (first | (refine wpList_alloc_at rfl 38 rfl _ _ (alloc_p256 _) ?_) | (refine wpList_build_at rfl 38 _ rfl (.agg (ints .u8 (nn boxT)).toArray) (by kernel_rfl) ?_) | (refine wpList_store_blk rfl 38 _ _ rfl w.heap.size (ints .u8 (nn boxT)) rfl rfl hz (by rw [size_p256, ints_length, nn_length, HB.out]) (by rw [ints_length, ints_length, nn_length, nn_length, HB.out]; rfl) (ints_one _ _) ?_))
  exact bodyPost_ret (v := .agg (ints .u8 (nn boxT)).toArray) (results_cell_blk rfl _ _ _ rfl (hz.row (ints .u8 (nn boxT)) (by rw [ints_length, ints_length, nn_length, nn_length, HB.out]; rfl)) Try.underlying38 rfl (by rw [size_p256, ints_length, nn_length, HB.out])) rfl ⟨rfl, below_setRow ((Below.refl _ _).alloc (Nat.le_refl _) _) (Nat.le_refl _) _⟩
end Go.Proofs.Ythnmkniimokdiaa
