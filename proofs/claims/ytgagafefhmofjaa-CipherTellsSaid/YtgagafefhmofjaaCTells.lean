/-
  For all keys, all round keys and blocks, and all pairs of bytes: the round keys, the block made unreadable, and the product are the document's. No condition.
-/
import Derived.Test.YtgagafefhmofjaaRows
import Derived.Test.YtgagafefhmofjaaCipQ
import Derived.Test.YtgagafefhmofjaaOpen
import Derived.Test.YtgagafefhmofjaaEql
import Derived.Test.YtgagafefhmofjaaQTail
import Derived.OpenShut
namespace Go.Proofs.Ytgagafefhmofjaa.cipherTells
open Go.ChangeShapes Go.WideShapes Go.ChangeAt Go.RowKit
set_option linter.unusedVariables false

theorem cells_b16 : Try.prog.cellsOf 28 = 16 := by kernel_rfl
theorem cells_h32 : Try.prog.cellsOf 23 = 32 := by kernel_rfl
theorem cells_k60 : Try.prog.cellsOf 26 = 60 := by kernel_rfl
theorem sizeOf_u8 (w : World) : (sizeOf 5).run Try.prog w = .ok 1 w := by kernel_rfl
theorem sizeOf_u32 (w : World) : (sizeOf 24).run Try.prog w = .ok 1 w := by kernel_rfl
theorem nat_u8 (x : Int) (h : (Lit.int .u8 x).wf = true) : ∃ n : Nat, x = (n : Int) ∧ n < 256 := by
  have := bounds_u8 h
  exact ⟨x.toNat, by omega, by omega⟩

set_option maxHeartbeats 2000000 in
set_option maxRecDepth 100000 in
theorem walk (l0 l1 l2 : List Nat) (x y : Int) (n0 : l0.length = 32) (o0 : Bys l0) (n1 : l1.length = 60) (o1 : Words l1) (n2 : l2.length = 16) (o2 : Bys l2) (n3 : (Lit.int .u8 x).wf = true) (n4 : (Lit.int .u8 y).wf = true) (w : World) :
    Calls Try.prog 3 #[.agg (ints .u8 (nn l0)).toArray, .agg (ints .u32 (nn l1)).toArray, .agg (ints .u8 (nn l2)).toArray, .int .u8 x, .int .u8 y] w fun e w' => e = .returned (.bool true) ∧ Below w.heap.size w w' := by
  obtain ⟨a, rfl, ha⟩ := nat_u8 x n3
  obtain ⟨b, rfl, hb⟩ := nat_u8 y n4
  clear n3 n4
  have hX := fun w => c_Expand l0 w n0 o0
  have hY := fun w => r_Expand l0 w n0 o0
  have hE := fun w => c_Encrypt l1 l2 w n1 o1 n2 o2
  have hF := fun w => r_Encrypt l1 l2 w n1 o1 n2 o2
  have hT := fun w => c_Times a b w ha hb
  have hU := fun w => r_Times a b w ha hb
  have lX := expandL_len l0
  have lE : (encL l1 l2).length = 16 := (encN_len _ _ _).trans n2
  have eK := fun w => run_eql_ints (P := Try.prog) w 26 24 60 .u32 Try.underlying26 Try.underlying24 sizeOf_u32 (nn (expandL l0)) (nn (expandL l0)) (by rw [nn_length, lX]) (by rw [nn_length, lX])
  have eB := fun w => run_eql_ints (P := Try.prog) w 28 5 16 .u8 Try.underlying28 Try.underlying5 sizeOf_u8 (nn (encL l1 l2)) (nn (encL l1 l2)) (by rw [nn_length, lE]) (by rw [nn_length, lE])
  rw [show (nn (expandL l0) == nn (expandL l0)) = true by simp] at eK
  rw [show (nn (encL l1 l2) == nn (encL l1 l2)) = true by simp] at eB
  generalize expandL l0 = X at *
  generalize encL l1 l2 = E at *
  generalize mul a b = M at *
  have HL0 := Lib.hid n0
  have HL1 := Lib.hid n1
  have HL2 := Lib.hid n2
  have k0 : Blk (((w.alloc (.cells (ints .u8 (nn l0)).toArray 23)).alloc (.cells (ints .u32 (nn l1)).toArray 26)).alloc (.cells (ints .u8 (nn l2)).toArray 28)) w.heap.size 23 (ints .u8 (nn l0)) := ((Blk.new _ _ _).alloc _).alloc _
  have k1 : Blk (((w.alloc (.cells (ints .u8 (nn l0)).toArray 23)).alloc (.cells (ints .u32 (nn l1)).toArray 26)).alloc (.cells (ints .u8 (nn l2)).toArray 28)) (w.heap.size + 1) 26 (ints .u32 (nn l1)) := (Blk.new2 _ _ _ _ rfl).alloc _
  have k2 : Blk (((w.alloc (.cells (ints .u8 (nn l0)).toArray 23)).alloc (.cells (ints .u32 (nn l1)).toArray 26)).alloc (.cells (ints .u8 (nn l2)).toArray 28)) (w.heap.size + 1 + 1) 28 (ints .u8 (nn l2)) := by
    have := Blk.new2 (w.alloc (.cells (ints .u8 (nn l0)).toArray 23)) (.cells (ints .u32 (nn l1)).toArray 26) 28 (ints .u8 (nn l2)) rfl
    rw [World.size_alloc] at this
    exact this
  have kb : Below w.heap.size w (((w.alloc (.cells (ints .u8 (nn l0)).toArray 23)).alloc (.cells (ints .u32 (nn l1)).toArray 26)).alloc (.cells (ints .u8 (nn l2)).toArray 28)) := (((Below.refl _ _).alloc (Nat.le_refl _) _).alloc (by simp) _).alloc (by simp; omega) _
  clear n0 n1 n2 o0 o1 o2 lX lE ha hb
  go_enter Try.func3, Try.ntmps3
  go_wp2_with fail
  generalize World.alloc (World.alloc (World.alloc w _) _) _ = w4 at *
  have hQ0 : ∀ wx, NewBut w4 wx → wx.rangeAt w.heap.size 0 (ints .u8 (nn l0)) := fun wx h => (k0.below h k0.lt).whole
  have hQ1 : ∀ wx, NewBut w4 wx → wx.rangeAt (w.heap.size + 1) 0 (ints .u32 (nn l1)) := fun wx h => (k1.below h k1.lt).whole
  have hQ2 : ∀ wx, NewBut w4 wx → wx.rangeAt (w.heap.size + 1 + 1) 0 (ints .u8 (nn l2)) := fun wx h => (k2.below h k2.lt).whole
  have HQ0 := Lib.hid hQ0
  have HQ1 := Lib.hid hQ1
  have HQ2 := Lib.hid hQ2
  clear hQ0 hQ1 hQ2 k0 k1 k2
  have hX' : ∀ wx, NewBut w4 wx → Calls Try.prog 10 #[.agg (ints .u8 (nn l0)).toArray] wx fun e w' => e = .returned (.agg (ints .u32 (nn X)).toArray) ∧ NewBut w4 w' := fun wx h =>
    (hX wx).mono fun _ _ ⟨q1, q2⟩ => ⟨q1, h.trans (q2.mono h.size)⟩
  have HX := Lib.hid hX'
  clear hX'
  have hY' : ∀ wx, NewBut w4 wx → Calls Try.prog 11 #[.agg (ints .u8 (nn l0)).toArray] wx fun e w' => e = .returned (.agg (ints .u32 (nn X)).toArray) ∧ NewBut w4 w' := fun wx h =>
    (hY wx).mono fun _ _ ⟨q1, q2⟩ => ⟨q1, h.trans (q2.mono h.size)⟩
  have HY := Lib.hid hY'
  clear hY'
  have hE' : ∀ wx, NewBut w4 wx → Calls Try.prog 12 #[.agg (ints .u32 (nn l1)).toArray, .agg (ints .u8 (nn l2)).toArray] wx fun e w' => e = .returned (.agg (ints .u8 (nn E)).toArray) ∧ NewBut w4 w' := fun wx h =>
    (hE wx).mono fun _ _ ⟨q1, q2⟩ => ⟨q1, h.trans (q2.mono h.size)⟩
  have HE := Lib.hid hE'
  clear hE'
  have hF' : ∀ wx, NewBut w4 wx → Calls Try.prog 13 #[.agg (ints .u32 (nn l1)).toArray, .agg (ints .u8 (nn l2)).toArray] wx fun e w' => e = .returned (.agg (ints .u8 (nn E)).toArray) ∧ NewBut w4 w' := fun wx h =>
    (hF wx).mono fun _ _ ⟨q1, q2⟩ => ⟨q1, h.trans (q2.mono h.size)⟩
  have HF := Lib.hid hF'
  clear hF'
  have hT' : ∀ wx, NewBut w4 wx → Calls Try.prog 14 #[.int .u8 (a : Int), .int .u8 (b : Int)] wx fun e w' => e = .returned (.int .u8 (M : Nat)) ∧ NewBut w4 w' := fun wx h =>
    (hT wx).mono fun _ _ ⟨q1, q2⟩ => ⟨q1, q2 ▸ h⟩
  have HT := Lib.hid hT'
  clear hT'
  have hU' : ∀ wx, NewBut w4 wx → Calls Try.prog 15 #[.int .u8 (a : Int), .int .u8 (b : Int)] wx fun e w' => e = .returned (.int .u8 (M : Nat)) ∧ NewBut w4 w' := fun wx h =>
    (hU wx).mono fun _ _ ⟨q1, q2⟩ => ⟨q1, q2 ▸ h⟩
  have HU := Lib.hid hU'
  clear hU'
  clear hX hY hE hF hT hU
  refine region_quiet_tail (C := NewBut w4) 24 mixed (by kernel_rfl) (show Below _ _ _ from (Below.refl _ _).drew) ?_
  simp only [List.take_succ_cons, List.take_zero, List.drop_succ_cons, List.drop_zero]
  repeat (first | (refine wpQuiet_load_row rfl 23 _ rfl w.heap.size 0 rfl (ints .u8 (nn l0)) (fun wx h => HQ0.out wx h) Try.underlying23 rfl (by rw [size_hash, ints_length, nn_length, HL0.out]) ?_) | (refine wpQuiet_load_row rfl 26 _ rfl (w.heap.size + 1) 0 rfl (ints .u32 (nn l1)) (fun wx h => HQ1.out wx h) Try.underlying26 rfl (by rw [size_k60, ints_length, nn_length, HL1.out]) ?_) | (refine wpQuiet_load_row rfl 28 _ rfl (w.heap.size + 1 + 1) 0 rfl (ints .u8 (nn l2)) (fun wx h => HQ2.out wx h) Try.underlying28 rfl (by rw [size_b16, ints_length, nn_length, HL2.out]) ?_) | (refine wpQuiet_step (fun K' hK' => ?_); go_simp; first | (refine ⟨_, fun _ _ => rfl, hK' _ ?_⟩; clear hK' K') | ((with_reducible refine ⟨_, fun wx hx => HX.out wx hx, hK' _ ?_⟩); clear hK' K') | ((with_reducible refine ⟨_, fun wx hx => HY.out wx hx, hK' _ ?_⟩); clear hK' K') | ((with_reducible refine ⟨_, fun wx hx => HE.out wx hx, hK' _ ?_⟩); clear hK' K') | ((with_reducible refine ⟨_, fun wx hx => HF.out wx hx, hK' _ ?_⟩); clear hK' K') | ((with_reducible refine ⟨_, fun wx hx => HT.out wx hx, hK' _ ?_⟩); clear hK' K') | ((with_reducible refine ⟨_, fun wx hx => HU.out wx hx, hK' _ ?_⟩); clear hK' K')))
  refine wpQuiet_nil ?_
  intro w7 hb7
  go_wp2_with (go_at_call 16; (with_reducible refine (l_shown _).mono ?_); rintro e w8 ⟨rfl, hb8⟩)
  go_ret
  exact ⟨rfl, (kb.trans (hb7.mono kb.size)).trans (hb8.mono (by have := kb.size; have := hb7.size; omega))⟩

set_option maxRecDepth 100000 in
theorem lifted (os : Os) (started : os.Started) (H : Type) (enc : TypeId × Value → H) :
    ReturnsInHanded {} Try.checked os 3 .any (Rows.cipherTellsSpec.pre6 enc Try.prog Try.f3 Rows.cipherTellsRow.domain false) (Rows.cipherTellsSpec.post enc Try.prog Try.f3 false true false false) := by
  refine returnsInHanded_of_change (C := Try.checked) own started (by kernel_rfl) Try.func3
    (ChangeSpec.witness6 (enc := enc) (C := Try.checked) false ⟨#[], #[.agg (ints .u8 (List.replicate 32 0)).toArray, .agg (ints .u32 (List.replicate 60 0)).toArray, .agg (ints .u8 (List.replicate 16 0)).toArray, .int .u8 0, .int .u8 0], []⟩ 8 (by kernel_rfl) (by kernel_rfl) (by kernel_rfl) (by kernel_rfl)) ?_
  intro W base args ds gs before hval0 hW hcnd _
  have hval : ∀ (j : Nat) t v, Try.f3.params[j]? = some t → args[j]? = some v → Value.okWide Try.prog W .any base t v := hval0
  have hW' := hW
  obtain ⟨p, q, hA0, hV, rfl, hfz, hnd⟩ := hW
  have hA : DataW.TrodAll enc Try.prog W 0 (fun _ => true) true Try.f3.params.toList args.toList ds p := hA0
  rw [Try.params3] at hA hval
  obtain ⟨v0, vs0, d0, ds0, p0, q0, hargs, rfl, rfl, h0, r0⟩ := trodAll_cons hA
  obtain ⟨v1, vs1, d1, ds1, p1, q1, rfl, rfl, rfl, h1, r1⟩ := trodAll_cons r0
  obtain ⟨v2, vs2, d2, ds2, p2, q2, rfl, rfl, rfl, h2, r2⟩ := trodAll_cons r1
  obtain ⟨v3, vs3, d3, ds3, p3, q3, rfl, rfl, rfl, h3, r3⟩ := trodAll_cons r2
  obtain ⟨v4, vs4, d4, ds4, p4, q4, rfl, rfl, rfl, h4, r4⟩ := trodAll_cons r3
  obtain ⟨rfl, rfl, rfl⟩ := trodAll_nil r4
  obtain rfl : args = #[v0, v1, v2, v3, v4] := by cases args; simp_all
  obtain ⟨rfl, rfl⟩ := trodVars_none hV
  have k0 := h0
  have lt0 : ∀ x ∈ p0, x.block < W.heap.size := by obtain ⟨m, hm⟩ := k0; exact DataW.trod_lt m _ _ _ hm
  obtain ⟨cs0, hcs0, _, _⟩ : ∃ cs, v0 = .agg cs ∧ cs.size = Try.prog.cellsOf 23 ∧ Row.okWide Try.prog W .any base 23 cs := by
    have := hval 0 23 v0 rfl rfl
    simpa [Value.okWide, Try.underlying23] using this
  obtain ⟨l0, hl0, n0, o0⟩ := open_bys Try.underlying23 Try.underlying5 cells_u8 cells_h32 cs0 hcs0 h0
  have k1 := h1
  have lt1 : ∀ x ∈ p1, x.block < W.heap.size := by obtain ⟨m, hm⟩ := k1; exact DataW.trod_lt m _ _ _ hm
  obtain ⟨cs1, hcs1, _, _⟩ : ∃ cs, v1 = .agg cs ∧ cs.size = Try.prog.cellsOf 26 ∧ Row.okWide Try.prog W .any base 26 cs := by
    have := hval 1 26 v1 rfl rfl
    simpa [Value.okWide, Try.underlying26] using this
  obtain ⟨l1, hl1, n1, o1⟩ := open_words Try.underlying26 Try.underlying24 cells_u32 cells_k60 cs1 hcs1 h1
  have k2 := h2
  have lt2 : ∀ x ∈ p2, x.block < W.heap.size := by obtain ⟨m, hm⟩ := k2; exact DataW.trod_lt m _ _ _ hm
  obtain ⟨cs2, hcs2, _, _⟩ : ∃ cs, v2 = .agg cs ∧ cs.size = Try.prog.cellsOf 28 ∧ Row.okWide Try.prog W .any base 28 cs := by
    have := hval 2 28 v2 rfl rfl
    simpa [Value.okWide, Try.underlying28] using this
  obtain ⟨l2, hl2, n2, o2⟩ := open_bys Try.underlying28 Try.underlying5 cells_u8 cells_b16 cs2 hcs2 h2
  obtain ⟨l3, rfl, rfl, rfl, n3⟩ := open_int Try.underlying5 (hval 3 5 v3 rfl rfl) h3
  obtain ⟨l4, rfl, rfl, rfl, n4⟩ := open_int Try.underlying5 (hval 4 5 v4 rfl rfl) h4
  clear hcs0
  subst hl0
  clear hcs1
  subst hl1
  clear hcs2
  subst hl2
  clear hA0 hval0
  simp only [List.append_nil] at hW'
  refine (walk l0 l1 l2 l3 l4 n0 o0 n1 o1 n2 o2 n3 n4 W).mono fun e W' ⟨he, bel⟩ => ?_
  subst he
  exact ⟨_, rfl, _, _, _, [], _, [], hW', trodAll_mk1 (shut_bool Try.underlying4 _), (trodAll_cons_mk (Below.trod laidOut (by kernel_rfl) (of_decide_eq_true (by kernel_rfl)) k0 bel lt0) (trodAll_cons_mk (Below.trod laidOut (by kernel_rfl) (of_decide_eq_true (by kernel_rfl)) k1 bel lt1) (trodAll_cons_mk (Below.trod laidOut (by kernel_rfl) (of_decide_eq_true (by kernel_rfl)) k2 bel lt2) (trodAll_cons_mk (shut_int Try.underlying5 n3) (trodAll_cons_mk (shut_int Try.underlying5 n4) trodAll_mk0))))), rfl, bel.frame _, fun h => by cases h⟩

theorem over : Rows.cipherTellsRow.holds Try.pinned (OpenSpec.ofChange Rows.cipherTellsSpec) :=
  OpenClaim.holds_of_wide 3 Try.f3 rfl rfl rfl rfl rfl rfl rfl ⟨rfl, rfl, rfl, rfl, rfl⟩ rfl rfl rfl rfl rfl (by kernel_rfl) Try.func3 (by kernel_rfl)
    (of_decide_eq_true (by kernel_rfl)) (by unfold Func.isWrapper; first | (rw [if_pos (by decide +kernel)]; kernel_rfl) | (rw [if_neg (by decide +kernel)]; exact ⟨rfl, rfl⟩))
    (fun os started H enc _ => lifted os started H enc)

theorem proved : Rows.CipherTellsSaid :=
  over
#print axioms proved
end Go.Proofs.Ytgagafefhmofjaa.cipherTells
