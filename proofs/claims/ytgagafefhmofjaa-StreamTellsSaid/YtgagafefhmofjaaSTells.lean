/-
  For all keys, nonces, texts and numbers: the block behind, the text made unreadable and the pad are the document's; longer texts than the bound are answered by the anchor alone. No condition.
-/
import Derived.Test.YtgagafefhmofjaaRows
import Derived.Test.YtgagafefhmofjaaSStr
import Derived.Test.YtgagafefhmofjaaSRApply
import Derived.Test.YtgagafefhmofjaaQTail
import Derived.ShutString
import Derived.ChangeOld
namespace Go.Proofs.Ytgagafefhmofjaa.streamTells
open Go.ChangeShapes Go.WideShapes Go.ChangeAt Go.RowKit
open Go.ChangeMaps (open_string shut_string)
set_option linter.unusedVariables false

set_option maxHeartbeats 2000000 in
set_option maxRecDepth 100000 in
theorem walk (l0 l1 : List Nat) (s : ByteArray) (z0 : Int) (n0 : l0.length = 32) (o0 : Bys l0) (n1 : l1.length = 16) (o1 : Bys l1) (n2 : s.size ≤ maxLen) (n3 : (Lit.int .u64 z0).wf = true) (w : World) :
    Calls Try.prog 4 #[.agg (ints .u8 (nn l0)).toArray, .agg (ints .u8 (nn l1)).toArray, .string s, .int .u64 z0] w fun e w' => e = .returned (.bool true) ∧ Below w.heap.size w w' := by
  obtain ⟨z, rfl, hz⟩ := nat_u64 z0 n3
  clear n3
  have hS := fun w => l3_shown w
  have HS := Lib.hid hS
  have k0 : Blk ((w.alloc (.cells (ints .u8 (nn l0)).toArray 23)).alloc (.cells (ints .u8 (nn l1)).toArray 28)) w.heap.size 23 (ints .u8 (nn l0)) := (Blk.new _ _ _).alloc _
  have k1 : Blk ((w.alloc (.cells (ints .u8 (nn l0)).toArray 23)).alloc (.cells (ints .u8 (nn l1)).toArray 28)) (w.heap.size + 1) 28 (ints .u8 (nn l1)) := Blk.new2 _ _ _ _ rfl
  have kb : Below w.heap.size w ((w.alloc (.cells (ints .u8 (nn l0)).toArray 23)).alloc (.cells (ints .u8 (nn l1)).toArray 28)) := ((Below.refl _ _).alloc (Nat.le_refl _) _).alloc (by simp) _
  clear hS
  by_cases h1 : 300 < s.size
  · have g1 : decide ((300 : Int) < (s.size : Int)) = true := by simp; omega
    go_enter Try.func4, Try.ntmps4
    go_wp2_with (go_at_call 17; (with_reducible refine (HS.out _).mono ?_); rintro e w1 ⟨rfl, hb1⟩)
    go_ret
    exact ⟨rfl, kb.trans (hb1.mono kb.size)⟩
  · have g1 : decide ((300 : Int) < (s.size : Int)) = false := by simp; omega
    have hA := fun w => s_Next l1 z w n1 o1 (by omega)
    have hB := fun w => r_Next l1 z w n1 o1 (by omega)
    have hC := fun w => s_Apply l0 l1 s w n0 o0 n1 o1 (by omega)
    have hD := fun w => r_Apply l0 l1 s w n0 o0 n1 o1 (by omega)
    have hE := fun w => s_Pad l0 l1 s.size w n0 o0 n1 o1 (by omega)
    have hF := fun w => r_Pad l0 l1 s.size w n0 o0 n1 o1 (by omega)
    have lX := nextL_len l1 z
    have e1 := fun w => eql_same (nextL l1 z) lX w
    generalize nextL l1 z = X at *
    generalize bs (nn (xrL (sl s) (padF l0 l1))) = T at *
    generalize bs (nn (padL l0 l1 s.size)) = P at *
    have HA := Lib.hid hA
    have HB := Lib.hid hB
    have HC := Lib.hid hC
    have HD := Lib.hid hD
    have HE := Lib.hid hE
    have HF := Lib.hid hF
    have HL0 := Lib.hid n0
    have HL1 := Lib.hid n1
    clear hA hB hC hD hE hF n0 n1 o0 o1 lX
    go_enter Try.func4, Try.ntmps4
    go_wp2_with (first | (go_at_call 17; (with_reducible refine (HS.out _).mono ?_); rintro e w4 ⟨rfl, hb1⟩; have i0 := k0.below hb1 k0.lt; have i1 := k1.below hb1 k1.lt; have ib := kb.trans (hb1.mono kb.size); have hz := Blk.new' w4 33 (ints .u8 (nn (zerN 16))) rfl; have hlz : (ints .u8 (nn l1)).length = (ints .u8 (nn (zerN 16))).length := (by rw [ints_length, ints_length, nn_length, nn_length, HL1.out, zerN_len])) | (refine wpList_load_blk rfl 28 _ rfl _ rfl i1 Try.underlying28 rfl (by rw [size_b16, ints_length, nn_length, HL1.out]) ?_) | (refine wpList_alloc_at rfl 33 rfl _ _ (alloc_r16 w4) ?_) | (refine wpList_store_blk rfl 33 _ _ rfl w4.heap.size (ints .u8 (nn l1)) rfl rfl hz (by rw [size_r16, ints_length, nn_length, HL1.out]) hlz.symm (ints_one _ _) ?_))
    clear k0 k1 kb hb1
    have l0t := i0.lt
    have l1t := i1.lt
    have j0 := (i0.alloc (.cells (ints .u8 (nn (zerN 16))).toArray 33)).rowOther (show w.heap.size ≠ w4.heap.size by omega) (ints .u8 (nn l1)).toArray
    have j1 := (i1.alloc (.cells (ints .u8 (nn (zerN 16))).toArray 33)).rowOther (show w.heap.size + 1 ≠ w4.heap.size by omega) (ints .u8 (nn l1)).toArray
    have j9 := hz.row (ints .u8 (nn l1)) hlz
    have jb := below_setRow (ib.alloc ib.size (.cells (ints .u8 (nn (zerN 16))).toArray 33)) ib.size (ints .u8 (nn l1)).toArray
    clear i0 i1 ib hz hlz l0t l1t
    generalize World.setRow _ _ _ = w5 at *
    generalize w4.heap.size = B9 at *
    have hQ0 : ∀ wx, NewBut w5 wx → wx.rangeAt w.heap.size 0 (ints .u8 (nn l0)) := fun wx h => (j0.below h j0.lt).whole
    have hQ1 : ∀ wx, NewBut w5 wx → wx.rangeAt (w.heap.size + 1) 0 (ints .u8 (nn l1)) := fun wx h => (j1.below h j1.lt).whole
    have hQ9 : ∀ wx, NewBut w5 wx → wx.rangeAt B9 0 (ints .u8 (nn l1)) := fun wx h => (j9.below h j9.lt).whole
    have HQ0 := Lib.hid hQ0
    have HQ1 := Lib.hid hQ1
    have HQ9 := Lib.hid hQ9
    clear hQ0 hQ1 hQ9 j0 j1 j9
    have hA' : ∀ wx, NewBut w5 wx → Calls Try.prog 18 #[(.agg (ints .u8 (nn l1)).toArray), .int .u64 (z : Int)] wx fun e w' => e = .returned (.agg (ints .u8 (nn X)).toArray) ∧ NewBut w5 w' := fun wx h =>
      (HA.out wx).mono fun _ _ ⟨q1, q2⟩ => ⟨q1, h.trans (q2.mono h.size)⟩
    have HA' := Lib.hid hA'
    clear hA'
    have hB' : ∀ wx, NewBut w5 wx → Calls Try.prog 19 #[(.agg (ints .u8 (nn l1)).toArray), .int .u64 (z : Int)] wx fun e w' => e = .returned (.agg (ints .u8 (nn X)).toArray) ∧ NewBut w5 w' := fun wx h =>
      (HB.out wx).mono fun _ _ ⟨q1, q2⟩ => ⟨q1, h.trans (q2.mono h.size)⟩
    have HB' := Lib.hid hB'
    clear hB'
    have hC' : ∀ wx, NewBut w5 wx → Calls Try.prog 20 #[(.agg (ints .u8 (nn l0)).toArray), (.agg (ints .u8 (nn l1)).toArray), .string s] wx fun e w' => e = .returned (.string T) ∧ NewBut w5 w' := fun wx h =>
      (HC.out wx).mono fun _ _ ⟨q1, q2⟩ => ⟨q1, h.trans (q2.mono h.size)⟩
    have HC' := Lib.hid hC'
    clear hC'
    have hD' : ∀ wx, NewBut w5 wx → Calls Try.prog 21 #[(.agg (ints .u8 (nn l0)).toArray), (.agg (ints .u8 (nn l1)).toArray), .string s] wx fun e w' => e = .returned (.string T) ∧ NewBut w5 w' := fun wx h =>
      (HD.out wx).mono fun _ _ ⟨q1, q2⟩ => ⟨q1, h.trans (q2.mono h.size)⟩
    have HD' := Lib.hid hD'
    clear hD'
    have hE' : ∀ wx, NewBut w5 wx → Calls Try.prog 22 #[(.agg (ints .u8 (nn l0)).toArray), (.agg (ints .u8 (nn l1)).toArray), .int .i64 (s.size : Int)] wx fun e w' => e = .returned (.string P) ∧ NewBut w5 w' := fun wx h =>
      (HE.out wx).mono fun _ _ ⟨q1, q2⟩ => ⟨q1, h.trans (q2.mono h.size)⟩
    have HE' := Lib.hid hE'
    clear hE'
    have hF' : ∀ wx, NewBut w5 wx → Calls Try.prog 23 #[(.agg (ints .u8 (nn l0)).toArray), (.agg (ints .u8 (nn l1)).toArray), .int .i64 (s.size : Int)] wx fun e w' => e = .returned (.string P) ∧ NewBut w5 w' := fun wx h =>
      (HF.out wx).mono fun _ _ ⟨q1, q2⟩ => ⟨q1, h.trans (q2.mono h.size)⟩
    have HF' := Lib.hid hF'
    clear hF'
    refine region_quiet_tail (C := NewBut w5) 31 mixed (by kernel_rfl) (show Below _ _ _ from (Below.refl _ _).drew) ?_
    simp only [List.take_succ_cons, List.take_zero, List.drop_succ_cons, List.drop_zero]
    repeat (first | (refine wpQuiet_load_row rfl 23 _ rfl w.heap.size 0 rfl (ints .u8 (nn l0)) (fun wx h => HQ0.out wx h) Try.underlying23 rfl (by rw [size_hash, ints_length, nn_length, HL0.out]) ?_) | (refine wpQuiet_load_row rfl 28 _ rfl (w.heap.size + 1) 0 rfl (ints .u8 (nn l1)) (fun wx h => HQ1.out wx h) Try.underlying28 rfl (by rw [size_b16, ints_length, nn_length, HL1.out]) ?_) | (refine wpQuiet_load_row rfl 33 _ rfl B9 0 rfl (ints .u8 (nn l1)) (fun wx h => HQ9.out wx h) Try.underlying33 rfl (by rw [size_r16, ints_length, nn_length, HL1.out]) ?_) | (refine wpQuiet_step (fun K' hK' => ?_); go_simp; first | (refine ⟨_, fun _ _ => rfl, hK' _ ?_⟩; clear hK' K') | ((with_reducible refine ⟨_, fun wx hx => HA'.out wx hx, hK' _ ?_⟩); clear hK' K') | ((with_reducible refine ⟨_, fun wx hx => HB'.out wx hx, hK' _ ?_⟩); clear hK' K') | ((with_reducible refine ⟨_, fun wx hx => HC'.out wx hx, hK' _ ?_⟩); clear hK' K') | ((with_reducible refine ⟨_, fun wx hx => HD'.out wx hx, hK' _ ?_⟩); clear hK' K') | ((with_reducible refine ⟨_, fun wx hx => HE'.out wx hx, hK' _ ?_⟩); clear hK' K') | ((with_reducible refine ⟨_, fun wx hx => HF'.out wx hx, hK' _ ?_⟩); clear hK' K')))
    refine wpQuiet_nil ?_
    intro w7 hb7
    go_wp2
    go_ret
    exact ⟨rfl, jb.trans (hb7.mono jb.size)⟩

set_option maxRecDepth 100000 in
theorem lifted (os : Os) (started : os.Started) (H : Type) (enc : TypeId × Value → H) :
    ReturnsInHanded {} Try.checked os 4 .any (Rows.streamTellsSpec.pre6 enc Try.prog Try.f4 Rows.streamTellsRow.domain false) (Rows.streamTellsSpec.post enc Try.prog Try.f4 false true false false) := by
  refine returnsInHanded_of_change (C := Try.checked) own started (by kernel_rfl) Try.func4
    (ChangeSpec.witness6 (enc := enc) (C := Try.checked) false ⟨#[], #[.agg (ints .u8 (List.replicate 32 0)).toArray, .agg (ints .u8 (List.replicate 16 0)).toArray, .string ByteArray.empty, .int .u64 0], []⟩ 8 (by kernel_rfl) (by kernel_rfl) (by kernel_rfl) (by kernel_rfl)) ?_
  intro W base args ds gs before hval0 hW hcnd _
  have hval : ∀ (j : Nat) t v, Try.f4.params[j]? = some t → args[j]? = some v → Value.okWide Try.prog W .any base t v := hval0
  have hW' := hW
  obtain ⟨p, q, hA0, hV, rfl, hfz, hnd⟩ := hW
  have hA : DataW.TrodAll enc Try.prog W 0 (fun _ => true) true Try.f4.params.toList args.toList ds p := hA0
  rw [Try.params4] at hA hval
  obtain ⟨v0, vs0, d0, ds0, p0, q0, hargs, rfl, rfl, h0, r0⟩ := trodAll_cons hA
  obtain ⟨v1, vs1, d1, ds1, p1, q1, rfl, rfl, rfl, h1, r1⟩ := trodAll_cons r0
  obtain ⟨v2, vs2, d2, ds2, p2, q2, rfl, rfl, rfl, h2, r2⟩ := trodAll_cons r1
  obtain ⟨v3, vs3, d3, ds3, p3, q3, rfl, rfl, rfl, h3, r3⟩ := trodAll_cons r2
  obtain ⟨rfl, rfl, rfl⟩ := trodAll_nil r3
  obtain rfl : args = #[v0, v1, v2, v3] := by cases args; simp_all
  obtain ⟨rfl, rfl⟩ := trodVars_none hV
  have k0 := h0
  have lt0 : ∀ x ∈ p0, x.block < W.heap.size := by obtain ⟨m, hm⟩ := k0; exact DataW.trod_lt m _ _ _ hm
  obtain ⟨cs0, hcs0, _, _⟩ : ∃ cs, v0 = .agg cs ∧ cs.size = Try.prog.cellsOf 23 ∧ Row.okWide Try.prog W .any base 23 cs := by
    have := hval 0 23 v0 rfl rfl
    simpa [Value.okWide, Try.underlying23] using this
  obtain ⟨l0, hl0, n0, o0⟩ := open_bys Try.underlying23 Try.underlying5 cells_u8 cells_h32 cs0 hcs0 h0
  have k1 := h1
  have lt1 : ∀ x ∈ p1, x.block < W.heap.size := by obtain ⟨m, hm⟩ := k1; exact DataW.trod_lt m _ _ _ hm
  obtain ⟨cs1, hcs1, _, _⟩ : ∃ cs, v1 = .agg cs ∧ cs.size = Try.prog.cellsOf 28 ∧ Row.okWide Try.prog W .any base 28 cs := by
    have := hval 1 28 v1 rfl rfl
    simpa [Value.okWide, Try.underlying28] using this
  obtain ⟨l1, hl1, n1, o1⟩ := open_bys Try.underlying28 Try.underlying5 cells_u8 cells_b16 cs1 hcs1 h1
  obtain ⟨l2, rfl, rfl, rfl, n2⟩ := open_string Try.underlying9 (hval 2 9 v2 rfl rfl) h2
  obtain ⟨l3, rfl, rfl, rfl, n3⟩ := open_int Try.underlying38 (hval 3 38 v3 rfl rfl) h3
  clear hcs0
  subst hl0
  clear hcs1
  subst hl1
  clear hA0 hval0
  simp only [List.append_nil] at hW'
  refine (walk l0 l1 l2 l3 n0 o0 n1 o1 n2 n3 W).mono fun e W' ⟨he, bel⟩ => ?_
  subst he
  exact ⟨_, rfl, _, _, _, [], _, [], hW', trodAll_mk1 (shut_bool Try.underlying4 _), (trodAll_cons_mk (Below.trod laidOut (by kernel_rfl) (of_decide_eq_true (by kernel_rfl)) k0 bel lt0) (trodAll_cons_mk (Below.trod laidOut (by kernel_rfl) (of_decide_eq_true (by kernel_rfl)) k1 bel lt1) (trodAll_cons_mk (shut_string Try.underlying9 n2) (trodAll_cons_mk (shut_int Try.underlying38 n3) trodAll_mk0)))), rfl, bel.frame _, fun h => by cases h⟩

theorem over : Rows.streamTellsRow.holds Try.pinned (OpenSpec.ofChange Rows.streamTellsSpec) :=
  OpenClaim.holds_of_wide 4 Try.f4 rfl rfl rfl rfl rfl rfl rfl ⟨rfl, rfl, rfl, rfl, rfl⟩ rfl rfl rfl rfl rfl (by kernel_rfl) Try.func4 (by kernel_rfl)
    (of_decide_eq_true (by kernel_rfl)) (by unfold Func.isWrapper; first | (rw [if_pos (by decide +kernel)]; kernel_rfl) | (rw [if_neg (by decide +kernel)]; exact ⟨rfl, rfl⟩))
    (fun os started H enc _ => lifted os started H enc)

theorem proved : Rows.StreamTellsSaid :=
  over
#print axioms proved
end Go.Proofs.Ytgagafefhmofjaa.streamTells
