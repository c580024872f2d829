/-
  For all sixty words k and all blocks a and b: they are made the same by k only if they are the same; and the box has what it should. No condition.
-/
import Derived.Test.YthnmkniimokdiaaRows
import Derived.Test.YthnmkniimokdiaaCipM
import Derived.Test.YthnmkniimokdiaaOpen
import Derived.Test.YthnmkniimokdiaaEql
import Derived.Test.YthnmkniimokdiaaQTail
namespace Go.Proofs.Ythnmkniimokdiaa.cipherApart
open Go.ChangeShapes Go.WideShapes Go.ChangeAt Go.RowKit
set_option linter.unusedVariables false

theorem nn_inj {a b : List Nat} (h : nn a = nn b) : a = b := by
  unfold nn at h
  exact (List.map_inj_right (f := fun (n : Nat) => (n : Int)) (fun x y e => by have e' : (x : Int) = (y : Int) := e; omega)).1 h
theorem sizeOf_u8 (w : World) : (sizeOf 5).run Try.prog w = .ok 1 w := by kernel_rfl

set_option maxHeartbeats 2000000 in
set_option maxRecDepth 100000 in
theorem walk (K a b : List Nat) (lK : K.length = 60) (hK : Words K) (la : a.length = 16) (lb : b.length = 16) (ha : Bys a) (hb : Bys b) (w : World) :
    Calls Try.prog 6 #[.agg (ints .u32 (nn K)).toArray, .agg (ints .u8 (nn a)).toArray, .agg (ints .u8 (nn b)).toArray] w fun e w' => e = .returned (.bool true) ∧ Below w.heap.size w w' := by
  have hEa := fun w => c_Encrypt K a w lK hK la ha
  have hEb := fun w => c_Encrypt K b w lK hK lb hb
  have lEa : (encL K a).length = 16 := (encN_len _ _ _).trans la
  have lEb : (encL K b).length = 16 := (encN_len _ _ _).trans lb
  obtain ⟨c, g1, g2⟩ : ∃ c : Bool, (nn (encL K a) == nn (encL K b)) = c ∧ (nn a == nn b) = c := by
    by_cases e : a = b
    · subst e
      exact ⟨true, by simp, by simp⟩
    · refine ⟨false, ?_, ?_⟩
      · rw [beq_eq_false_iff_ne]
        intro h
        exact e (encN_inj hK la lb ha hb 14 (nn_inj h))
      · rw [beq_eq_false_iff_ne]
        intro h
        exact e (nn_inj h)
  generalize encL K a = EA at *
  generalize encL K b = EB at *
  have eqE := fun w => run_eql_ints (P := Try.prog) w 28 5 16 .u8 Try.underlying28 Try.underlying5 sizeOf_u8 (nn EA) (nn EB) (by rw [nn_length, lEa]) (by rw [nn_length, lEb])
  have eqA := fun w => run_eql_ints (P := Try.prog) w 28 5 16 .u8 Try.underlying28 Try.underlying5 sizeOf_u8 (nn a) (nn b) (by rw [nn_length, la]) (by rw [nn_length, lb])
  rw [g1] at eqE
  rw [g2] at eqA
  have LK := Lib.hid lK
  have LA := Lib.hid la
  have LB := Lib.hid lb
  have k0 : Blk (((w.alloc (.cells (ints .u32 (nn K)).toArray 26)).alloc (.cells (ints .u8 (nn a)).toArray 28)).alloc (.cells (ints .u8 (nn b)).toArray 28)) w.heap.size 26 (ints .u32 (nn K)) := ((Blk.new _ _ _).alloc _).alloc _
  have k1 : Blk (((w.alloc (.cells (ints .u32 (nn K)).toArray 26)).alloc (.cells (ints .u8 (nn a)).toArray 28)).alloc (.cells (ints .u8 (nn b)).toArray 28)) (w.heap.size + 1) 28 (ints .u8 (nn a)) := (Blk.new2 _ _ _ _ rfl).alloc _
  have k2 : Blk (((w.alloc (.cells (ints .u32 (nn K)).toArray 26)).alloc (.cells (ints .u8 (nn a)).toArray 28)).alloc (.cells (ints .u8 (nn b)).toArray 28)) (w.heap.size + 1 + 1) 28 (ints .u8 (nn b)) := by
    have := Blk.new2 (w.alloc (.cells (ints .u32 (nn K)).toArray 26)) (.cells (ints .u8 (nn a)).toArray 28) 28 (ints .u8 (nn b)) rfl
    rw [World.size_alloc] at this
    exact this
  have kb : Below w.heap.size w (((w.alloc (.cells (ints .u32 (nn K)).toArray 26)).alloc (.cells (ints .u8 (nn a)).toArray 28)).alloc (.cells (ints .u8 (nn b)).toArray 28)) := (((Below.refl _ _).alloc (Nat.le_refl _) _).alloc (by simp) _).alloc (by simp; omega) _
  clear lK la lb ha hb hK g1 g2 lEa lEb
  go_enter Try.func6, Try.ntmps6
  go_wp2_with fail
  generalize World.alloc (World.alloc (World.alloc w _) _) _ = w4 at *
  have hK : ∀ wx, NewBut w4 wx → wx.rangeAt w.heap.size 0 (ints .u32 (nn K)) := fun wx h => (k0.below h k0.lt).whole
  have hA : ∀ wx, NewBut w4 wx → wx.rangeAt (w.heap.size + 1) 0 (ints .u8 (nn a)) := fun wx h => (k1.below h k1.lt).whole
  have hB : ∀ wx, NewBut w4 wx → wx.rangeAt (w.heap.size + 1 + 1) 0 (ints .u8 (nn b)) := fun wx h => (k2.below h k2.lt).whole
  have hE1 : ∀ wx, NewBut w4 wx → Calls Try.prog 12 #[.agg (ints .u32 (nn K)).toArray, .agg (ints .u8 (nn a)).toArray] wx fun e w' => e = .returned (.agg (ints .u8 (nn EA)).toArray) ∧ NewBut w4 w' := fun wx h =>
    (hEa wx).mono fun _ _ ⟨e1, e2⟩ => ⟨e1, h.trans (e2.mono h.size)⟩
  have hE2 : ∀ wx, NewBut w4 wx → Calls Try.prog 12 #[.agg (ints .u32 (nn K)).toArray, .agg (ints .u8 (nn b)).toArray] wx fun e w' => e = .returned (.agg (ints .u8 (nn EB)).toArray) ∧ NewBut w4 w' := fun wx h =>
    (hEb wx).mono fun _ _ ⟨e1, e2⟩ => ⟨e1, h.trans (e2.mono h.size)⟩
  have HK := Lib.hid hK
  have HA := Lib.hid hA
  have HB := Lib.hid hB
  have HE1 := Lib.hid hE1
  have HE2 := Lib.hid hE2
  clear hK hA hB hE1 hE2 hEa hEb k0 k1 k2
  refine region_quiet_tail (C := NewBut w4) 12 mixed (by kernel_rfl) (show Below _ _ _ from (Below.refl _ _).drew) ?_
  simp only [List.take_succ_cons, List.take_zero, List.drop_succ_cons, List.drop_zero]
  repeat (first | (refine wpQuiet_load_row rfl 26 _ rfl w.heap.size 0 rfl (ints .u32 (nn K)) (fun wx h => HK.out wx h) Try.underlying26 rfl (by rw [size_k60, ints_length, nn_length, LK.out]) ?_) | (refine wpQuiet_load_row rfl 28 _ rfl (w.heap.size + 1) 0 rfl (ints .u8 (nn a)) (fun wx h => HA.out wx h) Try.underlying28 rfl (by rw [size_b16, ints_length, nn_length, LA.out]) ?_) | (refine wpQuiet_load_row rfl 28 _ rfl (w.heap.size + 1 + 1) 0 rfl (ints .u8 (nn b)) (fun wx h => HB.out wx h) Try.underlying28 rfl (by rw [size_b16, ints_length, nn_length, LB.out]) ?_) | (refine wpQuiet_step (fun K' hK' => ?_); go_simp; first | (refine ⟨_, fun _ _ => rfl, hK' _ ?_⟩; clear hK' K') | ((with_reducible refine ⟨_, fun wx hx => HE1.out wx hx, hK' _ ?_⟩); clear hK' K') | ((with_reducible refine ⟨_, fun wx hx => HE2.out wx hx, hK' _ ?_⟩); clear hK' K')))
  refine wpQuiet_nil ?_
  intro w7 hb7
  go_wp2_with (go_at_call 16; (with_reducible refine (l_shown _).mono ?_); rintro e w8 ⟨rfl, hb8⟩)
  go_ret
  exact ⟨rfl, (kb.trans (hb7.mono kb.size)).trans (hb8.mono (by have := kb.size; have := hb7.size; omega))⟩

theorem cells_b16 : Try.prog.cellsOf 28 = 16 := by kernel_rfl
theorem cells_k60 : Try.prog.cellsOf 26 = 60 := by kernel_rfl
set_option maxRecDepth 100000 in
theorem lifted (os : Os) (started : os.Started) (H : Type) (enc : TypeId × Value → H) :
    ReturnsInHanded {} Try.checked os 6 .any (Rows.cipherApartSpec.pre6 enc Try.prog Try.f6 Rows.cipherApartRow.domain false) (Rows.cipherApartSpec.post enc Try.prog Try.f6 false true false false) := by
  refine returnsInHanded_of_change (C := Try.checked) own started (by kernel_rfl) Try.func6
    (ChangeSpec.witness6 (enc := enc) (C := Try.checked) false ⟨#[], #[.agg (ints .u32 (List.replicate 60 0)).toArray, .agg (ints .u8 (List.replicate 16 0)).toArray, .agg (ints .u8 (List.replicate 16 0)).toArray], []⟩ 8 (by kernel_rfl) (by kernel_rfl) (by kernel_rfl) (by kernel_rfl)) ?_
  intro W base args ds gs before hval0 hW hcnd _
  have hval : ∀ (j : Nat) t v, Try.f6.params[j]? = some t → args[j]? = some v → Value.okWide Try.prog W .any base t v := hval0
  have hW' := hW
  obtain ⟨p, q, hA0, hV, rfl, hfz, hnd⟩ := hW
  have hA : DataW.TrodAll enc Try.prog W 0 (fun _ => true) true Try.f6.params.toList args.toList ds p := hA0
  rw [Try.params6] at hA hval
  obtain ⟨v0, vs0, d0, ds0, p0, q0, hargs, rfl, rfl, h0, r0⟩ := trodAll_cons hA
  obtain ⟨v1, vs1, d1, ds1, p1, q1, rfl, rfl, rfl, h1, r1⟩ := trodAll_cons r0
  obtain ⟨v2, vs2, d2, ds2, p2, q2, rfl, rfl, rfl, h2, r2⟩ := trodAll_cons r1
  obtain ⟨rfl, rfl, rfl⟩ := trodAll_nil r2
  obtain rfl : args = #[v0, v1, v2] := by cases args; simp_all
  obtain ⟨rfl, rfl⟩ := trodVars_none hV
  have k0 := h0
  have k1 := h1
  have k2 := h2
  have lt0 : ∀ x ∈ p0, x.block < W.heap.size := by obtain ⟨m, hm⟩ := k0; exact DataW.trod_lt m _ _ _ hm
  have lt1 : ∀ x ∈ p1, x.block < W.heap.size := by obtain ⟨m, hm⟩ := k1; exact DataW.trod_lt m _ _ _ hm
  have lt2 : ∀ x ∈ p2, x.block < W.heap.size := by obtain ⟨m, hm⟩ := k2; exact DataW.trod_lt m _ _ _ hm
  obtain ⟨cs, hcs, _, _⟩ : ∃ cs, v0 = .agg cs ∧ cs.size = Try.prog.cellsOf 26 ∧ Row.okWide Try.prog W .any base 26 cs := by
    have := hval 0 26 v0 rfl rfl
    simpa [Value.okWide, Try.underlying26] using this
  obtain ⟨cs', hcs', _, _⟩ : ∃ cs, v1 = .agg cs ∧ cs.size = Try.prog.cellsOf 28 ∧ Row.okWide Try.prog W .any base 28 cs := by
    have := hval 1 28 v1 rfl rfl
    simpa [Value.okWide, Try.underlying28] using this
  obtain ⟨cs2, hcs2, _, _⟩ : ∃ cs, v2 = .agg cs ∧ cs.size = Try.prog.cellsOf 28 ∧ Row.okWide Try.prog W .any base 28 cs := by
    have := hval 2 28 v2 rfl rfl
    simpa [Value.okWide, Try.underlying28] using this
  obtain ⟨l, hl, hlen, hoct⟩ := open_words Try.underlying26 Try.underlying24 cells_u32 cells_k60 cs hcs h0
  obtain ⟨l', hl', hlen', hoct'⟩ := open_bys Try.underlying28 Try.underlying5 cells_u8 cells_b16 cs' hcs' h1
  obtain ⟨l2, hl2, hlen2, hoct2⟩ := open_bys Try.underlying28 Try.underlying5 cells_u8 cells_b16 cs2 hcs2 h2
  clear hcs hcs' hcs2
  subst hl
  subst hl'
  subst hl2
  clear hA0 hval0
  simp only [List.append_nil] at hW'
  refine (walk l l' l2 hlen hoct hlen' hlen2 hoct' hoct2 W).mono fun e W' ⟨he, bel⟩ => ?_
  subst he
  exact ⟨_, rfl, _, _, _, [], _, [], hW', trodAll_mk1 (shut_bool Try.underlying4 _), (trodAll_cons_mk (Below.trod laidOut (by kernel_rfl) (of_decide_eq_true (by kernel_rfl)) k0 bel lt0) (trodAll_cons_mk (Below.trod laidOut (by kernel_rfl) (of_decide_eq_true (by kernel_rfl)) k1 bel lt1) (trodAll_cons_mk (Below.trod laidOut (by kernel_rfl) (of_decide_eq_true (by kernel_rfl)) k2 bel lt2) trodAll_mk0))), rfl, bel.frame _, fun h => by cases h⟩

theorem over : Rows.cipherApartRow.holds Try.pinned (OpenSpec.ofChange Rows.cipherApartSpec) :=
  OpenClaim.holds_of_wide 6 Try.f6 rfl rfl rfl rfl rfl rfl rfl ⟨rfl, rfl, rfl, rfl, rfl⟩ rfl rfl rfl rfl rfl (by kernel_rfl) Try.func6 (by kernel_rfl)
    (of_decide_eq_true (by kernel_rfl)) (by unfold Func.isWrapper; first | (rw [if_pos (by decide +kernel)]; kernel_rfl) | (rw [if_neg (by decide +kernel)]; exact ⟨rfl, rfl⟩))
    (fun os started H enc _ => lifted os started H enc)

theorem proved : Rows.CipherApartSaid :=
  over
#print axioms proved
end Go.Proofs.Ythnmkniimokdiaa.cipherApart
