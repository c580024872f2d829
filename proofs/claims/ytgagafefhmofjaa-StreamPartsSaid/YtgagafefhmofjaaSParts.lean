/-
  For all keys, nonces and texts and all places: bytes made unreadable in two parts, at a block's end, are as at once; a shorter pad begins a longer one; none is as long as a number below 0. Longer texts than the bound are answered by the anchor alone. No condition.
-/
import Derived.Test.YtgagafefhmofjaaRows
import Derived.Test.YtgagafefhmofjaaSStr
import Derived.Test.YtgagafefhmofjaaQTail
import Derived.ShutString
import Derived.ChangeOld
namespace Go.Proofs.Ytgagafefhmofjaa.streamParts
open Go.ChangeShapes Go.WideShapes Go.ChangeAt Go.RowKit
open Go.ChangeMaps (open_string shut_string)
set_option linter.unusedVariables false

theorem padF_next (key nc : List Nat) (k j : Nat) : padF key (nextL nc k) j = padF key nc (16 * k + j) := by
  unfold padF padB
  rw [nextL_nextL, show (16 * k + j) / 16 = k + j / 16 by omega, show (16 * k + j) % 16 = j % 16 by omega]
theorem xr_parts (l : List Nat) (f g : Nat → Nat) (n : Nat) (hn : n ≤ l.length) (h : ∀ j, g j = f (n + j)) : xrL (l.take n) f ++ xrL (l.drop n) g = xrL l f := by
  have h1 : (xrL (l.take n) f).length = n := by rw [xrL_len, List.length_take]; omega
  have h2 : (xrL (l.drop n) g).length = l.length - n := by rw [xrL_len, List.length_drop]
  refine getD_ext l.length (by rw [List.length_append, h1, h2]; omega) (xrL_len _ _) fun j hj => ?_
  rw [xrL_getD _ _ _ hj, List.getD_eq_getElem?_getD, List.getElem?_append]
  by_cases e : j < n
  · rw [if_pos (by omega), ← List.getD_eq_getElem?_getD, xrL_getD _ _ _ (by rw [List.length_take]; omega), List.getD_eq_getElem?_getD, List.getElem?_take, if_pos e, ← List.getD_eq_getElem?_getD]
  · rw [if_neg (by omega), h1, ← List.getD_eq_getElem?_getD, xrL_getD _ _ _ (by rw [List.length_drop]; omega), h, show n + (j - n) = j by omega, List.getD_eq_getElem?_getD, List.getElem?_drop, show n + (j - n) = j by omega, ← List.getD_eq_getElem?_getD]
theorem nn_app (a b : List Nat) : nn (a ++ b) = nn a ++ nn b := by simp [nn]
theorem padL_bys (key nc : List Nat) (n : Nat) : Bys (padL key nc n) := by
  intro j
  by_cases h : j < n
  · unfold padL; rw [map_range_getD _ _ _ h]; exact padF_lt _ _ _
  · rw [List.getD_eq_getElem?_getD, List.getElem?_eq_none (by rw [padL_len]; omega)]; decide
theorem padL_take (key nc : List Nat) (m n : Nat) (h : m ≤ n) : (padL key nc n).take m = padL key nc m := by
  refine getD_ext m (by rw [List.length_take, padL_len]; omega) (padL_len _ _ _) fun j hj => ?_
  rw [List.getD_eq_getElem?_getD, List.getElem?_take, if_pos hj, ← List.getD_eq_getElem?_getD]
  unfold padL
  rw [map_range_getD _ _ _ hj, map_range_getD _ _ _ (by omega)]
theorem str_ext {a b : ByteArray} (h : sl a = sl b) : a = b := by rw [← bs_sl a, h, bs_sl]

set_option maxHeartbeats 2000000 in
set_option maxRecDepth 100000 in
theorem walk (l0 l1 : List Nat) (s : ByteArray) (z0 : Int) (n0 : l0.length = 32) (o0 : Bys l0) (n1 : l1.length = 16) (o1 : Bys l1) (n2 : s.size ≤ maxLen) (n3 : (Lit.int .u8 z0).wf = true) (w : World) :
    Calls Try.prog 6 #[.agg (ints .u8 (nn l0)).toArray, .agg (ints .u8 (nn l1)).toArray, .string s, .int .u8 z0] w fun e w' => e = .returned (.bool true) ∧ Below w.heap.size w w' := by
  obtain ⟨z, rfl, hz⟩ := nat_u8 z0 n3
  clear n3
  have hS := fun w => l3_shown w
  have HS := Lib.hid hS
  have k0 : Blk ((w.alloc (.cells (ints .u8 (nn l0)).toArray 23)).alloc (.cells (ints .u8 (nn l1)).toArray 28)) w.heap.size 23 (ints .u8 (nn l0)) := (Blk.new _ _ _).alloc _
  have k1 : Blk ((w.alloc (.cells (ints .u8 (nn l0)).toArray 23)).alloc (.cells (ints .u8 (nn l1)).toArray 28)) (w.heap.size + 1) 28 (ints .u8 (nn l1)) := Blk.new2 _ _ _ _ rfl
  have kb : Below w.heap.size w ((w.alloc (.cells (ints .u8 (nn l0)).toArray 23)).alloc (.cells (ints .u8 (nn l1)).toArray 28)) := ((Below.refl _ _).alloc (Nat.le_refl _) _).alloc (by simp) _
  clear hS
  by_cases h1 : 600 < s.size
  · have g1 : decide ((600 : Int) < (s.size : Int)) = true := by simp; omega
    go_enter Try.func6, Try.ntmps6
    go_wp2_with (go_at_call 17; (with_reducible refine (HS.out _).mono ?_); rintro e w1 ⟨rfl, hb1⟩)
    go_ret
    exact ⟨rfl, kb.trans (hb1.mono kb.size)⟩
  · have g1 : decide ((600 : Int) < (s.size : Int)) = false := by simp; omega
    by_cases hc : s.size < z
    · have hc2 : (s.size : Int) < (z : Int) := by omega
      have h9 : s.size ≤ 600 := by omega
      obtain ⟨K, hK⟩ : ∃ K, s.size / 16 = K := ⟨_, rfl⟩
      obtain ⟨n, hn⟩ : ∃ n, K * 16 = n := ⟨_, rfl⟩
      have hnm : n ≤ s.size := by omega
      have hns : n ≤ s.size := by omega
      have t1 : (s.size : Int).tdiv 16 = (K : Int) := by rw [Int.tdiv_eq_ediv_of_nonneg (by omega)]; omega
      have t2 : (s.size : Int) / 16 = (K : Int) := by omega
      have t4 : (K : Int) * 16 = (n : Int) := by omega
      have t5 : (n : Int).tdiv 16 = (K : Int) := by rw [Int.tdiv_eq_ediv_of_nonneg (by omega)]; omega
      have t6 : (n : Int) / 16 = (K : Int) := by omega
      have t7 : IntKind.i64.wrap (K : Int) = (K : Int) := IntWalk.i64_in _ (by omega)
      have t8 : IntKind.u64.wrap (K : Int) = (K : Int) := wraps_u64 _ (by omega) (by omega)
      have t9 : IntKind.i64.wrap (-(n : Int)) = -(n : Int) := IntWalk.i64_in _ (by omega)
      have t10 : IntKind.i64.wrap (n : Int) = (n : Int) := IntWalk.i64_in _ (by omega)
      have u1 : (n : Int) ≤ (s.size : Int) := by omega
      have u2 : (0 : Int) ≤ (n : Int) := by omega
      have hxs : xrL (sl (s.extract 0 n)) (padF l0 l1) ++ xrL (sl (s.extract n s.size)) (padF l0 (nextL l1 K)) = xrL (sl s) (padF l0 l1) := by
        rw [sl_head, sl_tail]
        exact xr_parts _ _ _ n (by rw [sl_len]; exact hns) (fun j => by rw [padF_next, show 16 * K = n by omega])
      have hla : (s.extract 0 n).size = n := by simp; omega
      have hlb : (s.extract n s.size).size ≤ 65536 := by simp; omega
      have hA := fun w => s_Apply l0 l1 (s.extract 0 n) w n0 o0 n1 o1 (by omega)
      have hN := fun w => s_Next l1 K w n1 o1 (by omega)
      have hB := fun w => s_Apply l0 (nextL l1 K) (s.extract n s.size) w n0 o0 (nextL_len _ _) (nextL_bys _ _) hlb
      have hR := fun w => s_Apply l0 l1 s w n0 o0 n1 o1 (by omega)
      have hP := fun w => s_Pad l0 l1 s.size w n0 o0 n1 o1 (by omega)
      have hQ := fun w => s_Pad l0 l1 n w n0 o0 n1 o1 (by omega)
      have hM := fun w => s_Pad_none (ints .u8 (nn l0)).toArray (ints .u8 (nn l1)).toArray (-(n : Int)) w (by omega)
      rw [show bs [] = ⟨#[]⟩ from rfl] at hM
      have hcat : bs (nn (xrL (sl (s.extract 0 n)) (padF l0 l1))) ++ bs (nn (xrL (sl (s.extract n s.size)) (padF l0 (nextL l1 K)))) = bs (nn (xrL (sl s) (padF l0 l1))) := by
        rw [← bs_app, ← nn_app, hxs]
      have hadd : ∀ w, (Op.stringOp .add (bs (nn (xrL (sl (s.extract 0 n)) (padF l0 l1)))) (bs (nn (xrL (sl (s.extract n s.size)) (padF l0 (nextL l1 K)))))).run Try.prog w = .ok (.string (bs (nn (xrL (sl s) (padF l0 l1))))) w := fun w => by
        rw [run_string_add_sum, hcat]
        rw [bs_size, nn_length, xrL_len, sl_len, bs_size, nn_length, xrL_len, sl_len]
        omega
      have hps : (bs (nn (padL l0 l1 s.size))).size = s.size := by rw [bs_size, nn_length, padL_len]
      have hpx : (bs (nn (padL l0 l1 s.size))).extract 0 n = bs (nn (padL l0 l1 n)) := str_ext (by
        rw [sl_head, sl_bs (padL_bys _ _ _), sl_bs (padL_bys _ _ _), padL_take _ _ _ _ hns])
      have lNX := nextL_len l1 K
      generalize bs (nn (xrL (sl (s.extract 0 n)) (padF l0 l1))) = SA at *
      generalize bs (nn (xrL (sl (s.extract n s.size)) (padF l0 (nextL l1 K)))) = SB at *
      generalize bs (nn (xrL (sl s) (padF l0 l1))) = SR at *
      generalize bs (nn (padL l0 l1 s.size)) = SP at *
      generalize bs (nn (padL l0 l1 n)) = SQ at *
      generalize nextL l1 K = NX at *
      have HA := Lib.hid hA
      have HN := Lib.hid hN
      have HB := Lib.hid hB
      have HR := Lib.hid hR
      have HP := Lib.hid hP
      have HQ := Lib.hid hQ
      have HM := Lib.hid hM
      have HL0 := Lib.hid n0
      have HL1 := Lib.hid n1
      have HXS := Lib.hid hn
      clear hA hN hB hR hP hQ hM n0 n1 hxs hla hlb hn lNX
      go_enter Try.func6, Try.ntmps6
      go_wp2_with (go_at_call 17; (with_reducible refine (HS.out _).mono ?_); rintro e w1 ⟨rfl, hb1⟩)
      have i0 := k0.below hb1 k0.lt
      have i1 := k1.below hb1 k1.lt
      have ib := kb.trans (hb1.mono kb.size)
      clear k0 k1 kb hb1
      have hA' : ∀ wx, NewBut w1 wx → Calls Try.prog 20 #[(.agg (ints .u8 (nn l0)).toArray), (.agg (ints .u8 (nn l1)).toArray), .string (s.extract 0 n)] wx fun e w' => e = .returned (.string SA) ∧ NewBut w1 w' := fun wx h =>
        (HA.out wx).mono fun _ _ ⟨q1, q2⟩ => ⟨q1, h.trans (q2.mono h.size)⟩
      have HA' := Lib.hid hA'
      clear hA'
      have hQ0 : ∀ wx, NewBut w1 wx → wx.rangeAt w.heap.size 0 (ints .u8 (nn l0)) := fun wx h => (i0.below h i0.lt).whole
      have hQ1 : ∀ wx, NewBut w1 wx → wx.rangeAt (w.heap.size + 1) 0 (ints .u8 (nn l1)) := fun wx h => (i1.below h i1.lt).whole
      have HQ0 := Lib.hid hQ0
      have HQ1 := Lib.hid hQ1
      clear hQ0 hQ1
      refine region_quiet_tail (C := NewBut w1) 6 mixed (by kernel_rfl) (show Below _ _ _ from (Below.refl _ _).drew) ?_
      simp only [List.take_succ_cons, List.take_zero, List.drop_succ_cons, List.drop_zero]
      repeat (first | (refine wpQuiet_load_row rfl 23 _ rfl w.heap.size 0 rfl (ints .u8 (nn l0)) (fun wx h => HQ0.out wx h) Try.underlying23 rfl (by rw [size_hash, ints_length, nn_length, HL0.out]) ?_) | (refine wpQuiet_load_row rfl 28 _ rfl (w.heap.size + 1) 0 rfl (ints .u8 (nn l1)) (fun wx h => HQ1.out wx h) Try.underlying28 rfl (by rw [size_b16, ints_length, nn_length, HL1.out]) ?_) | (refine wpQuiet_step (fun K' hK' => ?_); go_simp; first | (refine ⟨_, fun _ _ => rfl, hK' _ ?_⟩; clear hK' K') | ((with_reducible refine ⟨_, fun wx hx => HA'.out wx hx, hK' _ ?_⟩); clear hK' K')))
      refine wpQuiet_nil ?_
      clear HQ0 HQ1
      intro w2 hb
      have i0' := i0.below hb i0.lt
      have i1' := i1.below hb i1.lt
      have ib' := ib.trans (hb.mono ib.size)
      clear i0 i1 ib hb
      have i0 := i0'
      have i1 := i1'
      have ib := ib'
      clear i0' i1' ib'
      clear HA HA'
      go_wp2_with fail
      have hN' : ∀ wx, NewBut w2 wx → Calls Try.prog 18 #[(.agg (ints .u8 (nn l1)).toArray), .int .u64 (K : Int)] wx fun e w' => e = .returned (.agg (ints .u8 (nn NX)).toArray) ∧ NewBut w2 w' := fun wx h =>
        (HN.out wx).mono fun _ _ ⟨q1, q2⟩ => ⟨q1, h.trans (q2.mono h.size)⟩
      have HN' := Lib.hid hN'
      clear hN'
      have hB' : ∀ wx, NewBut w2 wx → Calls Try.prog 20 #[(.agg (ints .u8 (nn l0)).toArray), (.agg (ints .u8 (nn NX)).toArray), .string (s.extract n s.size)] wx fun e w' => e = .returned (.string SB) ∧ NewBut w2 w' := fun wx h =>
        (HB.out wx).mono fun _ _ ⟨q1, q2⟩ => ⟨q1, h.trans (q2.mono h.size)⟩
      have HB' := Lib.hid hB'
      clear hB'
      have hQ0 : ∀ wx, NewBut w2 wx → wx.rangeAt w.heap.size 0 (ints .u8 (nn l0)) := fun wx h => (i0.below h i0.lt).whole
      have hQ1 : ∀ wx, NewBut w2 wx → wx.rangeAt (w.heap.size + 1) 0 (ints .u8 (nn l1)) := fun wx h => (i1.below h i1.lt).whole
      have HQ0 := Lib.hid hQ0
      have HQ1 := Lib.hid hQ1
      clear hQ0 hQ1
      refine region_quiet_tail (C := NewBut w2) 10 mixed (by kernel_rfl) (show Below _ _ _ from (Below.refl _ _).drew) ?_
      simp only [List.take_succ_cons, List.take_zero, List.drop_succ_cons, List.drop_zero]
      repeat (first | (refine wpQuiet_load_row rfl 23 _ rfl w.heap.size 0 rfl (ints .u8 (nn l0)) (fun wx h => HQ0.out wx h) Try.underlying23 rfl (by rw [size_hash, ints_length, nn_length, HL0.out]) ?_) | (refine wpQuiet_load_row rfl 28 _ rfl (w.heap.size + 1) 0 rfl (ints .u8 (nn l1)) (fun wx h => HQ1.out wx h) Try.underlying28 rfl (by rw [size_b16, ints_length, nn_length, HL1.out]) ?_) | (refine wpQuiet_step (fun K' hK' => ?_); go_simp; first | (refine ⟨_, fun _ _ => rfl, hK' _ ?_⟩; clear hK' K') | ((with_reducible refine ⟨_, fun wx hx => HB'.out wx hx, hK' _ ?_⟩); clear hK' K') | ((with_reducible refine ⟨_, fun wx hx => HN'.out wx hx, hK' _ ?_⟩); clear hK' K')))
      refine wpQuiet_nil ?_
      clear HQ0 HQ1
      intro w3 hb
      have i0' := i0.below hb i0.lt
      have i1' := i1.below hb i1.lt
      have ib' := ib.trans (hb.mono ib.size)
      clear i0 i1 ib hb
      have i0 := i0'
      have i1 := i1'
      have ib := ib'
      clear i0' i1' ib'
      clear HB HB' HN HN'
      go_wp2_with (first | (refine wpList_load_blk rfl 23 _ rfl _ rfl i0 Try.underlying23 rfl (by rw [size_hash, ints_length, nn_length, HL0.out]) ?_) | (refine wpList_load_blk rfl 28 _ rfl _ rfl i1 Try.underlying28 rfl (by rw [size_b16, ints_length, nn_length, HL1.out]) ?_))
      refine (HP.out _).mono ?_
      rintro e w4 ⟨rfl, hb4⟩
      have i0' := i0.below hb4 i0.lt
      have i1' := i1.below hb4 i1.lt
      have ib' := ib.trans (hb4.mono ib.size)
      clear i0 i1 ib hb4 HP
      have i0 := i0'
      have i1 := i1'
      have ib := ib'
      clear i0' i1' ib'
      go_wp2_with fail
      have hR' : ∀ wx, NewBut w4 wx → Calls Try.prog 20 #[(.agg (ints .u8 (nn l0)).toArray), (.agg (ints .u8 (nn l1)).toArray), .string s] wx fun e w' => e = .returned (.string SR) ∧ NewBut w4 w' := fun wx h =>
        (HR.out wx).mono fun _ _ ⟨q1, q2⟩ => ⟨q1, h.trans (q2.mono h.size)⟩
      have HR' := Lib.hid hR'
      clear hR'
      have hQ' : ∀ wx, NewBut w4 wx → Calls Try.prog 22 #[(.agg (ints .u8 (nn l0)).toArray), (.agg (ints .u8 (nn l1)).toArray), .int .i64 (n : Int)] wx fun e w' => e = .returned (.string SQ) ∧ NewBut w4 w' := fun wx h =>
        (HQ.out wx).mono fun _ _ ⟨q1, q2⟩ => ⟨q1, h.trans (q2.mono h.size)⟩
      have HQ' := Lib.hid hQ'
      clear hQ'
      have hM' : ∀ wx, NewBut w4 wx → Calls Try.prog 22 #[(.agg (ints .u8 (nn l0)).toArray), (.agg (ints .u8 (nn l1)).toArray), .int .i64 (-(n : Int))] wx fun e w' => e = .returned (.string ⟨#[]⟩) ∧ NewBut w4 w' := fun wx h =>
        (HM.out wx).mono fun _ _ ⟨q1, q2⟩ => ⟨q1, h.trans (q2.mono h.size)⟩
      have HM' := Lib.hid hM'
      clear hM'
      have hQ0 : ∀ wx, NewBut w4 wx → wx.rangeAt w.heap.size 0 (ints .u8 (nn l0)) := fun wx h => (i0.below h i0.lt).whole
      have hQ1 : ∀ wx, NewBut w4 wx → wx.rangeAt (w.heap.size + 1) 0 (ints .u8 (nn l1)) := fun wx h => (i1.below h i1.lt).whole
      have HQ0 := Lib.hid hQ0
      have HQ1 := Lib.hid hQ1
      clear hQ0 hQ1
      refine region_quiet_tail (C := NewBut w4) 33 mixed (by kernel_rfl) (show Below _ _ _ from (Below.refl _ _).drew) ?_
      simp only [List.take_succ_cons, List.take_zero, List.drop_succ_cons, List.drop_zero]
      repeat (first | (refine wpQuiet_load_row rfl 23 _ rfl w.heap.size 0 rfl (ints .u8 (nn l0)) (fun wx h => HQ0.out wx h) Try.underlying23 rfl (by rw [size_hash, ints_length, nn_length, HL0.out]) ?_) | (refine wpQuiet_load_row rfl 28 _ rfl (w.heap.size + 1) 0 rfl (ints .u8 (nn l1)) (fun wx h => HQ1.out wx h) Try.underlying28 rfl (by rw [size_b16, ints_length, nn_length, HL1.out]) ?_) | (refine wpQuiet_step (fun K' hK' => ?_); go_simp; first | (refine ⟨_, fun _ _ => rfl, hK' _ ?_⟩; clear hK' K') | ((with_reducible refine ⟨_, fun wx hx => HR'.out wx hx, hK' _ ?_⟩); clear hK' K') | ((with_reducible refine ⟨_, fun wx hx => HQ'.out wx hx, hK' _ ?_⟩); clear hK' K') | ((with_reducible refine ⟨_, fun wx hx => HM'.out wx hx, hK' _ ?_⟩); clear hK' K')))
      refine wpQuiet_nil ?_
      clear HQ0 HQ1
      intro w5 hb
      have i0' := i0.below hb i0.lt
      have i1' := i1.below hb i1.lt
      have ib' := ib.trans (hb.mono ib.size)
      clear i0 i1 ib hb
      have i0 := i0'
      have i1 := i1'
      have ib := ib'
      clear i0' i1' ib'
      clear HR HR' HQ HQ' HM HM'
      go_wp2
      go_ret
      exact ⟨rfl, ib⟩
    · have hc2 : ¬ (s.size : Int) < (z : Int) := by omega
      have h9 : s.size ≤ 600 := by omega
      obtain ⟨K, hK⟩ : ∃ K, z / 16 = K := ⟨_, rfl⟩
      obtain ⟨n, hn⟩ : ∃ n, K * 16 = n := ⟨_, rfl⟩
      have hnm : n ≤ z := by omega
      have hns : n ≤ s.size := by omega
      have t1 : (z : Int).tdiv 16 = (K : Int) := by rw [Int.tdiv_eq_ediv_of_nonneg (by omega)]; omega
      have t2 : (z : Int) / 16 = (K : Int) := by omega
      have t4 : (K : Int) * 16 = (n : Int) := by omega
      have t5 : (n : Int).tdiv 16 = (K : Int) := by rw [Int.tdiv_eq_ediv_of_nonneg (by omega)]; omega
      have t6 : (n : Int) / 16 = (K : Int) := by omega
      have t7 : IntKind.i64.wrap (K : Int) = (K : Int) := IntWalk.i64_in _ (by omega)
      have t8 : IntKind.u64.wrap (K : Int) = (K : Int) := wraps_u64 _ (by omega) (by omega)
      have t9 : IntKind.i64.wrap (-(n : Int)) = -(n : Int) := IntWalk.i64_in _ (by omega)
      have t10 : IntKind.i64.wrap (n : Int) = (n : Int) := IntWalk.i64_in _ (by omega)
      have u1 : (n : Int) ≤ (s.size : Int) := by omega
      have u2 : (0 : Int) ≤ (n : Int) := by omega
      have hxs : xrL (sl (s.extract 0 n)) (padF l0 l1) ++ xrL (sl (s.extract n s.size)) (padF l0 (nextL l1 K)) = xrL (sl s) (padF l0 l1) := by
        rw [sl_head, sl_tail]
        exact xr_parts _ _ _ n (by rw [sl_len]; exact hns) (fun j => by rw [padF_next, show 16 * K = n by omega])
      have hla : (s.extract 0 n).size = n := by simp; omega
      have hlb : (s.extract n s.size).size ≤ 65536 := by simp; omega
      have hA := fun w => s_Apply l0 l1 (s.extract 0 n) w n0 o0 n1 o1 (by omega)
      have hN := fun w => s_Next l1 K w n1 o1 (by omega)
      have hB := fun w => s_Apply l0 (nextL l1 K) (s.extract n s.size) w n0 o0 (nextL_len _ _) (nextL_bys _ _) hlb
      have hR := fun w => s_Apply l0 l1 s w n0 o0 n1 o1 (by omega)
      have hP := fun w => s_Pad l0 l1 s.size w n0 o0 n1 o1 (by omega)
      have hQ := fun w => s_Pad l0 l1 n w n0 o0 n1 o1 (by omega)
      have hM := fun w => s_Pad_none (ints .u8 (nn l0)).toArray (ints .u8 (nn l1)).toArray (-(n : Int)) w (by omega)
      rw [show bs [] = ⟨#[]⟩ from rfl] at hM
      have hcat : bs (nn (xrL (sl (s.extract 0 n)) (padF l0 l1))) ++ bs (nn (xrL (sl (s.extract n s.size)) (padF l0 (nextL l1 K)))) = bs (nn (xrL (sl s) (padF l0 l1))) := by
        rw [← bs_app, ← nn_app, hxs]
      have hadd : ∀ w, (Op.stringOp .add (bs (nn (xrL (sl (s.extract 0 n)) (padF l0 l1)))) (bs (nn (xrL (sl (s.extract n s.size)) (padF l0 (nextL l1 K)))))).run Try.prog w = .ok (.string (bs (nn (xrL (sl s) (padF l0 l1))))) w := fun w => by
        rw [run_string_add_sum, hcat]
        rw [bs_size, nn_length, xrL_len, sl_len, bs_size, nn_length, xrL_len, sl_len]
        omega
      have hps : (bs (nn (padL l0 l1 s.size))).size = s.size := by rw [bs_size, nn_length, padL_len]
      have hpx : (bs (nn (padL l0 l1 s.size))).extract 0 n = bs (nn (padL l0 l1 n)) := str_ext (by
        rw [sl_head, sl_bs (padL_bys _ _ _), sl_bs (padL_bys _ _ _), padL_take _ _ _ _ hns])
      have lNX := nextL_len l1 K
      generalize bs (nn (xrL (sl (s.extract 0 n)) (padF l0 l1))) = SA at *
      generalize bs (nn (xrL (sl (s.extract n s.size)) (padF l0 (nextL l1 K)))) = SB at *
      generalize bs (nn (xrL (sl s) (padF l0 l1))) = SR at *
      generalize bs (nn (padL l0 l1 s.size)) = SP at *
      generalize bs (nn (padL l0 l1 n)) = SQ at *
      generalize nextL l1 K = NX at *
      have HA := Lib.hid hA
      have HN := Lib.hid hN
      have HB := Lib.hid hB
      have HR := Lib.hid hR
      have HP := Lib.hid hP
      have HQ := Lib.hid hQ
      have HM := Lib.hid hM
      have HL0 := Lib.hid n0
      have HL1 := Lib.hid n1
      have HXS := Lib.hid hn
      clear hA hN hB hR hP hQ hM n0 n1 hxs hla hlb hn lNX
      go_enter Try.func6, Try.ntmps6
      go_wp2_with (go_at_call 17; (with_reducible refine (HS.out _).mono ?_); rintro e w1 ⟨rfl, hb1⟩)
      have i0 := k0.below hb1 k0.lt
      have i1 := k1.below hb1 k1.lt
      have ib := kb.trans (hb1.mono kb.size)
      clear k0 k1 kb hb1
      have hA' : ∀ wx, NewBut w1 wx → Calls Try.prog 20 #[(.agg (ints .u8 (nn l0)).toArray), (.agg (ints .u8 (nn l1)).toArray), .string (s.extract 0 n)] wx fun e w' => e = .returned (.string SA) ∧ NewBut w1 w' := fun wx h =>
        (HA.out wx).mono fun _ _ ⟨q1, q2⟩ => ⟨q1, h.trans (q2.mono h.size)⟩
      have HA' := Lib.hid hA'
      clear hA'
      have hQ0 : ∀ wx, NewBut w1 wx → wx.rangeAt w.heap.size 0 (ints .u8 (nn l0)) := fun wx h => (i0.below h i0.lt).whole
      have hQ1 : ∀ wx, NewBut w1 wx → wx.rangeAt (w.heap.size + 1) 0 (ints .u8 (nn l1)) := fun wx h => (i1.below h i1.lt).whole
      have HQ0 := Lib.hid hQ0
      have HQ1 := Lib.hid hQ1
      clear hQ0 hQ1
      refine region_quiet_tail (C := NewBut w1) 6 mixed (by kernel_rfl) (show Below _ _ _ from (Below.refl _ _).drew) ?_
      simp only [List.take_succ_cons, List.take_zero, List.drop_succ_cons, List.drop_zero]
      repeat (first | (refine wpQuiet_load_row rfl 23 _ rfl w.heap.size 0 rfl (ints .u8 (nn l0)) (fun wx h => HQ0.out wx h) Try.underlying23 rfl (by rw [size_hash, ints_length, nn_length, HL0.out]) ?_) | (refine wpQuiet_load_row rfl 28 _ rfl (w.heap.size + 1) 0 rfl (ints .u8 (nn l1)) (fun wx h => HQ1.out wx h) Try.underlying28 rfl (by rw [size_b16, ints_length, nn_length, HL1.out]) ?_) | (refine wpQuiet_step (fun K' hK' => ?_); go_simp; first | (refine ⟨_, fun _ _ => rfl, hK' _ ?_⟩; clear hK' K') | ((with_reducible refine ⟨_, fun wx hx => HA'.out wx hx, hK' _ ?_⟩); clear hK' K')))
      refine wpQuiet_nil ?_
      clear HQ0 HQ1
      intro w2 hb
      have i0' := i0.below hb i0.lt
      have i1' := i1.below hb i1.lt
      have ib' := ib.trans (hb.mono ib.size)
      clear i0 i1 ib hb
      have i0 := i0'
      have i1 := i1'
      have ib := ib'
      clear i0' i1' ib'
      clear HA HA'
      go_wp2_with fail
      have hN' : ∀ wx, NewBut w2 wx → Calls Try.prog 18 #[(.agg (ints .u8 (nn l1)).toArray), .int .u64 (K : Int)] wx fun e w' => e = .returned (.agg (ints .u8 (nn NX)).toArray) ∧ NewBut w2 w' := fun wx h =>
        (HN.out wx).mono fun _ _ ⟨q1, q2⟩ => ⟨q1, h.trans (q2.mono h.size)⟩
      have HN' := Lib.hid hN'
      clear hN'
      have hB' : ∀ wx, NewBut w2 wx → Calls Try.prog 20 #[(.agg (ints .u8 (nn l0)).toArray), (.agg (ints .u8 (nn NX)).toArray), .string (s.extract n s.size)] wx fun e w' => e = .returned (.string SB) ∧ NewBut w2 w' := fun wx h =>
        (HB.out wx).mono fun _ _ ⟨q1, q2⟩ => ⟨q1, h.trans (q2.mono h.size)⟩
      have HB' := Lib.hid hB'
      clear hB'
      have hQ0 : ∀ wx, NewBut w2 wx → wx.rangeAt w.heap.size 0 (ints .u8 (nn l0)) := fun wx h => (i0.below h i0.lt).whole
      have hQ1 : ∀ wx, NewBut w2 wx → wx.rangeAt (w.heap.size + 1) 0 (ints .u8 (nn l1)) := fun wx h => (i1.below h i1.lt).whole
      have HQ0 := Lib.hid hQ0
      have HQ1 := Lib.hid hQ1
      clear hQ0 hQ1
      refine region_quiet_tail (C := NewBut w2) 10 mixed (by kernel_rfl) (show Below _ _ _ from (Below.refl _ _).drew) ?_
      simp only [List.take_succ_cons, List.take_zero, List.drop_succ_cons, List.drop_zero]
      repeat (first | (refine wpQuiet_load_row rfl 23 _ rfl w.heap.size 0 rfl (ints .u8 (nn l0)) (fun wx h => HQ0.out wx h) Try.underlying23 rfl (by rw [size_hash, ints_length, nn_length, HL0.out]) ?_) | (refine wpQuiet_load_row rfl 28 _ rfl (w.heap.size + 1) 0 rfl (ints .u8 (nn l1)) (fun wx h => HQ1.out wx h) Try.underlying28 rfl (by rw [size_b16, ints_length, nn_length, HL1.out]) ?_) | (refine wpQuiet_step (fun K' hK' => ?_); go_simp; first | (refine ⟨_, fun _ _ => rfl, hK' _ ?_⟩; clear hK' K') | ((with_reducible refine ⟨_, fun wx hx => HB'.out wx hx, hK' _ ?_⟩); clear hK' K') | ((with_reducible refine ⟨_, fun wx hx => HN'.out wx hx, hK' _ ?_⟩); clear hK' K')))
      refine wpQuiet_nil ?_
      clear HQ0 HQ1
      intro w3 hb
      have i0' := i0.below hb i0.lt
      have i1' := i1.below hb i1.lt
      have ib' := ib.trans (hb.mono ib.size)
      clear i0 i1 ib hb
      have i0 := i0'
      have i1 := i1'
      have ib := ib'
      clear i0' i1' ib'
      clear HB HB' HN HN'
      go_wp2_with (first | (refine wpList_load_blk rfl 23 _ rfl _ rfl i0 Try.underlying23 rfl (by rw [size_hash, ints_length, nn_length, HL0.out]) ?_) | (refine wpList_load_blk rfl 28 _ rfl _ rfl i1 Try.underlying28 rfl (by rw [size_b16, ints_length, nn_length, HL1.out]) ?_))
      refine (HP.out _).mono ?_
      rintro e w4 ⟨rfl, hb4⟩
      have i0' := i0.below hb4 i0.lt
      have i1' := i1.below hb4 i1.lt
      have ib' := ib.trans (hb4.mono ib.size)
      clear i0 i1 ib hb4 HP
      have i0 := i0'
      have i1 := i1'
      have ib := ib'
      clear i0' i1' ib'
      go_wp2_with fail
      have hR' : ∀ wx, NewBut w4 wx → Calls Try.prog 20 #[(.agg (ints .u8 (nn l0)).toArray), (.agg (ints .u8 (nn l1)).toArray), .string s] wx fun e w' => e = .returned (.string SR) ∧ NewBut w4 w' := fun wx h =>
        (HR.out wx).mono fun _ _ ⟨q1, q2⟩ => ⟨q1, h.trans (q2.mono h.size)⟩
      have HR' := Lib.hid hR'
      clear hR'
      have hQ' : ∀ wx, NewBut w4 wx → Calls Try.prog 22 #[(.agg (ints .u8 (nn l0)).toArray), (.agg (ints .u8 (nn l1)).toArray), .int .i64 (n : Int)] wx fun e w' => e = .returned (.string SQ) ∧ NewBut w4 w' := fun wx h =>
        (HQ.out wx).mono fun _ _ ⟨q1, q2⟩ => ⟨q1, h.trans (q2.mono h.size)⟩
      have HQ' := Lib.hid hQ'
      clear hQ'
      have hM' : ∀ wx, NewBut w4 wx → Calls Try.prog 22 #[(.agg (ints .u8 (nn l0)).toArray), (.agg (ints .u8 (nn l1)).toArray), .int .i64 (-(n : Int))] wx fun e w' => e = .returned (.string ⟨#[]⟩) ∧ NewBut w4 w' := fun wx h =>
        (HM.out wx).mono fun _ _ ⟨q1, q2⟩ => ⟨q1, h.trans (q2.mono h.size)⟩
      have HM' := Lib.hid hM'
      clear hM'
      have hQ0 : ∀ wx, NewBut w4 wx → wx.rangeAt w.heap.size 0 (ints .u8 (nn l0)) := fun wx h => (i0.below h i0.lt).whole
      have hQ1 : ∀ wx, NewBut w4 wx → wx.rangeAt (w.heap.size + 1) 0 (ints .u8 (nn l1)) := fun wx h => (i1.below h i1.lt).whole
      have HQ0 := Lib.hid hQ0
      have HQ1 := Lib.hid hQ1
      clear hQ0 hQ1
      refine region_quiet_tail (C := NewBut w4) 33 mixed (by kernel_rfl) (show Below _ _ _ from (Below.refl _ _).drew) ?_
      simp only [List.take_succ_cons, List.take_zero, List.drop_succ_cons, List.drop_zero]
      repeat (first | (refine wpQuiet_load_row rfl 23 _ rfl w.heap.size 0 rfl (ints .u8 (nn l0)) (fun wx h => HQ0.out wx h) Try.underlying23 rfl (by rw [size_hash, ints_length, nn_length, HL0.out]) ?_) | (refine wpQuiet_load_row rfl 28 _ rfl (w.heap.size + 1) 0 rfl (ints .u8 (nn l1)) (fun wx h => HQ1.out wx h) Try.underlying28 rfl (by rw [size_b16, ints_length, nn_length, HL1.out]) ?_) | (refine wpQuiet_step (fun K' hK' => ?_); go_simp; first | (refine ⟨_, fun _ _ => rfl, hK' _ ?_⟩; clear hK' K') | ((with_reducible refine ⟨_, fun wx hx => HR'.out wx hx, hK' _ ?_⟩); clear hK' K') | ((with_reducible refine ⟨_, fun wx hx => HQ'.out wx hx, hK' _ ?_⟩); clear hK' K') | ((with_reducible refine ⟨_, fun wx hx => HM'.out wx hx, hK' _ ?_⟩); clear hK' K')))
      refine wpQuiet_nil ?_
      clear HQ0 HQ1
      intro w5 hb
      have i0' := i0.below hb i0.lt
      have i1' := i1.below hb i1.lt
      have ib' := ib.trans (hb.mono ib.size)
      clear i0 i1 ib hb
      have i0 := i0'
      have i1 := i1'
      have ib := ib'
      clear i0' i1' ib'
      clear HR HR' HQ HQ' HM HM'
      go_wp2
      go_ret
      exact ⟨rfl, ib⟩

set_option maxRecDepth 100000 in
theorem lifted (os : Os) (started : os.Started) (H : Type) (enc : TypeId × Value → H) :
    ReturnsInHanded {} Try.checked os 6 .any (Rows.streamPartsSpec.pre6 enc Try.prog Try.f6 Rows.streamPartsRow.domain false) (Rows.streamPartsSpec.post enc Try.prog Try.f6 false true false false) := by
  refine returnsInHanded_of_change (C := Try.checked) own started (by kernel_rfl) Try.func6
    (ChangeSpec.witness6 (enc := enc) (C := Try.checked) false ⟨#[], #[.agg (ints .u8 (List.replicate 32 0)).toArray, .agg (ints .u8 (List.replicate 16 0)).toArray, .string ByteArray.empty, .int .u8 0], []⟩ 8 (by kernel_rfl) (by kernel_rfl) (by kernel_rfl) (by kernel_rfl)) ?_
  intro W base args ds gs before hval0 hW hcnd _
  have hval : ∀ (j : Nat) t v, Try.f6.params[j]? = some t → args[j]? = some v → Value.okWide Try.prog W .any base t v := hval0
  have hW' := hW
  obtain ⟨p, q, hA0, hV, rfl, hfz, hnd⟩ := hW
  have hA : DataW.TrodAll enc Try.prog W 0 (fun _ => true) true Try.f6.params.toList args.toList ds p := hA0
  rw [Try.params6] at hA hval
  obtain ⟨v0, vs0, d0, ds0, p0, q0, hargs, rfl, rfl, h0, r0⟩ := trodAll_cons hA
  obtain ⟨v1, vs1, d1, ds1, p1, q1, rfl, rfl, rfl, h1, r1⟩ := trodAll_cons r0
  obtain ⟨v2, vs2, d2, ds2, p2, q2, rfl, rfl, rfl, h2, r2⟩ := trodAll_cons r1
  obtain ⟨v3, vs3, d3, ds3, p3, q3, rfl, rfl, rfl, h3, r3⟩ := trodAll_cons r2
  obtain ⟨rfl, rfl, rfl⟩ := trodAll_nil r3
  obtain rfl : args = #[v0, v1, v2, v3] := by cases args; simp_all
  obtain ⟨rfl, rfl⟩ := trodVars_none hV
  have k0 := h0
  have lt0 : ∀ x ∈ p0, x.block < W.heap.size := by obtain ⟨m, hm⟩ := k0; exact DataW.trod_lt m _ _ _ hm
  obtain ⟨cs0, hcs0, _, _⟩ : ∃ cs, v0 = .agg cs ∧ cs.size = Try.prog.cellsOf 23 ∧ Row.okWide Try.prog W .any base 23 cs := by
    have := hval 0 23 v0 rfl rfl
    simpa [Value.okWide, Try.underlying23] using this
  obtain ⟨l0, hl0, n0, o0⟩ := open_bys Try.underlying23 Try.underlying5 cells_u8 cells_h32 cs0 hcs0 h0
  have k1 := h1
  have lt1 : ∀ x ∈ p1, x.block < W.heap.size := by obtain ⟨m, hm⟩ := k1; exact DataW.trod_lt m _ _ _ hm
  obtain ⟨cs1, hcs1, _, _⟩ : ∃ cs, v1 = .agg cs ∧ cs.size = Try.prog.cellsOf 28 ∧ Row.okWide Try.prog W .any base 28 cs := by
    have := hval 1 28 v1 rfl rfl
    simpa [Value.okWide, Try.underlying28] using this
  obtain ⟨l1, hl1, n1, o1⟩ := open_bys Try.underlying28 Try.underlying5 cells_u8 cells_b16 cs1 hcs1 h1
  obtain ⟨l2, rfl, rfl, rfl, n2⟩ := open_string Try.underlying9 (hval 2 9 v2 rfl rfl) h2
  obtain ⟨l3, rfl, rfl, rfl, n3⟩ := open_int Try.underlying5 (hval 3 5 v3 rfl rfl) h3
  clear hcs0
  subst hl0
  clear hcs1
  subst hl1
  clear hA0 hval0
  simp only [List.append_nil] at hW'
  refine (walk l0 l1 l2 l3 n0 o0 n1 o1 n2 n3 W).mono fun e W' ⟨he, bel⟩ => ?_
  subst he
  exact ⟨_, rfl, _, _, _, [], _, [], hW', trodAll_mk1 (shut_bool Try.underlying4 _), (trodAll_cons_mk (Below.trod laidOut (by kernel_rfl) (of_decide_eq_true (by kernel_rfl)) k0 bel lt0) (trodAll_cons_mk (Below.trod laidOut (by kernel_rfl) (of_decide_eq_true (by kernel_rfl)) k1 bel lt1) (trodAll_cons_mk (shut_string Try.underlying9 n2) (trodAll_cons_mk (shut_int Try.underlying5 n3) trodAll_mk0)))), rfl, bel.frame _, fun h => by cases h⟩

theorem over : Rows.streamPartsRow.holds Try.pinned (OpenSpec.ofChange Rows.streamPartsSpec) :=
  OpenClaim.holds_of_wide 6 Try.f6 rfl rfl rfl rfl rfl rfl rfl ⟨rfl, rfl, rfl, rfl, rfl⟩ rfl rfl rfl rfl rfl (by kernel_rfl) Try.func6 (by kernel_rfl)
    (of_decide_eq_true (by kernel_rfl)) (by unfold Func.isWrapper; first | (rw [if_pos (by decide +kernel)]; kernel_rfl) | (rw [if_neg (by decide +kernel)]; exact ⟨rfl, rfl⟩))
    (fun os started H enc _ => lifted os started H enc)

theorem proved : Rows.StreamPartsSaid :=
  over
#print axioms proved
end Go.Proofs.Ytgagafefhmofjaa.streamParts
