/-
  For all keys, nonces and pairs of texts: what differs of their first bytes differs alike when both are made unreadable by one key and nonce; longer texts than the bound are answered by the anchor alone. No condition.
-/
import Derived.Test.YtgagafefhmofjaaRows
import Derived.Test.YtgagafefhmofjaaSStr
import Derived.Test.YtgagafefhmofjaaQTail
import Derived.ShutString
import Derived.ChangeOld
namespace Go.Proofs.Ytgagafefhmofjaa.streamXor
open Go.ChangeShapes Go.WideShapes Go.ChangeAt Go.RowKit
open Go.ChangeMaps (open_string shut_string)
set_option linter.unusedVariables false

set_option maxHeartbeats 1000000 in
set_option maxRecDepth 100000 in
theorem walk (l0 l1 : List Nat) (a b : ByteArray) (n0 : l0.length = 32) (o0 : Bys l0) (n1 : l1.length = 16) (o1 : Bys l1) (n2 : a.size ≤ maxLen) (n3 : b.size ≤ maxLen) (w : World) :
    Calls Try.prog 8 #[.agg (ints .u8 (nn l0)).toArray, .agg (ints .u8 (nn l1)).toArray, .string a, .string b] w fun e w' => e = .returned (.bool true) ∧ Below w.heap.size w w' := by
  have hS := fun w => l3_shown w
  have HS := Lib.hid hS
  have k0 : Blk ((w.alloc (.cells (ints .u8 (nn l0)).toArray 23)).alloc (.cells (ints .u8 (nn l1)).toArray 28)) w.heap.size 23 (ints .u8 (nn l0)) := (Blk.new _ _ _).alloc _
  have k1 : Blk ((w.alloc (.cells (ints .u8 (nn l0)).toArray 23)).alloc (.cells (ints .u8 (nn l1)).toArray 28)) (w.heap.size + 1) 28 (ints .u8 (nn l1)) := Blk.new2 _ _ _ _ rfl
  have kb : Below w.heap.size w ((w.alloc (.cells (ints .u8 (nn l0)).toArray 23)).alloc (.cells (ints .u8 (nn l1)).toArray 28)) := ((Below.refl _ _).alloc (Nat.le_refl _) _).alloc (by simp) _
  clear hS
  by_cases hc : b.size < a.size
  · obtain ⟨n, hn⟩ : ∃ n, b.size = n := ⟨_, rfl⟩
    have hna : n ≤ a.size := by omega
    have hnb : n ≤ b.size := by omega
    have hc1 : (n : Int) < (a.size : Int) := by omega
    have HC := Lib.hid hc
    clear hc
    by_cases h1 : 300 < n
    · have g1 : decide ((300 : Int) < (n : Int)) = true := by simp; omega
      go_enter Try.func8, Try.ntmps8
      go_wp2_with (go_at_call 17; (with_reducible refine (HS.out _).mono ?_); rintro e w1 ⟨rfl, hb1⟩)
      go_ret
      exact ⟨rfl, kb.trans (hb1.mono kb.size)⟩
    · have g1 : decide ((300 : Int) < (n : Int)) = false := by simp; omega
      have hla : (a.extract 0 n).size = n := by simp; omega
      have hlb : (b.extract 0 n).size = n := by simp; omega
      have hA := fun w => s_Apply l0 l1 (a.extract 0 n) w n0 o0 n1 o1 (by omega)
      have hB := fun w => s_Apply l0 l1 (b.extract 0 n) w n0 o0 n1 o1 (by omega)
      have hpf := padF_lt l0 l1
      generalize padF l0 l1 = pf at *
      have hsa := sl_bs (xrL_bys (sl_bys (a.extract 0 n)) hpf)
      have hsb := sl_bs (xrL_bys (sl_bys (b.extract 0 n)) hpf)
      have hza : (bs (nn (xrL (sl (a.extract 0 n)) pf))).size = n := by rw [bs_size, nn_length, xrL_len, sl_len, hla]
      have hzb : (bs (nn (xrL (sl (b.extract 0 n)) pf))).size = n := by rw [bs_size, nn_length, xrL_len, sl_len, hlb]
      have iA : ∀ j, j < n → (sl (bs (nn (xrL (sl (a.extract 0 n)) pf)))).getD j 0 = (sl a).getD j 0 ^^^ pf j := fun j hj => by
        rw [hsa, xrL_getD _ _ _ (by rw [sl_len, hla]; exact hj), sl_head, List.getD_eq_getElem?_getD, List.getElem?_take, if_pos hj, ← List.getD_eq_getElem?_getD]
      have iB : ∀ j, j < n → (sl (bs (nn (xrL (sl (b.extract 0 n)) pf)))).getD j 0 = (sl b).getD j 0 ^^^ pf j := fun j hj => by
        rw [hsb, xrL_getD _ _ _ (by rw [sl_len, hlb]; exact hj), sl_head, List.getD_eq_getElem?_getD, List.getElem?_take, if_pos hj, ← List.getD_eq_getElem?_getD]
      generalize bs (nn (xrL (sl (a.extract 0 n)) pf)) = X at *
      generalize bs (nn (xrL (sl (b.extract 0 n)) pf)) = Y at *
      have HA := Lib.hid hA
      have HB := Lib.hid hB
      have IA := Lib.hid iA
      have IB := Lib.hid iB
      have HPF := Lib.hid hpf
      have HL0 := Lib.hid n0
      have HL1 := Lib.hid n1
      clear hA hB iA iB hpf hsa hsb hla hlb n0 n1
      go_enter Try.func8, Try.ntmps8
      go_wp2_with (go_at_call 17; (with_reducible refine (HS.out _).mono ?_); rintro e w1 ⟨rfl, hb1⟩)
      have i0 := k0.below hb1 k0.lt
      have i1 := k1.below hb1 k1.lt
      have ib := kb.trans (hb1.mono kb.size)
      clear k0 k1 kb hb1
      have hA' : ∀ wx, NewBut w1 wx → Calls Try.prog 20 #[(.agg (ints .u8 (nn l0)).toArray), (.agg (ints .u8 (nn l1)).toArray), .string (a.extract 0 n)] wx fun e w' => e = .returned (.string X) ∧ NewBut w1 w' := fun wx h =>
        (HA.out wx).mono fun _ _ ⟨q1, q2⟩ => ⟨q1, h.trans (q2.mono h.size)⟩
      have HA' := Lib.hid hA'
      clear hA'
      have hQ0 : ∀ wx, NewBut w1 wx → wx.rangeAt w.heap.size 0 (ints .u8 (nn l0)) := fun wx h => (i0.below h i0.lt).whole
      have hQ1 : ∀ wx, NewBut w1 wx → wx.rangeAt (w.heap.size + 1) 0 (ints .u8 (nn l1)) := fun wx h => (i1.below h i1.lt).whole
      have HQ0 := Lib.hid hQ0
      have HQ1 := Lib.hid hQ1
      clear hQ0 hQ1
      refine region_quiet_tail (C := NewBut w1) 6 mixed (by kernel_rfl) (show Below _ _ _ from (Below.refl _ _).drew) ?_
      simp only [List.take_succ_cons, List.take_zero, List.drop_succ_cons, List.drop_zero]
      repeat (first | (refine wpQuiet_load_row rfl 23 _ rfl w.heap.size 0 rfl (ints .u8 (nn l0)) (fun wx h => HQ0.out wx h) Try.underlying23 rfl (by rw [size_hash, ints_length, nn_length, HL0.out]) ?_) | (refine wpQuiet_load_row rfl 28 _ rfl (w.heap.size + 1) 0 rfl (ints .u8 (nn l1)) (fun wx h => HQ1.out wx h) Try.underlying28 rfl (by rw [size_b16, ints_length, nn_length, HL1.out]) ?_) | (refine wpQuiet_step (fun K' hK' => ?_); go_simp; first | (refine ⟨_, fun _ _ => rfl, hK' _ ?_⟩; clear hK' K') | ((with_reducible refine ⟨_, fun wx hx => HA'.out wx hx, hK' _ ?_⟩); clear hK' K')))
      refine wpQuiet_nil ?_
      clear HQ0 HQ1
      intro w2 hb
      have i0' := i0.below hb i0.lt
      have i1' := i1.below hb i1.lt
      have ib' := ib.trans (hb.mono ib.size)
      clear i0 i1 ib hb
      have i0 := i0'
      have i1 := i1'
      have ib := ib'
      clear i0' i1' ib'
      clear HA HA'
      go_wp2_with fail
      have hB' : ∀ wx, NewBut w2 wx → Calls Try.prog 20 #[(.agg (ints .u8 (nn l0)).toArray), (.agg (ints .u8 (nn l1)).toArray), .string (b.extract 0 n)] wx fun e w' => e = .returned (.string Y) ∧ NewBut w2 w' := fun wx h =>
        (HB.out wx).mono fun _ _ ⟨q1, q2⟩ => ⟨q1, h.trans (q2.mono h.size)⟩
      have HB' := Lib.hid hB'
      clear hB'
      have hQ0 : ∀ wx, NewBut w2 wx → wx.rangeAt w.heap.size 0 (ints .u8 (nn l0)) := fun wx h => (i0.below h i0.lt).whole
      have hQ1 : ∀ wx, NewBut w2 wx → wx.rangeAt (w.heap.size + 1) 0 (ints .u8 (nn l1)) := fun wx h => (i1.below h i1.lt).whole
      have HQ0 := Lib.hid hQ0
      have HQ1 := Lib.hid hQ1
      clear hQ0 hQ1
      refine region_quiet_tail (C := NewBut w2) 6 mixed (by kernel_rfl) (show Below _ _ _ from (Below.refl _ _).drew) ?_
      simp only [List.take_succ_cons, List.take_zero, List.drop_succ_cons, List.drop_zero]
      repeat (first | (refine wpQuiet_load_row rfl 23 _ rfl w.heap.size 0 rfl (ints .u8 (nn l0)) (fun wx h => HQ0.out wx h) Try.underlying23 rfl (by rw [size_hash, ints_length, nn_length, HL0.out]) ?_) | (refine wpQuiet_load_row rfl 28 _ rfl (w.heap.size + 1) 0 rfl (ints .u8 (nn l1)) (fun wx h => HQ1.out wx h) Try.underlying28 rfl (by rw [size_b16, ints_length, nn_length, HL1.out]) ?_) | (refine wpQuiet_step (fun K' hK' => ?_); go_simp; first | (refine ⟨_, fun _ _ => rfl, hK' _ ?_⟩; clear hK' K') | ((with_reducible refine ⟨_, fun wx hx => HB'.out wx hx, hK' _ ?_⟩); clear hK' K')))
      refine wpQuiet_nil ?_
      clear HQ0 HQ1
      intro w3 hb
      have i0' := i0.below hb i0.lt
      have i1' := i1.below hb i1.lt
      have ib' := ib.trans (hb.mono ib.size)
      clear i0 i1 ib hb
      have i0 := i0'
      have i1 := i1'
      have ib := ib'
      clear i0' i1' ib'
      clear HB HB'
      go_wp2
      clear i0 i1 HS HL0 HL1 o0 o1
      go_loopw [12] (fun i wr => ∃ j : Nat, j ≤ n ∧ i = .int .i64 (j : Int) ∧ Below w.heap.size w wr) (fun i _ => n - (intOf i).toNat)
      case atStart => exact ⟨0, by omega, rfl, ib⟩
      case round =>
        obtain ⟨j, hj, rfl, gb⟩ := hrel
        clear ib
        by_cases hlt : j < n
        · have x1 := fun w => index_sl X .i64 j (by omega) w
          have x2 := fun w => index_sl Y .i64 j (by omega) w
          have x3 := fun w => index_sl a .i64 j (by omega) w
          have x4 := fun w => index_sl b .i64 j (by omega) w
          rw [IA.out j hlt] at x1
          rw [IB.out j hlt] at x2
          have ha := sl_bys a j
          have hb := sl_bys b j
          have hp := HPF.out j
          have y1 := xor_byte ((sl a).getD j 0 ^^^ pf j) ((sl b).getD j 0 ^^^ pf j) (xor_lt ha hp) (xor_lt hb hp)
          have y2 := xor_byte ((sl a).getD j 0) ((sl b).getD j 0) ha hb
          have hz : ((sl a).getD j 0 ^^^ pf j) ^^^ ((sl b).getD j 0 ^^^ pf j) = (sl a).getD j 0 ^^^ (sl b).getD j 0 := by
            rw [xor4, Nat.xor_self, Nat.xor_zero]
          rw [hz] at y1
          have d1 : (j : Int) < (n : Int) := by omega
          have d2 : (j : Int) < 65536 := by omega
          clear hz ha hb hp IA IB HPF
          generalize (sl a).getD j 0 ^^^ (sl b).getD j 0 = zv at *
          generalize (sl a).getD j 0 ^^^ pf j = xv at *
          generalize (sl b).getD j 0 ^^^ pf j = yv at *
          generalize (sl a).getD j 0 = av at *
          generalize (sl b).getD j 0 = bv at *
          go_wp2_with fail
          refine region_quiet_tail (C := NewBut wr) 14 mixed (by kernel_rfl) (show Below _ _ _ from (Below.refl _ _).drew) ?_
          simp only [List.take_succ_cons, List.take_zero, List.drop_succ_cons, List.drop_zero]
          repeat (refine wpQuiet_step (fun K' hK' => ?_); go_simp; (refine ⟨_, fun _ _ => rfl, hK' _ ?_⟩; clear hK' K'))
          refine wpQuiet_nil ?_
          intro w7 hb7
          go_wp2
          go_roundw
          case rel => exact ⟨j + 1, by omega, by go_num, gb.trans (hb7.mono gb.size)⟩
          case measure => simp [intOf]; omega
        · obtain rfl : j = n := by omega
          go_wp2
          refine bodyPost_ret (results_tmp rfl _ _ _) rfl ⟨rfl, gb⟩
  · obtain ⟨n, hn⟩ : ∃ n, a.size = n := ⟨_, rfl⟩
    have hna : n ≤ a.size := by omega
    have hnb : n ≤ b.size := by omega
    have hc1 : ¬ (b.size : Int) < (n : Int) := by omega
    have HC := Lib.hid hc
    clear hc
    by_cases h1 : 300 < n
    · have g1 : decide ((300 : Int) < (n : Int)) = true := by simp; omega
      go_enter Try.func8, Try.ntmps8
      go_wp2_with (go_at_call 17; (with_reducible refine (HS.out _).mono ?_); rintro e w1 ⟨rfl, hb1⟩)
      go_ret
      exact ⟨rfl, kb.trans (hb1.mono kb.size)⟩
    · have g1 : decide ((300 : Int) < (n : Int)) = false := by simp; omega
      have hla : (a.extract 0 n).size = n := by simp; omega
      have hlb : (b.extract 0 n).size = n := by simp; omega
      have hA := fun w => s_Apply l0 l1 (a.extract 0 n) w n0 o0 n1 o1 (by omega)
      have hB := fun w => s_Apply l0 l1 (b.extract 0 n) w n0 o0 n1 o1 (by omega)
      have hpf := padF_lt l0 l1
      generalize padF l0 l1 = pf at *
      have hsa := sl_bs (xrL_bys (sl_bys (a.extract 0 n)) hpf)
      have hsb := sl_bs (xrL_bys (sl_bys (b.extract 0 n)) hpf)
      have hza : (bs (nn (xrL (sl (a.extract 0 n)) pf))).size = n := by rw [bs_size, nn_length, xrL_len, sl_len, hla]
      have hzb : (bs (nn (xrL (sl (b.extract 0 n)) pf))).size = n := by rw [bs_size, nn_length, xrL_len, sl_len, hlb]
      have iA : ∀ j, j < n → (sl (bs (nn (xrL (sl (a.extract 0 n)) pf)))).getD j 0 = (sl a).getD j 0 ^^^ pf j := fun j hj => by
        rw [hsa, xrL_getD _ _ _ (by rw [sl_len, hla]; exact hj), sl_head, List.getD_eq_getElem?_getD, List.getElem?_take, if_pos hj, ← List.getD_eq_getElem?_getD]
      have iB : ∀ j, j < n → (sl (bs (nn (xrL (sl (b.extract 0 n)) pf)))).getD j 0 = (sl b).getD j 0 ^^^ pf j := fun j hj => by
        rw [hsb, xrL_getD _ _ _ (by rw [sl_len, hlb]; exact hj), sl_head, List.getD_eq_getElem?_getD, List.getElem?_take, if_pos hj, ← List.getD_eq_getElem?_getD]
      generalize bs (nn (xrL (sl (a.extract 0 n)) pf)) = X at *
      generalize bs (nn (xrL (sl (b.extract 0 n)) pf)) = Y at *
      have HA := Lib.hid hA
      have HB := Lib.hid hB
      have IA := Lib.hid iA
      have IB := Lib.hid iB
      have HPF := Lib.hid hpf
      have HL0 := Lib.hid n0
      have HL1 := Lib.hid n1
      clear hA hB iA iB hpf hsa hsb hla hlb n0 n1
      go_enter Try.func8, Try.ntmps8
      go_wp2_with (go_at_call 17; (with_reducible refine (HS.out _).mono ?_); rintro e w1 ⟨rfl, hb1⟩)
      have i0 := k0.below hb1 k0.lt
      have i1 := k1.below hb1 k1.lt
      have ib := kb.trans (hb1.mono kb.size)
      clear k0 k1 kb hb1
      have hA' : ∀ wx, NewBut w1 wx → Calls Try.prog 20 #[(.agg (ints .u8 (nn l0)).toArray), (.agg (ints .u8 (nn l1)).toArray), .string (a.extract 0 n)] wx fun e w' => e = .returned (.string X) ∧ NewBut w1 w' := fun wx h =>
        (HA.out wx).mono fun _ _ ⟨q1, q2⟩ => ⟨q1, h.trans (q2.mono h.size)⟩
      have HA' := Lib.hid hA'
      clear hA'
      have hQ0 : ∀ wx, NewBut w1 wx → wx.rangeAt w.heap.size 0 (ints .u8 (nn l0)) := fun wx h => (i0.below h i0.lt).whole
      have hQ1 : ∀ wx, NewBut w1 wx → wx.rangeAt (w.heap.size + 1) 0 (ints .u8 (nn l1)) := fun wx h => (i1.below h i1.lt).whole
      have HQ0 := Lib.hid hQ0
      have HQ1 := Lib.hid hQ1
      clear hQ0 hQ1
      refine region_quiet_tail (C := NewBut w1) 6 mixed (by kernel_rfl) (show Below _ _ _ from (Below.refl _ _).drew) ?_
      simp only [List.take_succ_cons, List.take_zero, List.drop_succ_cons, List.drop_zero]
      repeat (first | (refine wpQuiet_load_row rfl 23 _ rfl w.heap.size 0 rfl (ints .u8 (nn l0)) (fun wx h => HQ0.out wx h) Try.underlying23 rfl (by rw [size_hash, ints_length, nn_length, HL0.out]) ?_) | (refine wpQuiet_load_row rfl 28 _ rfl (w.heap.size + 1) 0 rfl (ints .u8 (nn l1)) (fun wx h => HQ1.out wx h) Try.underlying28 rfl (by rw [size_b16, ints_length, nn_length, HL1.out]) ?_) | (refine wpQuiet_step (fun K' hK' => ?_); go_simp; first | (refine ⟨_, fun _ _ => rfl, hK' _ ?_⟩; clear hK' K') | ((with_reducible refine ⟨_, fun wx hx => HA'.out wx hx, hK' _ ?_⟩); clear hK' K')))
      refine wpQuiet_nil ?_
      clear HQ0 HQ1
      intro w2 hb
      have i0' := i0.below hb i0.lt
      have i1' := i1.below hb i1.lt
      have ib' := ib.trans (hb.mono ib.size)
      clear i0 i1 ib hb
      have i0 := i0'
      have i1 := i1'
      have ib := ib'
      clear i0' i1' ib'
      clear HA HA'
      go_wp2_with fail
      have hB' : ∀ wx, NewBut w2 wx → Calls Try.prog 20 #[(.agg (ints .u8 (nn l0)).toArray), (.agg (ints .u8 (nn l1)).toArray), .string (b.extract 0 n)] wx fun e w' => e = .returned (.string Y) ∧ NewBut w2 w' := fun wx h =>
        (HB.out wx).mono fun _ _ ⟨q1, q2⟩ => ⟨q1, h.trans (q2.mono h.size)⟩
      have HB' := Lib.hid hB'
      clear hB'
      have hQ0 : ∀ wx, NewBut w2 wx → wx.rangeAt w.heap.size 0 (ints .u8 (nn l0)) := fun wx h => (i0.below h i0.lt).whole
      have hQ1 : ∀ wx, NewBut w2 wx → wx.rangeAt (w.heap.size + 1) 0 (ints .u8 (nn l1)) := fun wx h => (i1.below h i1.lt).whole
      have HQ0 := Lib.hid hQ0
      have HQ1 := Lib.hid hQ1
      clear hQ0 hQ1
      refine region_quiet_tail (C := NewBut w2) 6 mixed (by kernel_rfl) (show Below _ _ _ from (Below.refl _ _).drew) ?_
      simp only [List.take_succ_cons, List.take_zero, List.drop_succ_cons, List.drop_zero]
      repeat (first | (refine wpQuiet_load_row rfl 23 _ rfl w.heap.size 0 rfl (ints .u8 (nn l0)) (fun wx h => HQ0.out wx h) Try.underlying23 rfl (by rw [size_hash, ints_length, nn_length, HL0.out]) ?_) | (refine wpQuiet_load_row rfl 28 _ rfl (w.heap.size + 1) 0 rfl (ints .u8 (nn l1)) (fun wx h => HQ1.out wx h) Try.underlying28 rfl (by rw [size_b16, ints_length, nn_length, HL1.out]) ?_) | (refine wpQuiet_step (fun K' hK' => ?_); go_simp; first | (refine ⟨_, fun _ _ => rfl, hK' _ ?_⟩; clear hK' K') | ((with_reducible refine ⟨_, fun wx hx => HB'.out wx hx, hK' _ ?_⟩); clear hK' K')))
      refine wpQuiet_nil ?_
      clear HQ0 HQ1
      intro w3 hb
      have i0' := i0.below hb i0.lt
      have i1' := i1.below hb i1.lt
      have ib' := ib.trans (hb.mono ib.size)
      clear i0 i1 ib hb
      have i0 := i0'
      have i1 := i1'
      have ib := ib'
      clear i0' i1' ib'
      clear HB HB'
      go_wp2
      clear i0 i1 HS HL0 HL1 o0 o1
      go_loopw [12] (fun i wr => ∃ j : Nat, j ≤ n ∧ i = .int .i64 (j : Int) ∧ Below w.heap.size w wr) (fun i _ => n - (intOf i).toNat)
      case atStart => exact ⟨0, by omega, rfl, ib⟩
      case round =>
        obtain ⟨j, hj, rfl, gb⟩ := hrel
        clear ib
        by_cases hlt : j < n
        · have x1 := fun w => index_sl X .i64 j (by omega) w
          have x2 := fun w => index_sl Y .i64 j (by omega) w
          have x3 := fun w => index_sl a .i64 j (by omega) w
          have x4 := fun w => index_sl b .i64 j (by omega) w
          rw [IA.out j hlt] at x1
          rw [IB.out j hlt] at x2
          have ha := sl_bys a j
          have hb := sl_bys b j
          have hp := HPF.out j
          have y1 := xor_byte ((sl a).getD j 0 ^^^ pf j) ((sl b).getD j 0 ^^^ pf j) (xor_lt ha hp) (xor_lt hb hp)
          have y2 := xor_byte ((sl a).getD j 0) ((sl b).getD j 0) ha hb
          have hz : ((sl a).getD j 0 ^^^ pf j) ^^^ ((sl b).getD j 0 ^^^ pf j) = (sl a).getD j 0 ^^^ (sl b).getD j 0 := by
            rw [xor4, Nat.xor_self, Nat.xor_zero]
          rw [hz] at y1
          have d1 : (j : Int) < (n : Int) := by omega
          have d2 : (j : Int) < 65536 := by omega
          clear hz ha hb hp IA IB HPF
          generalize (sl a).getD j 0 ^^^ (sl b).getD j 0 = zv at *
          generalize (sl a).getD j 0 ^^^ pf j = xv at *
          generalize (sl b).getD j 0 ^^^ pf j = yv at *
          generalize (sl a).getD j 0 = av at *
          generalize (sl b).getD j 0 = bv at *
          go_wp2_with fail
          refine region_quiet_tail (C := NewBut wr) 14 mixed (by kernel_rfl) (show Below _ _ _ from (Below.refl _ _).drew) ?_
          simp only [List.take_succ_cons, List.take_zero, List.drop_succ_cons, List.drop_zero]
          repeat (refine wpQuiet_step (fun K' hK' => ?_); go_simp; (refine ⟨_, fun _ _ => rfl, hK' _ ?_⟩; clear hK' K'))
          refine wpQuiet_nil ?_
          intro w7 hb7
          go_wp2
          go_roundw
          case rel => exact ⟨j + 1, by omega, by go_num, gb.trans (hb7.mono gb.size)⟩
          case measure => simp [intOf]; omega
        · obtain rfl : j = n := by omega
          go_wp2
          refine bodyPost_ret (results_tmp rfl _ _ _) rfl ⟨rfl, gb⟩

set_option maxRecDepth 100000 in
theorem lifted (os : Os) (started : os.Started) (H : Type) (enc : TypeId × Value → H) :
    ReturnsInHanded {} Try.checked os 8 .any (Rows.streamXorSpec.pre6 enc Try.prog Try.f8 Rows.streamXorRow.domain false) (Rows.streamXorSpec.post enc Try.prog Try.f8 false true false false) := by
  refine returnsInHanded_of_change (C := Try.checked) own started (by kernel_rfl) Try.func8
    (ChangeSpec.witness6 (enc := enc) (C := Try.checked) false ⟨#[], #[.agg (ints .u8 (List.replicate 32 0)).toArray, .agg (ints .u8 (List.replicate 16 0)).toArray, .string ByteArray.empty, .string ByteArray.empty], []⟩ 8 (by kernel_rfl) (by kernel_rfl) (by kernel_rfl) (by kernel_rfl)) ?_
  intro W base args ds gs before hval0 hW hcnd _
  have hval : ∀ (j : Nat) t v, Try.f8.params[j]? = some t → args[j]? = some v → Value.okWide Try.prog W .any base t v := hval0
  have hW' := hW
  obtain ⟨p, q, hA0, hV, rfl, hfz, hnd⟩ := hW
  have hA : DataW.TrodAll enc Try.prog W 0 (fun _ => true) true Try.f8.params.toList args.toList ds p := hA0
  rw [Try.params8] at hA hval
  obtain ⟨v0, vs0, d0, ds0, p0, q0, hargs, rfl, rfl, h0, r0⟩ := trodAll_cons hA
  obtain ⟨v1, vs1, d1, ds1, p1, q1, rfl, rfl, rfl, h1, r1⟩ := trodAll_cons r0
  obtain ⟨v2, vs2, d2, ds2, p2, q2, rfl, rfl, rfl, h2, r2⟩ := trodAll_cons r1
  obtain ⟨v3, vs3, d3, ds3, p3, q3, rfl, rfl, rfl, h3, r3⟩ := trodAll_cons r2
  obtain ⟨rfl, rfl, rfl⟩ := trodAll_nil r3
  obtain rfl : args = #[v0, v1, v2, v3] := by cases args; simp_all
  obtain ⟨rfl, rfl⟩ := trodVars_none hV
  have k0 := h0
  have lt0 : ∀ x ∈ p0, x.block < W.heap.size := by obtain ⟨m, hm⟩ := k0; exact DataW.trod_lt m _ _ _ hm
  obtain ⟨cs0, hcs0, _, _⟩ : ∃ cs, v0 = .agg cs ∧ cs.size = Try.prog.cellsOf 23 ∧ Row.okWide Try.prog W .any base 23 cs := by
    have := hval 0 23 v0 rfl rfl
    simpa [Value.okWide, Try.underlying23] using this
  obtain ⟨l0, hl0, n0, o0⟩ := open_bys Try.underlying23 Try.underlying5 cells_u8 cells_h32 cs0 hcs0 h0
  have k1 := h1
  have lt1 : ∀ x ∈ p1, x.block < W.heap.size := by obtain ⟨m, hm⟩ := k1; exact DataW.trod_lt m _ _ _ hm
  obtain ⟨cs1, hcs1, _, _⟩ : ∃ cs, v1 = .agg cs ∧ cs.size = Try.prog.cellsOf 28 ∧ Row.okWide Try.prog W .any base 28 cs := by
    have := hval 1 28 v1 rfl rfl
    simpa [Value.okWide, Try.underlying28] using this
  obtain ⟨l1, hl1, n1, o1⟩ := open_bys Try.underlying28 Try.underlying5 cells_u8 cells_b16 cs1 hcs1 h1
  obtain ⟨l2, rfl, rfl, rfl, n2⟩ := open_string Try.underlying9 (hval 2 9 v2 rfl rfl) h2
  obtain ⟨l3, rfl, rfl, rfl, n3⟩ := open_string Try.underlying9 (hval 3 9 v3 rfl rfl) h3
  clear hcs0
  subst hl0
  clear hcs1
  subst hl1
  clear hA0 hval0
  simp only [List.append_nil] at hW'
  refine (walk l0 l1 l2 l3 n0 o0 n1 o1 n2 n3 W).mono fun e W' ⟨he, bel⟩ => ?_
  subst he
  exact ⟨_, rfl, _, _, _, [], _, [], hW', trodAll_mk1 (shut_bool Try.underlying4 _), (trodAll_cons_mk (Below.trod laidOut (by kernel_rfl) (of_decide_eq_true (by kernel_rfl)) k0 bel lt0) (trodAll_cons_mk (Below.trod laidOut (by kernel_rfl) (of_decide_eq_true (by kernel_rfl)) k1 bel lt1) (trodAll_cons_mk (shut_string Try.underlying9 n2) (trodAll_cons_mk (shut_string Try.underlying9 n3) trodAll_mk0)))), rfl, bel.frame _, fun h => by cases h⟩

theorem over : Rows.streamXorRow.holds Try.pinned (OpenSpec.ofChange Rows.streamXorSpec) :=
  OpenClaim.holds_of_wide 8 Try.f8 rfl rfl rfl rfl rfl rfl rfl ⟨rfl, rfl, rfl, rfl, rfl⟩ rfl rfl rfl rfl rfl (by kernel_rfl) Try.func8 (by kernel_rfl)
    (of_decide_eq_true (by kernel_rfl)) (by unfold Func.isWrapper; first | (rw [if_pos (by decide +kernel)]; kernel_rfl) | (rw [if_neg (by decide +kernel)]; exact ⟨rfl, rfl⟩))
    (fun os started H enc _ => lifted os started H enc)

theorem proved : Rows.StreamXorSaid :=
  over
#print axioms proved
end Go.Proofs.Ytgagafefhmofjaa.streamXor
