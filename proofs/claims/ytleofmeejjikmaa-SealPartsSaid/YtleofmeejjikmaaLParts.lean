/- Walks of seal's parts: ahead, sealBy, joined. -/
import Derived.Test.YtleofmeejjikmaaLSpec
namespace Go.Proofs.Ytleofmeejjikmaa
open Go.RowKit
set_option linter.unusedVariables false

theorem size_b16' : (Try.prog.info? 23).map (·.size) = some 16 := by kernel_rfl
theorem size_parts : (Try.prog.info? 47).map (·.size) = some 49 := by kernel_rfl

set_option maxRecDepth 100000 in
set_option maxHeartbeats 400000 in
theorem l_ahead (nc : List Nat) (m : ByteArray) (h : List Nat) (w : World) (hn : nc.length = 16) (hh : h.length = 32) (hm : m.size ≤ 549755813000) :
    Calls Try.prog 28 #[.agg (prow nc m h).toArray] w fun e w' => e = .returned (.string (aheadT nc m)) ∧ Below w.heap.size w w' := by
  have hadd : ∀ w, (Op.stringOp .add (bs (nn nc)) m).run Try.prog w = .ok (.string (aheadT nc m)) w := fun w => by
    rw [run_string_add_sum]
    · rfl
    · rw [bs_size, nn_length, hn]; omega
  have K : Blk (w.alloc (.cells (prow nc m h).toArray 47)) w.heap.size 47 ([] ++ (ints .u8 (nn nc) ++ (Value.string m :: ints .u8 (nn h)))) := Blk.new w _ _
  have K2 : Blk (w.alloc (.cells (prow nc m h).toArray 47)) w.heap.size 47 (ints .u8 (nn nc) ++ (Value.string m :: ints .u8 (nn h))) := Blk.new w _ _
  have Kb := (Below.refl w.heap.size w).alloc (Nat.le_refl _) (.cells (prow nc m h).toArray 47)
  have HL : (nn nc).length = 16 := by rw [nn_length, hn]
  have hL := nc_len hn
  generalize prow nc m h = row at *
  generalize aheadT nc m = T at *
  go_enter Try.func28, Try.ntmps28
  go_wp2_with fail
  generalize World.alloc w _ = w1 at *
  have H0 : ∀ wx, NewBut w1 wx → wx.rangeAt w.heap.size 0 (ints .u8 (nn nc)) := fun wx hx => (K.below hx K.lt).part 0 rfl
  have H1 : ∀ wx, NewBut w1 wx → wx.cell? ⟨w.heap.size, 16, none⟩ = some (.string m) := fun wx hx => (K2.below hx K2.lt).one 16 hL.symm
  have H0 := Lib.hid H0
  have H1 := Lib.hid H1
  have HL := Lib.hid HL
  clear K K2 hL
  refine region_quiet_tail (C := NewBut w1) 6 mixed (by kernel_rfl) (show Below _ _ _ from (Below.refl _ _).drew) ?_
  simp only [List.take_succ_cons, List.take_zero, List.drop_succ_cons, List.drop_zero]
  repeat (first | (refine wpQuiet_bytes_mid rfl 53 9 5 _ rfl w.heap.size 0 16 16 (nn nc) rfl Try.underlying53 Try.underlying5 Try.underlying9 H0.out HL.out.symm ?_) | (refine wpQuiet_load_one rfl 9 _ rfl ⟨w.heap.size, 16, none⟩ rfl (.string m) H1.out Try.underlying9 rfl ?_) | (refine wpQuiet_step (fun K' hK' => ?_); go_simp; refine ⟨_, fun _ _ => rfl, hK' _ ?_⟩; clear hK' K'))
  refine wpQuiet_nil ?_
  intro w5 hb5
  go_wp2
  go_ret
  exact ⟨rfl, Kb.trans (hb5.mono Kb.size)⟩

set_option maxRecDepth 100000 in
set_option maxHeartbeats 400000 in
theorem l_sealBy (nc : List Nat) (m : ByteArray) (h k : List Nat) (w : World) (hn : nc.length = 16) (hh : h.length = 32) (hk : k.length = 32) (hm : m.size ≤ 65536) :
    Calls Try.prog 20 #[.agg (prow nc m h).toArray, .agg (ints .u8 (nn k)).toArray] w fun e w' => e = .returned (.agg (ints .u8 (nn (macN (tx k) (aheadT nc m)))).toArray) ∧ Below w.heap.size w w' := by
  have hA := fun w => l_ahead nc m h w hn hh (by omega)
  have hM : ∀ w, Calls Try.prog 23 #[.string (bs (nn k)), .string (aheadT nc m)] w fun e w' => e = .returned (.agg (ints .u8 (nn (macN (tx k) (aheadT nc m)))).toArray) ∧ Below w.heap.size w w' := fun w => d_MacN (tx k) (aheadT nc m) w (by rw [tx_size, hk]; omega) (by rw [aheadT_size m hn]; omega)
  have hR := prow_len m hn hh
  have hOL := macN_len (tx k) (aheadT nc m)
  have hkl : (nn k).length = 32 := by rw [nn_length, hk]
  generalize prow nc m h = row at *
  generalize macN (tx k) (aheadT nc m) = O at *
  generalize aheadT nc m = T at *
  have HA := Lib.hid hA
  have HM := Lib.hid hM
  have HR := Lib.hid hR
  have HOL := Lib.hid hOL
  have HKL := Lib.hid hkl
  clear hA hM hR hOL hkl
  go_enter Try.func20, Try.ntmps20
  go_wp2_with fail
  generalize hW : World.alloc (World.alloc (World.alloc w _) _) _ = w1 at *
  have K0 : Blk w1 w.heap.size 47 row := by rw [← hW]; exact ((Blk.newAt w _ rfl _ row rfl).alloc _).alloc _
  have K1 : Blk w1 (w.heap.size + 1) 29 ([] ++ (ints .u8 (nn k) ++ [])) := by rw [← hW]; exact (Blk.newAt _ _ (by simp) _ _ (by simp)).alloc _
  have K2 : Blk w1 (w.heap.size + 2) 29 (ints .u8 (nn (zerN 32))) := by rw [← hW]; exact Blk.newAt _ _ (by simp) _ _ rfl
  have Kb : Below w.heap.size w w1 := by rw [← hW]; exact (((Below.refl _ _).alloc (Nat.le_refl _) _).alloc (by simp) _).alloc (by simp; omega) _
  clear hW
  have hA1 := inBut (wr := w1) HA.out
  have hM1 := inBut (wr := w1) HM.out
  have hB : ∀ wx, NewBut w1 wx → wx.rangeAt (w.heap.size + 1) 0 (ints .u8 (nn k)) := fun wx hx => (K1.below hx K1.lt).part 0 rfl
  have hL : ∀ wx, NewBut w1 wx → wx.rangeAt w.heap.size 0 row := fun wx hx => (K0.below hx K0.lt).whole
  have HA1 := Lib.hid hA1
  have HM1 := Lib.hid hM1
  have HB := Lib.hid hB
  have HL := Lib.hid hL
  clear hA1 hM1 hB hL
  refine region_quiet_tail (C := NewBut w1) 5 mixed (by kernel_rfl) (show Below _ _ _ from (Below.refl _ _).drew) ?_
  simp only [List.take_succ_cons, List.take_zero, List.drop_succ_cons, List.drop_zero]
  repeat (first | (refine wpQuiet_bytes_mid rfl 53 9 5 _ rfl (w.heap.size + 1) 0 32 32 (nn k) rfl Try.underlying53 Try.underlying5 Try.underlying9 HB.out HKL.out.symm ?_) | (refine wpQuiet_load_row rfl 47 _ rfl w.heap.size 0 rfl row HL.out Try.underlying47 rfl (by rw [size_parts, HR.out]) ?_) | (refine wpQuiet_step (fun K' hK' => ?_); go_simp; first | (refine ⟨_, fun _ _ => rfl, hK' _ ?_⟩; clear hK' K') | ((with_reducible refine ⟨_, fun wx hx => HA1.out wx hx, hK' _ ?_⟩); clear hK' K') | ((with_reducible refine ⟨_, fun wx hx => HM1.out wx hx, hK' _ ?_⟩); clear hK' K')))
  refine wpQuiet_nil ?_
  intro w5 hb5
  have hr5 := K2.below hb5 K2.lt
  refine wpList_store_blk rfl 29 _ _ rfl (w.heap.size + 2) (ints .u8 (nn O)) rfl rfl hr5 (by rw [size_hash, ints_length, nn_length, HOL.out]) (by rw [ints_length, ints_length, nn_length, nn_length, HOL.out]; rfl) (ints_one _ _) ?_
  go_wp2_with fail
  refine bodyPost_ret (v := .agg (ints .u8 (nn O)).toArray) (results_cell_blk rfl _ _ _ rfl (hr5.row (ints .u8 (nn O)) (by rw [ints_length, ints_length, nn_length, nn_length, HOL.out]; rfl)) Try.underlying29 rfl (by rw [size_hash, ints_length, nn_length, HOL.out])) rfl ⟨rfl, below_setRow (Kb.trans (hb5.mono Kb.size)) (by omega) _⟩

set_option maxRecDepth 100000 in
set_option maxHeartbeats 400000 in
theorem l_joined (nc : List Nat) (m : ByteArray) (h : List Nat) (w : World) (hn : nc.length = 16) (hh : h.length = 32) (hm : m.size ≤ 65536) :
    Calls Try.prog 24 #[.agg (prow nc m h).toArray] w fun e w' => e = .returned (.string (aheadT nc m ++ tx h)) ∧ Below w.heap.size w w' := by
  have hA := fun w => l_ahead nc m h w hn hh (by omega)
  have hadd : ∀ w, (Op.stringOp .add (aheadT nc m) (bs (nn h))).run Try.prog w = .ok (.string (aheadT nc m ++ tx h)) w := fun w => by
    rw [run_string_add_sum]
    · rfl
    · rw [bs_size, nn_length, hh, aheadT_size m hn]; omega
  have K0 : Blk (w.alloc (.cells (prow nc m h).toArray 47)) w.heap.size 47 (prow nc m h) := Blk.new w _ _
  have K1 : Blk (w.alloc (.cells (prow nc m h).toArray 47)) w.heap.size 47 ((ints .u8 (nn nc) ++ [Value.string m]) ++ (ints .u8 (nn h) ++ [])) := by
    rw [show (ints .u8 (nn nc) ++ [Value.string m]) ++ (ints .u8 (nn h) ++ []) = prow nc m h by simp [prow]]; exact K0
  have hP : 17 = (ints .u8 (nn nc) ++ [Value.string m]).length := by rw [List.length_append, nc_len hn]; rfl
  have hR := prow_len m hn hh
  have hHL : (nn h).length = 32 := by rw [nn_length, hh]
  have Kb := (Below.refl w.heap.size w).alloc (Nat.le_refl _) (.cells (prow nc m h).toArray 47)
  generalize aheadT nc m ++ tx h = Z at *
  generalize aheadT nc m = T at *
  generalize prow nc m h = row at *
  have HA := Lib.hid hA
  have HR := Lib.hid hR
  have HHL := Lib.hid hHL
  clear hA hR hHL
  go_enter Try.func24, Try.ntmps24
  go_wp2_with fail
  generalize World.alloc w _ = w1 at *
  have hA1 := inBut (wr := w1) HA.out
  have hB : ∀ wx, NewBut w1 wx → wx.rangeAt w.heap.size 17 (ints .u8 (nn h)) := fun wx hx => (K1.below hx K1.lt).part 17 hP
  have hL : ∀ wx, NewBut w1 wx → wx.rangeAt w.heap.size 0 row := fun wx hx => (K0.below hx K0.lt).whole
  have HA1 := Lib.hid hA1
  have HB := Lib.hid hB
  have HL := Lib.hid hL
  clear hA1 hB hL K0 K1 hP
  refine region_quiet_tail (C := NewBut w1) 6 mixed (by kernel_rfl) (show Below _ _ _ from (Below.refl _ _).drew) ?_
  simp only [List.take_succ_cons, List.take_zero, List.drop_succ_cons, List.drop_zero]
  repeat (first | (refine wpQuiet_bytes_mid rfl 53 9 5 _ rfl w.heap.size 17 32 32 (nn h) rfl Try.underlying53 Try.underlying5 Try.underlying9 HB.out HHL.out.symm ?_) | (refine wpQuiet_load_row rfl 47 _ rfl w.heap.size 0 rfl row HL.out Try.underlying47 rfl (by rw [size_parts, HR.out]) ?_) | (refine wpQuiet_step (fun K' hK' => ?_); go_simp; first | (refine ⟨_, fun _ _ => rfl, hK' _ ?_⟩; clear hK' K') | ((with_reducible refine ⟨_, fun wx hx => HA1.out wx hx, hK' _ ?_⟩); clear hK' K')))
  refine wpQuiet_nil ?_
  intro w5 hb5
  go_wp2
  go_ret
  exact ⟨rfl, Kb.trans (hb5.mono Kb.size)⟩
end Go.Proofs.Ytleofmeejjikmaa
