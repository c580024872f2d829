/- The store's Put: a block that is there, one for which there is no room, a new one. -/
import Derived.Test.YtbobdbdknapdcaaSoOpe
import Derived.Test.YtbobdbdknapdcaaD5
namespace Go.Proofs.Ytbobdbdknapdcaa
open Go.RowKit
set_option linter.unusedVariables false

variable {w w' : World} {base : Nat}
theorem alloc_h32P (w : World) : (Instr.alloc 30 true (.tuple #[])).run Try.prog w = .ok (.pointer (some ⟨w.heap.size, 0, none⟩)) (w.alloc (.cells (ints .u8 (List.replicate 32 0)).toArray 30)) := by kernel_rfl
theorem build_h32P (w : World) : (Instr.build 30 #[]).run Try.prog w = .ok (.agg (ints .u8 (List.replicate 32 0)).toArray) w := by kernel_rfl
theorem intsP_one (l : List Int) : (ints .u8 l).toArray.all (·.oneCell') = true := ints_one _ _
set_option maxRecDepth 100000 in
set_option maxHeartbeats 4000000 in
theorem s_put_old {P : Nat} {L : List (List Nat)} {r : Nat} (h : StoW base w P L r) (hw : base ≤ w.heap.size) (s : ByteArray) (hs : s.size ≤ 150) (hn : sumL s ∈ L.map nmB) :
    Calls Try.prog 7 #[ptD P, .string s] w fun x w' => x = .returned (.tuple #[agN (sumL s), .int .i64 0]) ∧ StoW base w' P L r ∧ Below base w w' := by
  obtain ⟨D, b0, b1, b2, J, nx, M, k, x1, v, Dm, d, js, F, hd⟩ := h
  obtain ⟨R, hR⟩ : ∃ R, ints .u8 (sumL s) = R := ⟨_, rfl⟩
  have hRl : R.length = 32 := by rw [← hR, ints_length, sumL_len]
  have hR1 : R.toArray.all (·.oneCell') = true := by rw [← hR]; exact intsP_one _
  obtain ⟨Zr, hZr⟩ : ∃ Zr, ints .u8 (List.replicate 32 0) = Zr := ⟨_, rfl⟩
  have hZl : Zr.length = 32 := by rw [← hZr, ints_length]; rfl
  have hZ1 : Zr.toArray.all (·.oneCell') = true := by rw [← hZr]; exact intsP_one _
  obtain ⟨Z, hZ⟩ : ∃ Z, w.heap.size = Z := ⟨_, rfl⟩
  obtain ⟨w1, hw1⟩ : ∃ w1, w.alloc (.cells Zr.toArray 30) = w1 := ⟨_, rfl⟩
  have b1 : Below w.heap.size w w1 := by rw [← hw1]; exact (Below.refl w.heap.size w).alloc (Nat.le_refl _) _
  have z1 : Blk w1 Z 30 Zr := by rw [← hw1]; exact Blk.newAt w Z hZ _ _ rfl
  have hal : ∀ wx : World, (Instr.alloc 30 true (.tuple #[])).run Try.prog wx = .ok (.pointer (some ⟨wx.heap.size, 0, none⟩)) (wx.alloc (.cells Zr.toArray 30)) := fun wx => by rw [← hZr]; exact alloc_h32P wx
  have hbd : ∀ wx : World, (Instr.build 30 #[]).run Try.prog wx = .ok (.agg Zr.toArray) wx := fun wx => by rw [← hZr]; exact build_h32P wx
  have hsu := d_Sum s w1 (by omega)
  change Calls _ _ _ _ (fun e w' => e = .returned (.agg (ints .u8 (sumL s)).toArray) ∧ Below w1.heap.size w1 w') at hsu
  rw [hR] at hsu
  have c1023 : ¬ (1023 : Int) < (s.size : Int) := by omega
  have hag : agN (sumL s) = .agg R.toArray := by rw [← hR]; rfl
  have hagz : agN (List.replicate 32 0) = .agg Zr.toArray := by rw [← hZr]; rfl
  have HAL := Lib.hid hal
  have HBD := Lib.hid hbd
  have HSU := Lib.hid hsu
  have HZ := Lib.hid hZ
  have Z1 := Lib.hid z1
  have B1 := Lib.hid b1
  have HD := Lib.hid hd
  have HRL := Lib.hid hRl
  have HR1 := Lib.hid hR1
  have HZL := Lib.hid hZl
  have HZ1 := Lib.hid hZ1
  have HW := Lib.hid hw
  have HS := Lib.hid hs
  have HHAS := Lib.hid (fun (wx : World) (hx : Below w.heap.size w wx) => c_has (hd.con.below hx) (sumL s) (sumL_octets s) (sumL_len s) true (decide_eq_true hn))
  have HAG := Lib.hid hag
  have HAGZ := Lib.hid hagz
  have HRR := Lib.hid hR
  rw [hag] at HHAS ⊢
  clear hal hbd hsu z1 b1 hd hRl hR1 hZl hZ1 hw hs hag hagz hn
  unfold ptD
  go_enter Try.func7, Try.ntmps7
  go_wp2_with (refine wpList_alloc_n rfl 30 rfl Z HZ.out _ (HAL.out _) ?_; rw [hw1])
  (with_reducible refine HSU.out.mono ?_)
  rintro e w2 ⟨rfl, b2⟩
  obtain ⟨N, hN⟩ : ∃ N, w2.heap.size = N := ⟨_, rfl⟩
  obtain ⟨w3, hw3⟩ : ∃ w3, w2.alloc (.cells Zr.toArray 30) = w3 := ⟨_, rfl⟩
  have hZw := HZ.out
  have Z2 := Z1.out.below b2 Z1.out.lt
  have hZN : Z < N := by rw [← hN]; exact Z2.lt
  have q3 : Below w2.heap.size w2 w3 := by rw [← hw3]; exact (Below.refl _ _).alloc (Nat.le_refl _) _
  have n3 : Blk w3 N 30 Zr := by rw [← hw3]; exact Blk.newAt w2 N hN _ _ rfl
  have z3 := Z2.below q3 Z2.lt
  obtain ⟨w4, hw4⟩ : ∃ w4, w3.setRow N R.toArray = w4 := ⟨_, rfl⟩
  have n4 : Blk w4 N 30 R := by rw [← hw4]; exact n3.row R (by rw [HRL.out, HZL.out])
  have z4 : Blk w4 Z 30 Zr := by rw [← hw4]; exact z3.rowOther (by omega) _
  have b4 : Below w.heap.size w w4 := by
    rw [← hw4]
    refine below_setRow ?_ (by omega) _
    exact (B1.out.trans (b2.mono B1.out.size)).trans (q3.mono (by have := b2.size; have := B1.out.size; omega))
  have N3 := Lib.hid n3
  have N4 := Lib.hid n4
  have Z4 := Lib.hid z4
  have B4 := Lib.hid b4
  have HN := Lib.hid hN
  have HZN := Lib.hid hZN
  have HH := Lib.hid (HHAS.out w4 b4)
  have HRG : Hid (∀ wx : World, (∃ m, wx = w4.drewN m) → wx.rangeAt N 0 R) := Lib.hid fun wx ⟨m, e⟩ => by rw [e]; exact (n4.drewN m).whole
  clear b2 hZw Z2 hZN q3 n3 z3 n4 z4 b4
  go_wp2_with (first | (refine wpList_alloc_n rfl 30 rfl N HN.out _ (HAL.out _) ?_; rw [hw3]) | (refine wpList_store_blk rfl 30 _ _ rfl N R rfl rfl N3.out (by rw [size_hashC, HRL.out]) (by rw [HRL.out, HZL.out]) HR1.out ?_; rw [hw4]))
  refine region_drew_tail 4 mixed (by kernel_rfl) ?_
  simp only [List.take_succ_cons, List.take_zero, List.drop_succ_cons, List.drop_zero]
  repeat (first | (refine wpQuiet_load_row rfl 30 _ rfl N 0 rfl R HRG.out Try.underlying30 rfl (by rw [size_hashC, HRL.out]) ?_) | go_big_quiet_step (fail) | (refine wpQuiet_step (fun K' hK' => ?_); go_simp; first | (refine hK' _ ?_; clear hK' K') | (refine ⟨_, fun _ _ => rfl, hK' _ ?_⟩; clear hK' K')))
  refine wpQuiet_nil ?_
  rintro _ ⟨m1, rfl⟩
  have HH1 := Lib.hid (HHAS.out (w4.drewN m1) (below_drewN B4.out m1))
  go_wp2_with fail
  (with_reducible refine HH1.out.mono ?_)
  rintro e w5 ⟨rfl, b5⟩
  have n5 := (N4.out.drewN m1).below b5 N4.out.lt
  have z5 := (Z4.out.drewN m1).below b5 Z4.out.lt
  have B5 := (below_drewN B4.out m1).trans (b5.mono B4.out.size)
  have N5 := Lib.hid n5
  have Z5 := Lib.hid z5
  have HB5 := Lib.hid B5
  obtain ⟨w6, hw6⟩ : ∃ w6, w5.setRow Z R.toArray = w6 := ⟨_, rfl⟩
  have z6 : Blk w6 Z 30 R := by rw [← hw6]; exact z5.row R (by rw [HRL.out, HZL.out])
  have B6 : Below w.heap.size w w6 := by rw [← hw6]; exact below_setRow B5 (by rw [HZ.out]; exact Nat.le_refl _) _
  have Z6 := Lib.hid z6
  have HB6 := Lib.hid B6
  clear b5 n5 z5 B5 z6 B6
  go_wp2_with (first | (refine wpList_load_blk rfl 30 _ rfl N rfl N5.out Try.underlying30 rfl (by rw [size_hashC, HRL.out]) ?_) | (refine wpList_store_blk rfl 30 _ _ rfl Z R rfl rfl Z5.out (by rw [size_hashC, HRL.out]) (by rw [HRL.out, HZL.out]) HR1.out ?_; rw [hw6]))
  refine bodyPost_ret (v := .tuple #[.agg R.toArray, .int .i64 0]) (results_cell_tmp rfl _ _ Z rfl (.int .i64 0) rfl Z6.out Try.underlying30 rfl (by rw [size_hashC, HRL.out])) rfl ⟨rfl, ⟨D, b0, b1, b2, J, nx, M, k, x1, v, Dm, d, js, F, HD.out.keep HB6.out⟩, HB6.out.mono HW.out⟩
set_option maxRecDepth 100000 in
set_option maxHeartbeats 4000000 in
theorem s_put_full {P : Nat} {L : List (List Nat)} {r : Nat} (h : StoW base w P L r) (hw : base ≤ w.heap.size) (s : ByteArray) (hs : s.size ≤ 150) (hn : sumL s ∉ L.map nmB) (hl : L.length = 20) :
    Calls Try.prog 7 #[ptD P, .string s] w fun x w' => x = .returned (.tuple #[agN (List.replicate 32 0), .int .i64 150]) ∧ StoW base w' P L r ∧ Below base w w' := by
  obtain ⟨D, b0, b1, b2, J, nx, M, k, x1, v, Dm, d, js, F, hd⟩ := h
  obtain ⟨R, hR⟩ : ∃ R, ints .u8 (sumL s) = R := ⟨_, rfl⟩
  have hRl : R.length = 32 := by rw [← hR, ints_length, sumL_len]
  have hR1 : R.toArray.all (·.oneCell') = true := by rw [← hR]; exact intsP_one _
  obtain ⟨Zr, hZr⟩ : ∃ Zr, ints .u8 (List.replicate 32 0) = Zr := ⟨_, rfl⟩
  have hZl : Zr.length = 32 := by rw [← hZr, ints_length]; rfl
  have hZ1 : Zr.toArray.all (·.oneCell') = true := by rw [← hZr]; exact intsP_one _
  obtain ⟨Z, hZ⟩ : ∃ Z, w.heap.size = Z := ⟨_, rfl⟩
  obtain ⟨w1, hw1⟩ : ∃ w1, w.alloc (.cells Zr.toArray 30) = w1 := ⟨_, rfl⟩
  have b1 : Below w.heap.size w w1 := by rw [← hw1]; exact (Below.refl w.heap.size w).alloc (Nat.le_refl _) _
  have z1 : Blk w1 Z 30 Zr := by rw [← hw1]; exact Blk.newAt w Z hZ _ _ rfl
  have hal : ∀ wx : World, (Instr.alloc 30 true (.tuple #[])).run Try.prog wx = .ok (.pointer (some ⟨wx.heap.size, 0, none⟩)) (wx.alloc (.cells Zr.toArray 30)) := fun wx => by rw [← hZr]; exact alloc_h32P wx
  have hbd : ∀ wx : World, (Instr.build 30 #[]).run Try.prog wx = .ok (.agg Zr.toArray) wx := fun wx => by rw [← hZr]; exact build_h32P wx
  have hsu := d_Sum s w1 (by omega)
  change Calls _ _ _ _ (fun e w' => e = .returned (.agg (ints .u8 (sumL s)).toArray) ∧ Below w1.heap.size w1 w') at hsu
  rw [hR] at hsu
  have c1023 : ¬ (1023 : Int) < (s.size : Int) := by omega
  have hag : agN (sumL s) = .agg R.toArray := by rw [← hR]; rfl
  have hagz : agN (List.replicate 32 0) = .agg Zr.toArray := by rw [← hZr]; rfl
  have HAL := Lib.hid hal
  have HBD := Lib.hid hbd
  have HSU := Lib.hid hsu
  have HZ := Lib.hid hZ
  have Z1 := Lib.hid z1
  have B1 := Lib.hid b1
  have HD := Lib.hid hd
  have HRL := Lib.hid hRl
  have HR1 := Lib.hid hR1
  have HZL := Lib.hid hZl
  have HZ1 := Lib.hid hZ1
  have HW := Lib.hid hw
  have HS := Lib.hid hs
  have HHAS := Lib.hid (fun (wx : World) (hx : Below w.heap.size w wx) => c_has (hd.con.below hx) (sumL s) (sumL_octets s) (sumL_len s) false (decide_eq_false hn))
  have HAG := Lib.hid hag
  have HAGZ := Lib.hid hagz
  have HRR := Lib.hid hR
  rw [hag] at HHAS
  rw [hagz]
  clear hal hbd hsu z1 b1 hd hRl hR1 hZl hZ1 hw hs hag hagz hn
  unfold ptD
  go_enter Try.func7, Try.ntmps7
  go_wp2_with (refine wpList_alloc_n rfl 30 rfl Z HZ.out _ (HAL.out _) ?_; rw [hw1])
  (with_reducible refine HSU.out.mono ?_)
  rintro e w2 ⟨rfl, b2⟩
  obtain ⟨N, hN⟩ : ∃ N, w2.heap.size = N := ⟨_, rfl⟩
  obtain ⟨w3, hw3⟩ : ∃ w3, w2.alloc (.cells Zr.toArray 30) = w3 := ⟨_, rfl⟩
  have hZw := HZ.out
  have Z2 := Z1.out.below b2 Z1.out.lt
  have hZN : Z < N := by rw [← hN]; exact Z2.lt
  have q3 : Below w2.heap.size w2 w3 := by rw [← hw3]; exact (Below.refl _ _).alloc (Nat.le_refl _) _
  have n3 : Blk w3 N 30 Zr := by rw [← hw3]; exact Blk.newAt w2 N hN _ _ rfl
  have z3 := Z2.below q3 Z2.lt
  obtain ⟨w4, hw4⟩ : ∃ w4, w3.setRow N R.toArray = w4 := ⟨_, rfl⟩
  have n4 : Blk w4 N 30 R := by rw [← hw4]; exact n3.row R (by rw [HRL.out, HZL.out])
  have z4 : Blk w4 Z 30 Zr := by rw [← hw4]; exact z3.rowOther (by omega) _
  have b4 : Below w.heap.size w w4 := by
    rw [← hw4]
    refine below_setRow ?_ (by omega) _
    exact (B1.out.trans (b2.mono B1.out.size)).trans (q3.mono (by have := b2.size; have := B1.out.size; omega))
  have N3 := Lib.hid n3
  have N4 := Lib.hid n4
  have Z4 := Lib.hid z4
  have B4 := Lib.hid b4
  have HN := Lib.hid hN
  have HZN := Lib.hid hZN
  have HH := Lib.hid (HHAS.out w4 b4)
  have HRG : Hid (∀ wx : World, (∃ m, wx = w4.drewN m) → wx.rangeAt N 0 R) := Lib.hid fun wx ⟨m, e⟩ => by rw [e]; exact (n4.drewN m).whole
  clear b2 hZw Z2 hZN q3 n3 z3 n4 z4 b4
  go_wp2_with (first | (refine wpList_alloc_n rfl 30 rfl N HN.out _ (HAL.out _) ?_; rw [hw3]) | (refine wpList_store_blk rfl 30 _ _ rfl N R rfl rfl N3.out (by rw [size_hashC, HRL.out]) (by rw [HRL.out, HZL.out]) HR1.out ?_; rw [hw4]))
  refine region_drew_tail 4 mixed (by kernel_rfl) ?_
  simp only [List.take_succ_cons, List.take_zero, List.drop_succ_cons, List.drop_zero]
  repeat (first | (refine wpQuiet_load_row rfl 30 _ rfl N 0 rfl R HRG.out Try.underlying30 rfl (by rw [size_hashC, HRL.out]) ?_) | go_big_quiet_step (fail) | (refine wpQuiet_step (fun K' hK' => ?_); go_simp; first | (refine hK' _ ?_; clear hK' K') | (refine ⟨_, fun _ _ => rfl, hK' _ ?_⟩; clear hK' K')))
  refine wpQuiet_nil ?_
  rintro _ ⟨m1, rfl⟩
  have HH1 := Lib.hid (HHAS.out (w4.drewN m1) (below_drewN B4.out m1))
  go_wp2_with fail
  (with_reducible refine HH1.out.mono ?_)
  rintro e w5 ⟨rfl, b5⟩
  have n5 := (N4.out.drewN m1).below b5 N4.out.lt
  have z5 := (Z4.out.drewN m1).below b5 Z4.out.lt
  have B5 := (below_drewN B4.out m1).trans (b5.mono B4.out.size)
  have N5 := Lib.hid n5
  have Z5 := Lib.hid z5
  have HB5 := Lib.hid B5
  have con5 := HD.out.con.below B5
  obtain ⟨pv, cv, hv⟩ := con5.own.isSlice
  rw [rowsNm_len, hl] at hv
  have c8 := con5.at_ 1
  simp only [coV, List.getElem?_cons_zero, List.getElem?_cons_succ] at c8
  rw [hv] at c8
  have c8 : w5.cell? ⟨P, 8, none⟩ = some (.slice pv 20 cv) := c8
  obtain ⟨w6, hw6⟩ : ∃ w6, w5.setRow Z Zr.toArray = w6 := ⟨_, rfl⟩
  have z6 : Blk w6 Z 30 Zr := by rw [← hw6]; exact z5.row Zr rfl
  have B6 : Below w.heap.size w w6 := by rw [← hw6]; exact below_setRow B5 (by rw [HZ.out]; exact Nat.le_refl _) _
  have Z6 := Lib.hid z6
  have HB6 := Lib.hid B6
  clear b5 n5 z5 B5 z6 B6 con5 hv hl
  go_wp2_with (first | (refine wpList_build_at rfl 30 _ rfl _ (by simp only [List.map_toArray, List.map_nil]; exact HBD.out _) ?_) | (refine wpList_store_blk rfl 30 _ _ rfl Z Zr rfl rfl Z5.out (by rw [size_hashC, HZL.out]) rfl HZ1.out ?_; rw [hw6]))
  refine bodyPost_ret (v := .tuple #[.agg Zr.toArray, .int .i64 150]) (results_cell_tmp rfl _ _ Z rfl (.int .i64 150) rfl Z6.out Try.underlying30 rfl (by rw [size_hashC, HZL.out])) rfl ⟨rfl, ⟨D, b0, b1, b2, J, nx, M, k, x1, v, Dm, d, js, F, HD.out.keep HB6.out⟩, HB6.out.mono HW.out⟩
end Go.Proofs.Ytbobdbdknapdcaa
