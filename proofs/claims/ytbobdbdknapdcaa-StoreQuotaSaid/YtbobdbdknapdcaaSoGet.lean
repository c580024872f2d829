/- The store's Get, All, Room. -/
import Derived.Test.YtbobdbdknapdcaaSoOpe
import Derived.Test.YtbobdbdknapdcaaJ1
namespace Go.Proofs.Ytbobdbdknapdcaa
open Go.RowKit
set_option linter.unusedVariables false

variable {w w' : World} {base : Nat}
theorem rowsNm_one {L : List (List Nat)} : ∀ r ∈ rowsNm L, ∀ u ∈ r, u.oneCell' = true := fun r hr u hu => by
  obtain ⟨x, _, rfl⟩ := List.mem_map.1 hr
  obtain ⟨n, _, rfl⟩ := List.mem_map.1 hu
  rfl
set_option maxRecDepth 100000 in
set_option maxHeartbeats 2000000 in
theorem s_room {P : Nat} {L : List (List Nat)} {r : Nat} (h : StoW base w P L r) (hw : base ≤ w.heap.size) :
    Calls Try.prog 8 #[ptD P] w fun x w' => x = .returned (.int .i64 (r : Int)) ∧ Below w.heap.size w w' := by
  obtain ⟨D, b0, b1, b2, J, nx, M, k, x1, v, Dm, d, js, F, hd⟩ := h
  have q6 := hd.con.blk.cell 6
  have q4 := hd.con.blk.cell 4
  simp only [stP, coV, List.cons_append, List.getElem?_cons_zero, List.getElem?_cons_succ] at q6 q4
  have hju := hd.jur
  have hbig := hd.big
  have hRM := fun m => theJur.room (w := w.drewN m) (theJur.keep hd.st (Nat.le_refl _) fun _ _ => rfl) hw ⟨by have := hju.nx; show b0 ≤ nx; have h' : nx = b0 + _ := this; omega, hju.le, by show b1 ≤ 4096; omega⟩ r hd.room
  have HRM := Lib.hid hRM
  clear hju hbig hRM hw hd
  unfold ptD at q4 HRM ⊢
  go_enter Try.func8, Try.ntmps8
  go_wp2_with fail
  refine region_drew_tail 9 mixed (by kernel_rfl) ?_
  simp only [List.take_succ_cons, List.take_zero, List.drop_succ_cons, List.drop_zero]
  repeat (first | go_big_quiet_step (fail) | (refine wpQuiet_step (fun K' hK' => ?_); go_simp; first | (refine hK' _ ?_; clear hK' K') | (refine ⟨_, fun _ _ => rfl, hK' _ ?_⟩; clear hK' K')))
  refine wpQuiet_nil ?_
  rintro _ ⟨m1, rfl⟩
  have HR1 := Lib.hid (HRM.out m1)
  have HB := Lib.hid (below_drewN (Below.refl w.heap.size w) m1)
  go_wp2_with fail
  (with_reducible refine HR1.out.mono ?_)
  rintro e w5 ⟨rfl, b5⟩
  have HB5 := Lib.hid (HB.out.trans b5)
  clear b5
  go_wp2
  go_ret
  exact ⟨rfl, HB5.out⟩
set_option maxRecDepth 100000 in
set_option maxHeartbeats 2000000 in
theorem s_get_some {P : Nat} {L : List (List Nat)} {r : Nat} (h : StoW base w P L r) (hw : base ≤ w.heap.size) (s : ByteArray) (hs : sl s ∈ L) :
    Calls Try.prog 12 #[ptD P, agN (sumL s)] w fun x w' => x = .returned (.tuple #[.string s, .int .i64 0]) ∧ Below w.heap.size w w' := by
  obtain ⟨D, b0, b1, b2, J, nx, M, k, x1, v, Dm, d, js, F, hd⟩ := h
  obtain ⟨R, hR⟩ : ∃ R, ints .u8 (sumL s) = R := ⟨_, rfl⟩
  have hRl : R.length = 32 := by rw [← hR, ints_length, sumL_len]
  have hag : agN (sumL s) = .agg R.toArray := by rw [← hR]; rfl
  obtain ⟨Y, hY⟩ : ∃ Y, w.heap.size = Y := ⟨_, rfl⟩
  obtain ⟨w1, hw1⟩ : ∃ w1, w.alloc (.cells R.toArray 30) = w1 := ⟨_, rfl⟩
  have b1 : Below w.heap.size w w1 := by rw [← hw1]; exact (Below.refl w.heap.size w).alloc (Nat.le_refl _) _
  have y1 : Blk w1 Y 30 R := by rw [← hw1]; exact Blk.newAt w Y hY _ _ rfl
  have con1 := hd.con.below b1
  have hin : sumL s ∈ L.map nmB := List.mem_map.2 ⟨_, hs, nmB_sl s⟩
  have hhas := fun m => c_has (con1.drewN m) (sumL s) (sumL_octets s) (sumL_len s) true (decide_eq_true hin)
  have hlk : ∀ wx, Below w1.heap.size w1 wx → (Instr.lookup 51 (.map (some M)) (.agg R.toArray) false).run Try.prog wx = .ok (.agg #[.string s]) wx := fun wx hx => by
    have := (con1.map.below hx).look hs false
    rw [nmB_sl, hag] at this
    rw [this]
    unfold bkV
    rw [tx_sl]
    rfl
  have hrg : ∀ wx : World, (∃ m, wx = w1.drewN m) → wx.rangeAt Y 0 R := fun wx ⟨m, e⟩ => by rw [e]; exact (y1.drewN m).whole
  rw [hag] at hhas ⊢
  have HHAS := Lib.hid hhas
  have HLK := Lib.hid hlk
  have HRG := Lib.hid hrg
  have HRL := Lib.hid hRl
  have Y1 := Lib.hid y1
  have HB1 := Lib.hid b1
  have HC1 := Lib.hid con1
  clear hd hRl hag b1 y1 con1 hin hhas hlk hrg hs hw
  unfold ptD
  go_enter Try.func12, Try.ntmps12
  go_wp2_with fail
  refine region_drew_tail 4 mixed (by kernel_rfl) ?_
  simp only [List.take_succ_cons, List.take_zero, List.drop_succ_cons, List.drop_zero]
  repeat (first | (refine wpQuiet_load_row rfl 30 _ rfl Y 0 rfl R HRG.out Try.underlying30 rfl (by rw [size_hashC, HRL.out]) ?_) | go_big_quiet_step (fail) | (refine wpQuiet_step (fun K' hK' => ?_); go_simp; first | (refine hK' _ ?_; clear hK' K') | (refine ⟨_, fun _ _ => rfl, hK' _ ?_⟩; clear hK' K')))
  refine wpQuiet_nil ?_
  rintro _ ⟨m1, rfl⟩
  have HH1 := Lib.hid (HHAS.out m1)
  go_wp2_with fail
  (with_reducible refine HH1.out.mono ?_)
  rintro e w5 ⟨rfl, b5⟩
  have hb5 : Below w1.heap.size w1 w5 := (below_drewN (Below.refl w1.heap.size w1) m1).trans b5
  have c7 := (HC1.out.below hb5).at_ 0
  simp only [coV, List.getElem?_cons_zero] at c7
  have c7 : w5.cell? ⟨P, 7, none⟩ = some (.map (some M)) := c7
  have y5 := Y1.out.below hb5 Y1.out.lt
  have hrg5 : ∀ wx : World, (∃ m, wx = w5.drewN m) → wx.rangeAt Y 0 R := fun wx ⟨m, e⟩ => by rw [e]; exact (y5.drewN m).whole
  have hlk5 : ∀ wx : World, (∃ m, wx = w5.drewN m) → (Instr.lookup 51 (.map (some M)) (.agg R.toArray) false).run Try.prog wx = .ok (.agg #[.string s]) wx := fun wx ⟨m, e⟩ => by rw [e]; exact HLK.out _ (below_drewN hb5 m)
  have HRG5 := Lib.hid hrg5
  have hfd : ∀ wx : World, (Instr.field 75 (.agg #[.string s]) 0).run Try.prog wx = .ok (.string s) wx := fun wx => by kernel_rfl
  have hlkd : ∀ m, (Instr.lookup 51 (.map (some M)) (.agg R.toArray) false).run Try.prog (w5.drewN m) = .ok (.agg #[.string s]) (w5.drewN m) := fun m => hlk5 _ ⟨m, rfl⟩
  have HB5 := Lib.hid (HB1.out.trans (hb5.mono HB1.out.size))
  clear b5 hb5 y5 hrg5
  go_wp2_with fail
  refine region_drew_tail 8 mixed (by kernel_rfl) ?_
  simp only [List.take_succ_cons, List.take_zero, List.drop_succ_cons, List.drop_zero]
  repeat (first | (refine wpQuiet_load_row rfl 30 _ rfl Y 0 rfl R HRG5.out Try.underlying30 rfl (by rw [size_hashC, HRL.out]) ?_) | go_big_quiet_step (fail) | (refine wpQuiet_step (fun K' hK' => ?_); go_simp; first | (refine hK' _ ?_; clear hK' K') | (refine ⟨_, fun _ _ => rfl, hK' _ ?_⟩; clear hK' K') | (refine ⟨_, fun wx hx => hlk5 wx hx, hK' _ ?_⟩; clear hK' K')))
  refine wpQuiet_nil ?_
  rintro _ ⟨m5, rfl⟩
  have HBF := Lib.hid (below_drewN HB5.out m5)
  go_wp2
  go_ret2
  exact ⟨rfl, HBF.out⟩
set_option maxRecDepth 100000 in
set_option maxHeartbeats 2000000 in
theorem s_get_none {P : Nat} {L : List (List Nat)} {r : Nat} (h : StoW base w P L r) (hw : base ≤ w.heap.size) (l : List Int) (h32 : l.length = 32) (ho : Octets l) (hn : l ∉ L.map nmB) :
    Calls Try.prog 12 #[ptD P, agN l] w fun x w' => x = .returned (.tuple #[.string ⟨#[]⟩, .int .i64 3]) ∧ Below w.heap.size w w' := by
  obtain ⟨D, b0, b1, b2, J, nx, M, k, x1, v, Dm, d, js, F, hd⟩ := h
  obtain ⟨R, hR⟩ : ∃ R, ints .u8 l = R := ⟨_, rfl⟩
  have hRl : R.length = 32 := by rw [← hR, ints_length, h32]
  have hag : agN l = .agg R.toArray := by rw [← hR]; rfl
  obtain ⟨Y, hY⟩ : ∃ Y, w.heap.size = Y := ⟨_, rfl⟩
  obtain ⟨w1, hw1⟩ : ∃ w1, w.alloc (.cells R.toArray 30) = w1 := ⟨_, rfl⟩
  have b1 : Below w.heap.size w w1 := by rw [← hw1]; exact (Below.refl w.heap.size w).alloc (Nat.le_refl _) _
  have y1 : Blk w1 Y 30 R := by rw [← hw1]; exact Blk.newAt w Y hY _ _ rfl
  have con1 := hd.con.below b1
  have hhas := fun m => c_has (con1.drewN m) l ho h32 false (decide_eq_false hn)
  have hrg : ∀ wx : World, (∃ m, wx = w1.drewN m) → wx.rangeAt Y 0 R := fun wx ⟨m, e⟩ => by rw [e]; exact (y1.drewN m).whole
  rw [hag] at hhas ⊢
  have HHAS := Lib.hid hhas
  have HRG := Lib.hid hrg
  have HRL := Lib.hid hRl
  have HB1 := Lib.hid b1
  clear hd hRl hag b1 y1 con1 hhas hrg hn ho h32 hw
  unfold ptD
  go_enter Try.func12, Try.ntmps12
  go_wp2_with fail
  refine region_drew_tail 4 mixed (by kernel_rfl) ?_
  simp only [List.take_succ_cons, List.take_zero, List.drop_succ_cons, List.drop_zero]
  repeat (first | (refine wpQuiet_load_row rfl 30 _ rfl Y 0 rfl R HRG.out Try.underlying30 rfl (by rw [size_hashC, HRL.out]) ?_) | go_big_quiet_step (fail) | (refine wpQuiet_step (fun K' hK' => ?_); go_simp; first | (refine hK' _ ?_; clear hK' K') | (refine ⟨_, fun _ _ => rfl, hK' _ ?_⟩; clear hK' K')))
  refine wpQuiet_nil ?_
  rintro _ ⟨m1, rfl⟩
  have HH1 := Lib.hid (HHAS.out m1)
  have HBm := Lib.hid (below_drewN HB1.out m1)
  go_wp2_with fail
  (with_reducible refine HH1.out.mono ?_)
  rintro e w5 ⟨rfl, b5⟩
  have HB5 := Lib.hid (HBm.out.trans (b5.mono HB1.out.size))
  clear b5
  go_wp2
  go_ret2
  exact ⟨rfl, HB5.out⟩
/-! ### All -/
theorem eql_nil (w : World) : (binOp .eql 36 (.slice none 0 0) (.slice none 0 0)).run Try.prog w = .ok (.bool true) w := by kernel_rfl
theorem eql_some (w : World) (a : Addr) (n c : Nat) : (binOp .eql 36 (.slice (some a) n c) (.slice none 0 0)).run Try.prog w = .ok (.bool false) w := by kernel_rfl
set_option maxRecDepth 100000 in
theorem s_clone_nil (w : World) :
    Calls Try.prog 26 #[.slice none 0 0] w fun x w' => ∃ p c, x = .returned (.slice p 0 c) ∧ Below w.heap.size w w' := by
  have he := eql_nil
  go_enter Try.func26, Try.ntmps26
  go_wp2
  go_ret
  exact ⟨none, 0, rfl, Below.refl _ _⟩
set_option maxRecDepth 100000 in
theorem s_clone_some (w : World) (a : Addr) (c : Nat) (L : List (List Nat)) (hl : L.length ≤ 100000) (h : Sl w 32 (.slice (some a) L.length c) (rowsNm L)) :
    Calls Try.prog 26 #[.slice (some a) L.length c] w fun x w' => ∃ p c, x = .returned (.slice p L.length c) ∧ Below w.heap.size w w' := by
  obtain ⟨i0, hi0, hz0, hz1, hz2⟩ := info_parts2 info_hashS
  have hal := (Below.refl w.heap.size w).alloc (Nat.le_refl _) (.cells #[] 30)
  have HOW := Lib.hid (OwnR.empty w w.heap.size 30 32 (Nat.le_refl _))
  have HNW := Lib.hid (h.alloc (.cells #[] 30))
  have HONE := Lib.hid (rowsNm_one (L := L))
  have HAL := Lib.hid hal
  have HSZ := Lib.hid hal.size
  have HLEN : Hid (([] : List (List Value)).length + (rowsNm L).length ≤ maxLen) := Lib.hid (by rw [rowsNm_len]; simp; unfold maxLen; omega)
  have HBY : Hid ((([] : List (List Value)).length + (rowsNm L).length) * 32 ≤ 140737488355328) := Lib.hid (by rw [rowsNm_len]; simp; omega)
  have HRL := Lib.hid (rowsNm_len L)
  clear h hal hl
  have he := fun w => eql_some w a L.length c
  go_enter Try.func26, Try.ntmps26
  go_wp2_with (first | (refine wpList_append_rows rfl _ _ 36 rfl w.heap.size 30 i0 (.agg (ints .u8 (nn (zerN 32))).toArray) 32 32 Try.underlying36 hi0 hz0 hz1 hz2 (by rfl) (by decide) (.slice (some ⟨w.heap.size, 0, none⟩) 0 0) [] rfl HOW.out (.slice (some a) L.length c) (rowsNm L) rfl HNW.out HONE.out HLEN.out HBY.out HSZ.out (.inr ⟨_, _, _, rfl⟩) ?_; intro v' w5 ho5 hg5 hv5))
  obtain ⟨p5, c5, rfl⟩ := ho5.isSlice
  have HF : Hid (Below w.heap.size w w5) := Lib.hid (HAL.out.grown hg5 HSZ.out (fun i e => by rw [← Option.some.inj e]; exact Nat.le_refl _))
  have HRL2 := HRL.out
  clear ho5 hg5 hv5
  rw [List.nil_append, HRL2]
  go_wp2
  go_ret
  exact ⟨p5, c5, rfl, HF.out⟩
set_option maxRecDepth 100000 in
theorem s_all {P : Nat} {L : List (List Nat)} {r : Nat} (h : StoW base w P L r) (hw : base ≤ w.heap.size) :
    Calls Try.prog 10 #[ptD P] w fun x w' => ∃ p c, x = .returned (.slice p L.length c) ∧ Below w.heap.size w w' := by
  obtain ⟨D, b0, b1, b2, J, nx, M, k, x1, v, Dm, d, js, F, hd⟩ := h
  have hcl : Calls Try.prog 26 #[v] w fun x w' => ∃ p c, x = .returned (.slice p L.length c) ∧ Below w.heap.size w w' := by
    have hsl := hd.con.own.sl
    have hfew := hd.few
    rcases hd.con.own.2.2 with ⟨e, h0⟩ | ⟨g, cap, cur, e, _⟩
    · rw [rowsNm_len] at h0
      rw [e, h0]
      exact s_clone_nil w
    · rw [rowsNm_len] at e
      rw [e] at hsl ⊢
      exact s_clone_some w _ _ L (by omega) hsl
  have c8 := hd.con.at_ 1
  simp only [coV, List.getElem?_cons_zero, List.getElem?_cons_succ] at c8
  have c8 : w.cell? ⟨P, 8, none⟩ = some v := c8
  obtain ⟨pv, cv, hv⟩ := hd.con.own.isSlice
  rw [rowsNm_len] at hv
  rw [hv] at c8 hcl
  have HCL := Lib.hid hcl
  clear hd hcl hw
  subst hv
  unfold ptD
  go_enter Try.func10, Try.ntmps10
  go_wp2_with fail
  (with_reducible refine HCL.out.mono ?_)
  rintro e w5 ⟨p, c, rfl, b5⟩
  have HB5 := Lib.hid b5
  clear b5
  go_wp2
  go_ret
  exact ⟨p, c, rfl, HB5.out⟩
end Go.Proofs.Ytbobdbdknapdcaa
