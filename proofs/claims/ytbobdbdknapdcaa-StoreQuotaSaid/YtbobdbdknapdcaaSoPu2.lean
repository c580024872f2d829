/- The store's Put of a new block. -/
import Derived.Test.YtbobdbdknapdcaaSoPut
namespace Go.Proofs.Ytbobdbdknapdcaa
open Go.RowKit
set_option linter.unusedVariables false

variable {w w' : World} {base : Nat}
set_option maxRecDepth 100000 in
set_option maxHeartbeats 4000000 in
theorem s_put_new {P : Nat} {L : List (List Nat)} {r : Nat} (h : StoW base w P L r) (hw : base ≤ w.heap.size) (s : ByteArray) (hs : s.size ≤ 150) (hn : sumL s ∉ L.map nmB) (hl : L.length < 20) (hr : secK (1 + s.size) ≤ r) :
    Calls Try.prog 7 #[ptD P, .string s] w fun x w' => x = .returned (.tuple #[agN (sumL s), .int .i64 0]) ∧ StoW base w' P (L ++ [sl s]) (r - secK (1 + s.size)) ∧ Below base w w' := by
  obtain ⟨D, b0, b1, b2, J, nx, M, k, x1, v, Dm, d, js, F, hd⟩ := h
  obtain ⟨R, hR⟩ : ∃ R, ints .u8 (sumL s) = R := ⟨_, rfl⟩
  have hRl : R.length = 32 := by rw [← hR, ints_length, sumL_len]
  have hR1 : R.toArray.all (·.oneCell') = true := by rw [← hR]; exact intsP_one _
  obtain ⟨Zr, hZr⟩ : ∃ Zr, ints .u8 (List.replicate 32 0) = Zr := ⟨_, rfl⟩
  have hZl : Zr.length = 32 := by rw [← hZr, ints_length]; rfl
  have hZ1 : Zr.toArray.all (·.oneCell') = true := by rw [← hZr]; exact intsP_one _
  obtain ⟨Z, hZ⟩ : ∃ Z, w.heap.size = Z := ⟨_, rfl⟩
  obtain ⟨w1, hw1⟩ : ∃ w1, w.alloc (.cells Zr.toArray 30) = w1 := ⟨_, rfl⟩
  have b1 : Below w.heap.size w w1 := by rw [← hw1]; exact (Below.refl w.heap.size w).alloc (Nat.le_refl _) _
  have z1 : Blk w1 Z 30 Zr := by rw [← hw1]; exact Blk.newAt w Z hZ _ _ rfl
  have hal : ∀ wx : World, (Instr.alloc 30 true (.tuple #[])).run Try.prog wx = .ok (.pointer (some ⟨wx.heap.size, 0, none⟩)) (wx.alloc (.cells Zr.toArray 30)) := fun wx => by rw [← hZr]; exact alloc_h32P wx
  have hbd : ∀ wx : World, (Instr.build 30 #[]).run Try.prog wx = .ok (.agg Zr.toArray) wx := fun wx => by rw [← hZr]; exact build_h32P wx
  have hsu := d_Sum s w1 (by omega)
  change Calls _ _ _ _ (fun e w' => e = .returned (.agg (ints .u8 (sumL s)).toArray) ∧ Below w1.heap.size w1 w') at hsu
  rw [hR] at hsu
  have c1023 : ¬ (1023 : Int) < (s.size : Int) := by omega
  have hag : agN (sumL s) = .agg R.toArray := by rw [← hR]; rfl
  have hagz : agN (List.replicate 32 0) = .agg Zr.toArray := by rw [← hZr]; rfl
  have HAL := Lib.hid hal
  have HBD := Lib.hid hbd
  have HSU := Lib.hid hsu
  have HZ := Lib.hid hZ
  have Z1 := Lib.hid z1
  have B1 := Lib.hid b1
  have HD := Lib.hid hd
  have HRL := Lib.hid hRl
  have HR1 := Lib.hid hR1
  have HZL := Lib.hid hZl
  have HZ1 := Lib.hid hZ1
  have HW := Lib.hid hw
  have HS := Lib.hid hs
  have HHAS := Lib.hid (fun (wx : World) (hx : Below w.heap.size w wx) => c_has (hd.con.below hx) (sumL s) (sumL_octets s) (sumL_len s) false (decide_eq_false hn))
  have HAG := Lib.hid hag
  have HAGZ := Lib.hid hagz
  have HRR := Lib.hid hR
  rw [hag] at HHAS ⊢
  clear hal hbd hsu z1 b1 hd hRl hR1 hZl hZ1 hw hs hag hagz 
  unfold ptD
  go_enter Try.func7, Try.ntmps7
  go_wp2_with (refine wpList_alloc_n rfl 30 rfl Z HZ.out _ (HAL.out _) ?_; rw [hw1])
  (with_reducible refine HSU.out.mono ?_)
  rintro e w2 ⟨rfl, b2⟩
  obtain ⟨N, hN⟩ : ∃ N, w2.heap.size = N := ⟨_, rfl⟩
  obtain ⟨w3, hw3⟩ : ∃ w3, w2.alloc (.cells Zr.toArray 30) = w3 := ⟨_, rfl⟩
  have hZw := HZ.out
  have Z2 := Z1.out.below b2 Z1.out.lt
  have hZN : Z < N := by rw [← hN]; exact Z2.lt
  have q3 : Below w2.heap.size w2 w3 := by rw [← hw3]; exact (Below.refl _ _).alloc (Nat.le_refl _) _
  have n3 : Blk w3 N 30 Zr := by rw [← hw3]; exact Blk.newAt w2 N hN _ _ rfl
  have z3 := Z2.below q3 Z2.lt
  obtain ⟨w4, hw4⟩ : ∃ w4, w3.setRow N R.toArray = w4 := ⟨_, rfl⟩
  have n4 : Blk w4 N 30 R := by rw [← hw4]; exact n3.row R (by rw [HRL.out, HZL.out])
  have z4 : Blk w4 Z 30 Zr := by rw [← hw4]; exact z3.rowOther (by omega) _
  have b4 : Below w.heap.size w w4 := by
    rw [← hw4]
    refine below_setRow ?_ (by omega) _
    exact (B1.out.trans (b2.mono B1.out.size)).trans (q3.mono (by have := b2.size; have := B1.out.size; omega))
  have N3 := Lib.hid n3
  have N4 := Lib.hid n4
  have Z4 := Lib.hid z4
  have B4 := Lib.hid b4
  have HN := Lib.hid hN
  have HZN := Lib.hid hZN
  have HH := Lib.hid (HHAS.out w4 b4)
  have HRG : Hid (∀ wx : World, (∃ m, wx = w4.drewN m) → wx.rangeAt N 0 R) := Lib.hid fun wx ⟨m, e⟩ => by rw [e]; exact (n4.drewN m).whole
  clear b2 hZw Z2 hZN q3 n3 z3 n4 z4 b4
  go_wp2_with (first | (refine wpList_alloc_n rfl 30 rfl N HN.out _ (HAL.out _) ?_; rw [hw3]) | (refine wpList_store_blk rfl 30 _ _ rfl N R rfl rfl N3.out (by rw [size_hashC, HRL.out]) (by rw [HRL.out, HZL.out]) HR1.out ?_; rw [hw4]))
  refine region_drew_tail 4 mixed (by kernel_rfl) ?_
  simp only [List.take_succ_cons, List.take_zero, List.drop_succ_cons, List.drop_zero]
  repeat (first | (refine wpQuiet_load_row rfl 30 _ rfl N 0 rfl R HRG.out Try.underlying30 rfl (by rw [size_hashC, HRL.out]) ?_) | go_big_quiet_step (fail) | (refine wpQuiet_step (fun K' hK' => ?_); go_simp; first | (refine hK' _ ?_; clear hK' K') | (refine ⟨_, fun _ _ => rfl, hK' _ ?_⟩; clear hK' K')))
  refine wpQuiet_nil ?_
  rintro _ ⟨m1, rfl⟩
  have HH1 := Lib.hid (HHAS.out (w4.drewN m1) (below_drewN B4.out m1))
  go_wp2_with fail
  (with_reducible refine HH1.out.mono ?_)
  rintro e w5 ⟨rfl, b5⟩
  have n5 := (N4.out.drewN m1).below b5 N4.out.lt
  have z5 := (Z4.out.drewN m1).below b5 Z4.out.lt
  have B5 := (below_drewN B4.out m1).trans (b5.mono B4.out.size)
  have N5 := Lib.hid n5
  have Z5 := Lib.hid z5
  have HB5 := Lib.hid B5
  have d5 := HD.out.keep B5
  have con5 := d5.con
  obtain ⟨pv, cv, hv⟩ := con5.own.isSlice
  rw [rowsNm_len] at hv
  have c8 := con5.at_ 1
  simp only [coV, List.getElem?_cons_zero, List.getElem?_cons_succ] at c8
  rw [hv] at c8
  have c8 : w5.cell? ⟨P, 8, none⟩ = some (.slice pv L.length cv) := c8
  have l20 : ¬ (20 : Int) ≤ (L.length : Int) := by omega
  have hcell : ∀ wx, NewBut w5 wx → wx.cell? ⟨P, 6, none⟩ = some (.int .i64 0) ∧ wx.cell? ⟨P, 4, none⟩ = some (ptD J) := fun wx hx => by
    have hb := con5.blk.below hx con5.blk.lt
    have q6 := hb.cell 6
    have q4 := hb.cell 4
    simp only [stP, coV, List.cons_append, List.getElem?_cons_zero, List.getElem?_cons_succ] at q6 q4
    exact ⟨q6, q4⟩
  have hbf : ∀ wx, NewBut w5 wx → Calls Try.prog 21 #[.string s] wx fun e w' => e = .returned (.string (tx (66 :: sl s))) ∧ NewBut w5 w' := fun wx hx => (c_blockFrame s wx (by have := HS.out; omega)).mono fun _ _ ⟨e1, e2⟩ => ⟨e1, hx.trans (e2.mono hx.size)⟩
  obtain ⟨T, hT⟩ : ∃ T, tx (66 :: sl s) = T := ⟨_, rfl⟩
  have hTs : sl T = 66 :: sl s := by
    rw [← hT]
    refine sl_tx (Bys.of fun x hx => ?_)
    rcases List.mem_cons.1 hx with rfl | hx
    · decide
    · exact (sl_bys s).mem hx
  have hTz : T.size = 1 + s.size := by rw [← sl_len, hTs, List.length_cons, sl_len]; omega
  have hroom := HD.out.room
  have hap : apE ⟨b0, b1, nx⟩ T.size = 0 := by unfold apE; rw [hTz, if_pos (show secK (1 + s.size) ≤ b1 - nx by omega)]
  obtain ⟨d6, hd6⟩ : ∃ d6, apD d ⟨b0, b1, nx⟩ (sl T) = d6 := ⟨_, rfl⟩
  have hm6 : apM ⟨b0, b1, nx⟩ T.size = ⟨b0, b1, nx + secK (1 + s.size)⟩ := by unfold apM; rw [if_pos hap, hTz]
  have hj6 : JurOk d6 ⟨b0, b1, nx + secK (1 + s.size)⟩ ((77 :: bigL 1 8) :: (L ++ [sl s]).map fun x => 66 :: x) := by
    have := jur_append HD.out.jur (s := sl T) (by rw [sl_len]; exact hap) (sl_bys T) (by rw [sl_len, hTz]; have := HS.out; omega)
    rw [sl_len, hm6, hd6, hTs] at this
    rw [List.map_append]
    exact this
  have hdk6 : DkJ d6 (2000 + 100 * (L ++ [sl s]).length) := by
    rw [← hd6]
    refine (dkj_append HD.out.dk HD.out.jur (sl_bys T) (by rw [sl_len, hTz]; have := HS.out; omega)).more ?_
    rw [List.length_append]
    simp
    omega
  have hju := HD.out.jur
  have hB : base ≤ w.heap.size := HW.out
  have hAP := fun (W : World) (hW : NewBut w5 W) => theJur.append (d' := d6) (m' := ⟨b0, b1, nx + secK (1 + s.size)⟩) (d5.keep hW).st (HD.out.dk.more (by omega)) (by have := hW.size; have := B5.size; omega) ⟨by have := hju.nx; show b0 ≤ nx; have h' : nx = b0 + _ := this; omega, hju.le, hju.top⟩ T (by rw [hTz]; have := HS.out; omega) 0 hap hd6 hm6
  have HCELL := Lib.hid hcell
  have HAP := Lib.hid hAP
  have HC6 : Hid (∀ wx, NewBut w5 wx → wx.cell? ⟨P, 6, none⟩ = some (.int .i64 0)) := Lib.hid fun wx hx => (hcell wx hx).1
  have HC4 : Hid (∀ wx, NewBut w5 wx → wx.cell? ⟨P, 4, none⟩ = some (ptD J)) := Lib.hid fun wx hx => (hcell wx hx).2
  rw [hT] at hbf
  have HBF := Lib.hid hbf
  have HJ6 := Lib.hid hj6
  have HDK6 := Lib.hid hdk6
  have HD5 := Lib.hid d5
  have HHN := Lib.hid hn
  have HLL := Lib.hid hl
  have HR6 := Lib.hid hr
  have HTS := Lib.hid hTs
  clear b5 n5 z5 B5 con5 hv hn hl hr hcell hbf hTs hTz hroom hap hm6 hj6 hdk6 hju hB hAP d5 hT hd6
  unfold ptD at HAP HC4
  go_wp2_with fail
  refine region_quiet_tail (C := NewBut w5) 11 mixed (by kernel_rfl) (show Below _ _ _ from (Below.refl _ _).drew) ?_
  simp only [List.take_succ_cons, List.take_zero, List.drop_succ_cons, List.drop_zero]
  repeat (first | (refine wpQuiet_load_one rfl 3 _ rfl ⟨P, 6, none⟩ rfl (.int .i64 0) HC6.out Try.underlying3 rfl ?_) | (refine wpQuiet_load_one rfl 49 _ rfl ⟨P, 4, none⟩ rfl (.pointer (some ⟨J, 0, none⟩)) HC4.out Try.underlying49 rfl ?_) | go_big_quiet_step (fail) | (refine wpQuiet_step (fun K' hK' => ?_); go_simp; first | (refine hK' _ ?_; clear hK' K') | (refine ⟨_, fun _ _ => rfl, hK' _ ?_⟩; clear hK' K') | ((with_reducible refine ⟨_, fun wx hx => HBF.out wx hx, hK' _ ?_⟩); clear hK' K')))
  refine wpQuiet_nil ?_
  intro w6 hb6
  have HB6 := Lib.hid hb6
  have HA6 := Lib.hid (HAP.out w6 hb6)
  clear hb6
  go_wp2_with fail
  (with_reducible refine HA6.out.mono ?_)
  rintro e w7 ⟨F7, rfl, st7, t7⟩
  have hzw := HZ.out
  have hzn := HZN.out
  have d6 := HD5.out.keep HB6.out
  have hFl : ∀ i, F i → i < Z := fun i hi => by have := (theJur.lt HD.out.st i hi).2; omega
  have hs5 := HB5.out.size
  have hs6 := HB6.out.size
  have hs7 := t7.b.size
  have hN4 := N4.out.lt
  have con6 := d6.con
  have own7 := t7.own con6.own d6.nv
  have hNF : ¬ F N := fun e => by have := hFl N e; omega
  have hZF : ¬ F Z := fun e => by have := hFl Z e; omega
  have hP : P < Z := by have := HD.out.con.blk.lt; omega
  have hM : M < Z := by have := HD.out.con.map.map.lt; omega
  have hV : ∀ i, v.ownBlock = some i → i < Z := fun i hi => by have := (HD.out.con.own.lt i hi).2; omega
  have N6 := N5.out.below HB6.out N5.out.lt
  have Z6 := Z5.out.below HB6.out Z5.out.lt
  have con7 : ConW w7 base P 7 56 (stP D b0 b1 b2 (ptD J) x1 0) M k Dm v L 1 true :=
    ⟨t7.blk con6.blk d6.nP, con6.off, con6.ty, con6.map.same (t7.out M con6.map.map.lt d6.nM), own7.1, con6.hB, con6.hM, con6.nod, con6.bys⟩
  have n7 := t7.blk N6 hNF
  have z7 := t7.blk Z6 hZF
  have nP7 := t7.not d6.nP con6.blk.lt
  have nM7 := t7.not d6.nM con6.map.map.lt
  have B7 : Below base w w7 := ((HB5.out.trans (HB6.out.mono hs5)).mono HW.out).trans t7.b
  have hZ7 : Z < w7.heap.size := z7.lt
  have hRG7 : ∀ wx : World, (∃ m, wx = w7.drewN m) → wx.rangeAt N 0 R := fun wx ⟨m, e⟩ => by rw [e]; exact (n7.drewN m).whole
  have hAD := fun m => c_add_new (con7.drewN m) (by show base ≤ w7.heap.size; have := HW.out; omega) (sl s) (sl_bys s) (by rw [nmB_sl]; exact HHN.out) (by have := HLL.out; omega)
  rw [nmB_sl, HAG.out, tx_sl] at hAD
  have HRG7 := Lib.hid hRG7
  have HAD := Lib.hid hAD
  have N7 := Lib.hid n7
  have Z7 := Lib.hid z7
  have ST7 := Lib.hid st7
  have HV7 := Lib.hid own7.2
  have HNN : Hid (¬ F7 P ∧ ¬ F7 M ∧ ¬ F7 Z) := Lib.hid ⟨nP7, nM7, t7.not hZF Z6.lt⟩
  have HB7 := Lib.hid B7
  have HLT : Hid (P < Z ∧ M < Z ∧ Z < N ∧ Z < w7.heap.size) := Lib.hid ⟨hP, hM, hzn, hZ7⟩
  have HVL := Lib.hid hV
  have C7 := Lib.hid con7
  clear hzw hzn d6 hFl hs5 hs6 hs7 hN4 con6 own7 hNF hZF hP hM hV N6 Z6 con7 n7 z7 nP7 nM7 B7 hZ7 hRG7 hAD st7 t7
  go_wp2_with fail
  refine region_drew_tail 5 mixed (by kernel_rfl) ?_
  simp only [List.take_succ_cons, List.take_zero, List.drop_succ_cons, List.drop_zero]
  repeat (first | (refine wpQuiet_load_row rfl 30 _ rfl N 0 rfl R HRG7.out Try.underlying30 rfl (by rw [size_hashC, HRL.out]) ?_) | go_big_quiet_step (fail) | (refine wpQuiet_step (fun K' hK' => ?_); go_simp; first | (refine hK' _ ?_; clear hK' K') | (refine ⟨_, fun _ _ => rfl, hK' _ ?_⟩; clear hK' K')))
  refine wpQuiet_nil ?_
  rintro _ ⟨m7, rfl⟩
  have HAD7 := Lib.hid (HAD.out m7)
  go_wp2_with fail
  (with_reducible refine HAD7.out.mono ?_)
  rintro e w8 ⟨rfl, k', D', v', con8, t8⟩
  obtain ⟨hP, hM, hzn, hZ7⟩ := HLT.out
  have hnf : ∀ i, Z ≤ i → ¬ cfoot P M v i := fun i hi e => by
    rcases e with e | e | e
    · omega
    · omega
    · have := HVL.out i e; omega
  have n8 := t8.blk (N7.out.drewN m7) (hnf N (by omega))
  have z8 := t8.blk (Z7.out.drewN m7) (hnf Z (Nat.le_refl _))
  have hs8 : w7.heap.size ≤ w8.heap.size := t8.b.size
  have st8 : StJ base w8 D _ _ F7 := theJur.keep ST7.out hs8 fun i hi => t8.out i (theJur.lt ST7.out i hi).2 fun e => by
    rcases e with e | e | e
    · exact HNN.out.1 (by rw [← e]; exact hi)
    · exact HNN.out.2.1 (by rw [← e]; exact hi)
    · exact HV7.out i e hi
  have nv8 : Apart F7 v' := fun i hi hf => by
    rcases t8.new i (.inr (.inr hi)) with e | e
    · rcases e with e | e | e
      · exact HNN.out.1 (by rw [← e]; exact hf)
      · exact HNN.out.2.1 (by rw [← e]; exact hf)
      · exact HV7.out i e hf
    · have := (theJur.lt ST7.out i hf).2
      have e' : w7.heap.size ≤ i := e
      omega
  have hv8 : ∀ i, v'.ownBlock = some i → i ≠ Z := fun i hi e => by
    rcases t8.new i (.inr (.inr hi)) with h' | h'
    · exact hnf i (by omega) h'
    · have e' : w7.heap.size ≤ i := h'
      omega
  obtain ⟨w9, hw9⟩ : ∃ w9, w8.setRow Z R.toArray = w9 := ⟨_, rfl⟩
  have z9 : Blk w9 Z 30 R := by rw [← hw9]; exact z8.row R (by rw [HRL.out, HZL.out])
  have g9 : w8.grownBy w9 (some Z) := by rw [← hw9]; exact ⟨rfl, rfl, rfl, by simp, fun i _ hi => setRow_other w8 Z i _ (fun e => hi (by rw [e]))⟩
  have st9 : StJ base w9 D _ _ F7 := theJur.keep st8 g9.size fun i hi => g9.block i (theJur.lt st8 i hi).2 fun e => HNN.out.2.2 (by rw [← Option.some.inj e]; exact hi)
  have con9 : ConW w9 base P 7 56 (stP D b0 b1 b2 (ptD J) x1 0) M k' D' v' (L ++ [sl s]) 1 true :=
    ⟨con8.blk.grownO g9 (fun i e e' => by have := Option.some.inj e; omega), con8.off, con8.ty, con8.map.same (g9.block M con8.map.map.lt fun e => by have := Option.some.inj e; omega), con8.own.grownO g9 (fun i hi e => hv8 i hi (Option.some.inj e)), con8.hB, con8.hM, con8.nod, con8.bys⟩
  have B9 : Below base w w9 := (((below_drewN HB7.out m7).trans t8.b)).grown g9 (by have := HB7.out.size; have := HW.out; omega) (fun i e => by have := Option.some.inj e; have := HW.out; have := HZ.out; omega)
  have hfin : StoW base w9 P (L ++ [sl s]) (r - secK (1 + s.size)) := ⟨D, b0, b1, b2, J, nx + secK (1 + s.size), M, k', x1, v', D', _, js, F7, st9, HDK6.out, HJ6.out, con9, HNN.out.1, HNN.out.2.1, nv8, HD.out.big, by have := HD.out.room; omega, by rw [List.length_append]; have := HLL.out; simp; omega, fun x hx => by
    rcases List.mem_append.1 hx with hx | hx
    · exact HD.out.short x hx
    · rw [List.mem_singleton.1 hx, sl_len]; exact HS.out⟩
  have N8 := Lib.hid n8
  have Z8 := Lib.hid z8
  have Z9 := Lib.hid z9
  have HFIN := Lib.hid hfin
  have HB9 := Lib.hid B9
  clear con8 t8 hP hM hzn hZ7 hnf n8 z8 hs8 st8 nv8 hv8 z9 g9 st9 con9 B9 hfin
  go_wp2_with (first | (refine wpList_load_blk rfl 30 _ rfl N rfl N8.out Try.underlying30 rfl (by rw [size_hashC, HRL.out]) ?_) | (refine wpList_store_blk rfl 30 _ _ rfl Z R rfl rfl Z8.out (by rw [size_hashC, HRL.out]) (by rw [HRL.out, HZL.out]) HR1.out ?_; rw [hw9]))
  refine bodyPost_ret (v := .tuple #[.agg R.toArray, .int .i64 0]) (results_cell_tmp rfl _ _ Z rfl (.int .i64 0) rfl Z9.out Try.underlying30 rfl (by rw [size_hashC, HRL.out])) rfl ⟨rfl, HFIN.out, HB9.out⟩
end Go.Proofs.Ytbobdbdknapdcaa
