/- Walks of the reference's Seal and Open. -/
import Derived.Test.YtleofmeejjikmaaLRNonce
namespace Go.Proofs.Ytleofmeejjikmaa
open Go.RowKit
set_option linter.unusedVariables false

set_option maxRecDepth 100000 in
set_option maxHeartbeats 1000000 in
theorem r5_Seal (key : ByteArray) (nc : List Nat) (s : ByteArray) (w : World) (hk : key.size ≤ 65536) (hn : nc.length = 16) (hnb : Bys nc) (hs : s.size ≤ 65536) :
    Calls Try.prog 15 #[.string key, .agg (ints .u8 (nn nc)).toArray, .string s] w fun e w' => e = .returned (.string (sealT key nc s)) ∧ Below w.heap.size w w' := by
  have hK := fun w => r5_Keys key w hk
  have lA : (keyA key).length = 32 := macN_len _ _
  have lB : (keyB key).length = 32 := macN_len _ _
  have hH := fun w => r_Hid (keyA key) nc s w lA (macN_bys _ _) hn hnb hs
  have hT := hidT_size (keyA key) nc s
  have hY := fun w => r5_bytes nc w hn
  have hBB := fun w => r_BytesN (keyB key) w lB
  have hM : ∀ w, Calls Try.prog 16 #[.string (tx (keyB key)), .string (aheadT nc (hidT (keyA key) nc s))] w fun e w' => e = .returned (.agg (ints .u8 (nn (sealN key nc (hidT (keyA key) nc s)))).toArray) ∧ Below w.heap.size w w' := fun w => r_MacN _ _ w (by rw [tx_size, lB]; omega) (by rw [aheadT_size _ hn]; omega)
  have lO := sealN_len key nc (hidT (keyA key) nc s)
  have hBO := fun w => r_BytesN (sealN key nc (hidT (keyA key) nc s)) w lO
  have add1 : ∀ w, (Op.stringOp .add (tx nc) (hidT (keyA key) nc s)).run Try.prog w = .ok (.string (aheadT nc (hidT (keyA key) nc s))) w := fun w => by
    rw [run_string_add_sum]
    · rfl
    · rw [tx_size, hn]; omega
  have add2 : ∀ w, (Op.stringOp .add (aheadT nc (hidT (keyA key) nc s)) (tx (sealN key nc (hidT (keyA key) nc s)))).run Try.prog w = .ok (.string (sealT key nc s)) w := fun w => by
    rw [run_string_add_sum]
    · rfl
    · rw [tx_size, lO, aheadT_size _ hn]; omega
  generalize sealT key nc s = Z at *
  generalize sealN key nc (hidT (keyA key) nc s) = O at *
  generalize aheadT nc (hidT (keyA key) nc s) = V at *
  generalize hidT (keyA key) nc s = T at *
  generalize keyA key = A at *
  generalize keyB key = B at *
  have HK := Lib.hid hK
  have HH := Lib.hid hH
  have HY := Lib.hid hY
  have HBB := Lib.hid hBB
  have HM := Lib.hid hM
  have HBO := Lib.hid hBO
  have LA := Lib.hid lA
  have LB := Lib.hid lB
  have LN := Lib.hid hn
  have K0 := Lib.hid (Blk.new w 34 (ints .u8 (nn nc)))
  have Kb := Lib.hid ((Below.refl w.heap.size w).alloc (Nat.le_refl _) (.cells (ints .u8 (nn nc)).toArray 34))
  clear hK hH hY hBB hM hBO lA lB lO hn hT
  generalize tx nc = tn at *
  generalize tx B = tB at *
  generalize tx O = tO at *
  go_enter Try.func15, Try.ntmps15
  go_wp2_with fail
  refine (HK.out _).mono ?_
  rintro e w2 ⟨rfl, hb2⟩
  have J0 := K0.out.below hb2 K0.out.lt
  have Jb := Kb.out.trans (hb2.mono Kb.out.size)
  have hw2 := J0.lt
  have P1 : Blk ((w2.alloc (.cells (ints .u8 (nn (zerN 32))).toArray 29)).alloc (.cells (ints .u8 (nn (zerN 32))).toArray 29)) w2.heap.size 29 (ints .u8 (nn (zerN 32))) := (Blk.new w2 _ _).alloc _
  have P2 : Blk ((w2.alloc (.cells (ints .u8 (nn (zerN 32))).toArray 29)).alloc (.cells (ints .u8 (nn (zerN 32))).toArray 29)) (w2.heap.size + 1) 29 (ints .u8 (nn (zerN 32))) := Blk.newAt _ _ (by simp) _ _ rfl
  have M0 := (((J0.alloc (.cells (ints .u8 (nn (zerN 32))).toArray 29)).alloc (.cells (ints .u8 (nn (zerN 32))).toArray 29)).rowOther (g := w2.heap.size) (by omega) (ints .u8 (nn A)).toArray).rowOther (g := w2.heap.size + 1) (by omega) (ints .u8 (nn B)).toArray
  have Q2 := P2.rowOther (g := w2.heap.size) (by omega) (ints .u8 (nn A)).toArray
  have M1 := (P1.row (ints .u8 (nn A)) (by rw [ints_length, ints_length, nn_length, nn_length, LA.out]; rfl)).rowOther (g := w2.heap.size + 1) (by omega) (ints .u8 (nn B)).toArray
  have M2 := Q2.row (ints .u8 (nn B)) (by rw [ints_length, ints_length, nn_length, nn_length, LB.out]; rfl)
  have Mb := below_setRow (below_setRow ((Jb.alloc (by omega) (.cells (ints .u8 (nn (zerN 32))).toArray 29)).alloc (by simp; omega) (.cells (ints .u8 (nn (zerN 32))).toArray 29)) (b := w2.heap.size) (by omega) (ints .u8 (nn A)).toArray) (b := w2.heap.size + 1) (by omega) (ints .u8 (nn B)).toArray
  have P1 := Lib.hid P1
  have Q2 := Lib.hid Q2
  have M0 := Lib.hid M0
  have M1 := Lib.hid M1
  have M2 := Lib.hid M2
  have Mb := Lib.hid Mb
  clear hb2 J0 Jb P2
  go_wp2_with (first | (refine wpList_alloc_n rfl 29 rfl w2.heap.size rfl _ (alloc_hash _) ?_) | (refine wpList_alloc_n rfl 29 rfl (w2.heap.size + 1) (by simp) _ (alloc_hash _) ?_) | (refine wpList_store_blk rfl 29 _ _ rfl w2.heap.size (ints .u8 (nn A)) rfl rfl P1.out (by rw [size_hash, ints_length, nn_length, LA.out]) (by rw [ints_length, ints_length, nn_length, nn_length, LA.out]; rfl) (ints_one _ _) ?_) | (refine wpList_store_blk rfl 29 _ _ rfl (w2.heap.size + 1) (ints .u8 (nn B)) rfl rfl Q2.out (by rw [size_hash, ints_length, nn_length, LB.out]) (by rw [ints_length, ints_length, nn_length, nn_length, LB.out]; rfl) (ints_one _ _) ?_))
  have G0 := M0.out
  have G1 := M1.out
  have G2 := M2.out
  have Gb := Mb.out
  clear P1 Q2 M0 M1 M2 Mb
  generalize World.setRow (World.setRow _ _ _) _ _ = w3 at *
  generalize w2.heap.size = y at *
  have hL0 : ∀ wx, NewBut w3 wx → wx.rangeAt w.heap.size 0 (ints .u8 (nn nc)) := fun wx hx => (G0.below hx G0.lt).whole
  have hL1 : ∀ wx, NewBut w3 wx → wx.rangeAt y 0 (ints .u8 (nn A)) := fun wx hx => (G1.below hx G1.lt).whole
  have hH1 := inBut (wr := w3) HH.out
  have hY1 := inBut (wr := w3) HY.out
  have HL0 := Lib.hid hL0
  have HL1 := Lib.hid hL1
  have HH1 := Lib.hid hH1
  have HY1 := Lib.hid hY1
  clear hL0 hL1 hH1 hY1
  refine region_quiet_tail (C := NewBut w3) 7 mixed (by kernel_rfl) (show Below _ _ _ from (Below.refl _ _).drew) ?_
  simp only [List.take_succ_cons, List.take_zero, List.drop_succ_cons, List.drop_zero]
  repeat (first | (refine wpQuiet_load_row rfl 34 _ rfl w.heap.size 0 rfl (ints .u8 (nn nc)) HL0.out underlying_b16r rfl (by rw [size_b16r, nc_len LN.out]) ?_) | (refine wpQuiet_load_row rfl 29 _ rfl y 0 rfl (ints .u8 (nn A)) HL1.out Try.underlying29 rfl (by rw [size_hash, ints_length, nn_length, LA.out]) ?_) | (refine wpQuiet_step (fun K' hK' => ?_); go_simp; first | (refine ⟨_, fun _ _ => rfl, hK' _ ?_⟩; clear hK' K') | ((with_reducible refine ⟨_, fun wx hx => HY1.out wx hx, hK' _ ?_⟩); clear hK' K') | ((with_reducible refine ⟨_, fun wx hx => HH1.out wx hx, hK' _ ?_⟩); clear hK' K')))
  refine wpQuiet_nil ?_
  intro w4 hb4
  have F2 := Lib.hid (G2.below hb4 G2.lt)
  have Fb := Gb.trans (hb4.mono Gb.size)
  clear HL0 HL1 HH1 HY1 G0 G1 G2 Gb hb4
  go_wp2_with (first | (refine wpList_load_blk rfl 29 _ rfl (y + 1) rfl F2.out Try.underlying29 rfl (by rw [size_hash, ints_length, nn_length, LB.out]) ?_) | (go_at_call 17; (with_reducible refine (HBB.out _).mono ?_); rintro e w5 ⟨rfl, hb5⟩) | (go_at_call 16; (with_reducible refine (HM.out _).mono ?_); rintro e w6 ⟨rfl, hb6⟩) | (go_at_call 17; (with_reducible refine (HBO.out _).mono ?_); rintro e w7 ⟨rfl, hb7⟩))
  go_ret
  have c5 := Fb.trans (hb5.mono Fb.size)
  have c6 := c5.trans (hb6.mono c5.size)
  exact ⟨rfl, c6.trans (hb7.mono c6.size)⟩

set_option maxRecDepth 100000 in
set_option maxHeartbeats 400000 in
theorem r5_Open_short (key s : ByteArray) (w : World) (h : s.size < 48) :
    Calls Try.prog 9 #[.string key, .string s] w fun e w' => e = .returned (.tuple #[.string ⟨#[]⟩, .int .i64 40]) ∧ Below w.heap.size w w' := by
  have g1 : (s.size : Int) < 48 := by omega
  go_enter Try.func9, Try.ntmps9
  go_wp2
  go_ret2
  exact ⟨rfl, Below.refl _ _⟩

set_option maxRecDepth 100000 in
set_option maxHeartbeats 2000000 in
theorem r5_Open_long (key s : ByteArray) (w : World) (hk : key.size ≤ 65536) (hs : s.size ≤ 65536) (h : 48 ≤ s.size) (x : ByteArray) (er : Nat) (hx : openT key s = (x, er)) :
    Calls Try.prog 9 #[.string key, .string s] w fun e w' => e = .returned (.tuple #[.string x, .int .i64 (er : Int)]) ∧ Below w.heap.size w w' := by
  obtain ⟨n, hn⟩ : ∃ n, s.size = n + 32 := ⟨s.size - 32, by omega⟩
  have hK := fun w => r5_Keys key w hk
  have lN := ptN_len (s := s) (by omega)
  have bN := ptN_bys s
  have mM := ptM_size (s := s)
  have lA : (keyA key).length = 32 := macN_len _ _
  have lB : (keyB key).length = 32 := macN_len _ _
  have eM : ptM s = s.extract 16 n := by unfold ptM; rw [hn]; rfl
  have eV : aheadT (ptN s) (ptM s) = s.extract 0 n := by rw [ahead_pt h, hn]; rfl
  have eH : tx (ptH s) = s.extract n s.size := by rw [tail_pt, show s.size - 32 = n by omega]
  have eN : nonceN s = ptN s := if_neg (by omega)
  have hBB := fun w => r_BytesN (keyB key) w lB
  have hM : ∀ w, Calls Try.prog 16 #[.string (tx (keyB key)), .string (s.extract 0 n)] w fun e w' => e = .returned (.agg (ints .u8 (nn (sealN key (ptN s) (ptM s)))).toArray) ∧ Below w.heap.size w w' := fun w => by
    rw [← eV]
    exact r_MacN _ _ w (by rw [tx_size, lB]; omega) (by rw [aheadT_size _ lN]; omega)
  have lO := sealN_len key (ptN s) (ptM s)
  have bO := sealN_bys key (ptN s) (ptM s)
  have hBO := fun w => r_BytesN (sealN key (ptN s) (ptM s)) w lO
  have hA : ∀ w, Calls Try.prog 18 #[.agg (ints .u8 (nn (keyA key))).toArray, .agg (ints .u8 (nn (ptN s))).toArray, .string (s.extract 16 n)] w fun e w' => e = .returned (.string (hidT (keyA key) (ptN s) (ptM s))) ∧ Below w.heap.size w w' := fun w => by
    rw [← eM]
    exact r_Hid (keyA key) (ptN s) (ptM s) w lA (macN_bys _ _) lN bN (by omega)
  have hNo := fun w => r5_Nonce s w hs
  rw [eN, show decide (16 ≤ s.size) = true by simp; omega] at hNo
  have hbH := ptH_bys s
  unfold openT at hx
  rw [if_neg (by omega)] at hx
  generalize sealN key (ptN s) (ptM s) = O at *
  generalize hidT (keyA key) (ptN s) (ptM s) = T at *
  generalize keyA key = A at *
  generalize keyB key = B at *
  clear eM eV eN mM bN
  generalize ptN s = N at *
  generalize ptM s = M at *
  generalize ptH s = Hh at *
  obtain ⟨b, hb, hbx⟩ : ∃ b : Bool, ((tx O).toList == (s.extract n s.size).toList) = !b ∧ ((b = false ∧ T = x ∧ er = 0) ∨ (b = true ∧ ⟨#[]⟩ = x ∧ er = 50)) := by
    by_cases q : Hh = O
    · rw [if_pos q] at hx
      exact ⟨false, txt_eq (by rw [← q]; exact eH), .inl ⟨rfl, by simpa [eq_comm] using hx⟩⟩
    · rw [if_neg q] at hx
      exact ⟨true, txt_ne (fun e => q (tx_inj hbH bO (eH.trans e.symm))), .inr ⟨rfl, by simpa [eq_comm] using hx⟩⟩
  have HK := Lib.hid hK
  have HBB := Lib.hid hBB
  have HM := Lib.hid hM
  have HBO := Lib.hid hBO
  have HA := Lib.hid hA
  have HNo := Lib.hid hNo
  have LA := Lib.hid lA
  have LB := Lib.hid lB
  have LN := Lib.hid lN
  have HBX := Lib.hid hbx
  have HB := Lib.hid hb
  have e1 : IntKind.i64.wrap ((s.size : Int) - 32) = (n : Int) := by rw [IntWalk.i64_in _ (by omega)]; omega
  have e2 : (n : Int).toNat = n := by omega
  have e3 : (16 : Int) ≤ (n : Int) := by omega
  have e4 : (n : Int) ≤ (s.size : Int) := by omega
  have e5 : (0 : Int) ≤ (n : Int) := by omega
  have g1 : ¬ (s.size : Int) < 48 := by omega
  clear hK hBB hM hBO hA hNo lA lB lN hbx hb hx eH hbH bO lO hn
  generalize tx B = tB at *
  generalize tx O = tO at *
  go_enter Try.func9, Try.ntmps9
  go_wp2_with fail
  refine (HK.out _).mono ?_
  rintro e w2 ⟨rfl, hb2⟩
  have hw2 := hb2.size
  have P1 : Blk ((w2.alloc (.cells (ints .u8 (nn (zerN 32))).toArray 29)).alloc (.cells (ints .u8 (nn (zerN 32))).toArray 29)) w2.heap.size 29 (ints .u8 (nn (zerN 32))) := (Blk.new w2 _ _).alloc _
  have P2 : Blk ((w2.alloc (.cells (ints .u8 (nn (zerN 32))).toArray 29)).alloc (.cells (ints .u8 (nn (zerN 32))).toArray 29)) (w2.heap.size + 1) 29 (ints .u8 (nn (zerN 32))) := Blk.newAt _ _ (by simp) _ _ rfl
  have Q2 := P2.rowOther (g := w2.heap.size) (by omega) (ints .u8 (nn A)).toArray
  have M1 := (P1.row (ints .u8 (nn A)) (by rw [ints_length, ints_length, nn_length, nn_length, LA.out]; rfl)).rowOther (g := w2.heap.size + 1) (by omega) (ints .u8 (nn B)).toArray
  have M2 := Q2.row (ints .u8 (nn B)) (by rw [ints_length, ints_length, nn_length, nn_length, LB.out]; rfl)
  have Mb := below_setRow (below_setRow ((hb2.alloc (by omega) (.cells (ints .u8 (nn (zerN 32))).toArray 29)).alloc (by simp; omega) (.cells (ints .u8 (nn (zerN 32))).toArray 29)) (b := w2.heap.size) (by omega) (ints .u8 (nn A)).toArray) (b := w2.heap.size + 1) (by omega) (ints .u8 (nn B)).toArray
  have P1 := Lib.hid P1
  have Q2 := Lib.hid Q2
  have M1 := Lib.hid M1
  have M2 := Lib.hid M2
  have Mb := Lib.hid Mb
  clear hb2 P2
  go_wp2_with (first | (refine wpList_alloc_n rfl 29 rfl w2.heap.size rfl _ (alloc_hash _) ?_) | (refine wpList_alloc_n rfl 29 rfl (w2.heap.size + 1) (by simp) _ (alloc_hash _) ?_) | (refine wpList_store_blk rfl 29 _ _ rfl w2.heap.size (ints .u8 (nn A)) rfl rfl P1.out (by rw [size_hash, ints_length, nn_length, LA.out]) (by rw [ints_length, ints_length, nn_length, nn_length, LA.out]; rfl) (ints_one _ _) ?_) | (refine wpList_store_blk rfl 29 _ _ rfl (w2.heap.size + 1) (ints .u8 (nn B)) rfl rfl Q2.out (by rw [size_hash, ints_length, nn_length, LB.out]) (by rw [ints_length, ints_length, nn_length, nn_length, LB.out]; rfl) (ints_one _ _) ?_))
  have G1 := M1.out
  have G2 := M2.out
  have Gb := Mb.out
  clear P1 Q2 M1 M2 Mb
  generalize World.setRow (World.setRow _ _ _) _ _ = w3 at *
  generalize w2.heap.size = y at *
  have hL2 : ∀ wx, NewBut w3 wx → wx.rangeAt (y + 1) 0 (ints .u8 (nn B)) := fun wx hx => (G2.below hx G2.lt).whole
  have hB1 := inBut (wr := w3) HBB.out
  have hM1 := inBut (wr := w3) HM.out
  have hO1 := inBut (wr := w3) HBO.out
  have HL2 := Lib.hid hL2
  have HB1 := Lib.hid hB1
  have HM1 := Lib.hid hM1
  have HO1 := Lib.hid hO1
  clear hL2 hB1 hM1 hO1
  refine region_quiet_tail (C := NewBut w3) 10 mixed (by kernel_rfl) (show Below _ _ _ from (Below.refl _ _).drew) ?_
  simp only [List.take_succ_cons, List.take_zero, List.drop_succ_cons, List.drop_zero]
  repeat (first | (refine wpQuiet_load_row rfl 29 _ rfl (y + 1) 0 rfl (ints .u8 (nn B)) HL2.out Try.underlying29 rfl (by rw [size_hash, ints_length, nn_length, LB.out]) ?_) | (refine wpQuiet_step (fun K' hK' => ?_); go_simp; first | (refine ⟨_, fun _ _ => rfl, hK' _ ?_⟩; clear hK' K') | ((with_reducible refine ⟨_, fun wx hx => HB1.out wx hx, hK' _ ?_⟩); clear hK' K') | ((with_reducible refine ⟨_, fun wx hx => HM1.out wx hx, hK' _ ?_⟩); clear hK' K') | ((with_reducible refine ⟨_, fun wx hx => HO1.out wx hx, hK' _ ?_⟩); clear hK' K')))
  refine wpQuiet_nil ?_
  intro w4 hb4
  have F1 := G1.below hb4 G1.lt
  have Fb := Gb.trans (hb4.mono Gb.size)
  have F1 := Lib.hid F1
  clear HL2 HB1 HM1 HO1 G1 G2 Gb hb4
  have hb := HB.out
  rcases HBX.out with ⟨rfl, rfl, rfl⟩ | ⟨rfl, rfl, rfl⟩
  · go_wp2_with fail
    refine (HNo.out _).mono ?_
    rintro e w5 ⟨rfl, hb5⟩
    have D1 := F1.out.below hb5 F1.out.lt
    have Db := Fb.trans (hb5.mono Fb.size)
    have dl := D1.lt
    have K := Lib.hid (Blk.new w5 34 (ints .u8 (nn (zerN 16))))
    have K2 := (Blk.new w5 34 (ints .u8 (nn (zerN 16)))).row (ints .u8 (nn N)) (by rw [nc_len LN.out]; rfl)
    have K1 := (D1.alloc (.cells (ints .u8 (nn (zerN 16))).toArray 34)).rowOther (g := w5.heap.size) (by omega) (ints .u8 (nn N)).toArray
    have Kb := below_setRow (Db.alloc Db.size (.cells (ints .u8 (nn (zerN 16))).toArray 34)) (b := w5.heap.size) Db.size (ints .u8 (nn N)).toArray
    have K2 := Lib.hid K2
    have K1 := Lib.hid K1
    have Kb := Lib.hid Kb
    clear hb5 D1 Db F1
    go_wp2_with (first | (refine wpList_alloc_n rfl 34 rfl w5.heap.size rfl _ (alloc_b16r _) ?_) | (refine wpList_store_blk rfl 34 _ _ rfl w5.heap.size (ints .u8 (nn N)) rfl rfl K.out (by rw [size_b16r, nc_len LN.out]) (by rw [nc_len LN.out]; rfl) (ints_one _ _) ?_))
    have E2 := K2.out
    have E1 := K1.out
    have Eb := Kb.out
    clear K K2 K1 Kb
    generalize World.setRow (World.alloc w5 _) _ _ = w6 at *
    generalize w5.heap.size = z at *
    have hL1 : ∀ wx, NewBut w6 wx → wx.rangeAt y 0 (ints .u8 (nn A)) := fun wx hx => (E1.below hx E1.lt).whole
    have hL3 : ∀ wx, NewBut w6 wx → wx.rangeAt z 0 (ints .u8 (nn N)) := fun wx hx => (E2.below hx E2.lt).whole
    have hA1 := inBut (wr := w6) HA.out
    have HL1 := Lib.hid hL1
    have HL3 := Lib.hid hL3
    have HA1 := Lib.hid hA1
    clear hL1 hL3 hA1
    refine region_quiet_tail (C := NewBut w6) 6 mixed (by kernel_rfl) (show Below _ _ _ from (Below.refl _ _).drew) ?_
    simp only [List.take_succ_cons, List.take_zero, List.drop_succ_cons, List.drop_zero]
    repeat (first | (refine wpQuiet_load_row rfl 29 _ rfl y 0 rfl (ints .u8 (nn A)) HL1.out Try.underlying29 rfl (by rw [size_hash, ints_length, nn_length, LA.out]) ?_) | (refine wpQuiet_load_row rfl 34 _ rfl z 0 rfl (ints .u8 (nn N)) HL3.out underlying_b16r rfl (by rw [size_b16r, nc_len LN.out]) ?_) | (refine wpQuiet_step (fun K' hK' => ?_); go_simp; first | (refine ⟨_, fun _ _ => rfl, hK' _ ?_⟩; clear hK' K') | ((with_reducible refine ⟨_, fun wx hx => HA1.out wx hx, hK' _ ?_⟩); clear hK' K')))
    refine wpQuiet_nil ?_
    intro w7 hb7
    go_wp2
    go_ret2
    exact ⟨rfl, Eb.trans (hb7.mono Eb.size)⟩
  · go_wp2_with fail
    go_ret2
    exact ⟨rfl, Fb⟩

theorem r5_Open (key s : ByteArray) (w : World) (hk : key.size ≤ 65536) (hs : s.size ≤ 65536) (x : ByteArray) (er : Nat) (hx : openT key s = (x, er)) :
    Calls Try.prog 9 #[.string key, .string s] w fun e w' => e = .returned (.tuple #[.string x, .int .i64 (er : Int)]) ∧ Below w.heap.size w w' := by
  by_cases h : s.size < 48
  · unfold openT at hx
    rw [if_pos h] at hx
    obtain ⟨rfl, rfl⟩ : x = ⟨#[]⟩ ∧ er = 40 := by simpa [eq_comm] using hx
    exact r5_Open_short key s w h
  · exact r5_Open_long key s w hk hs (by omega) x er hx
end Go.Proofs.Ytleofmeejjikmaa
