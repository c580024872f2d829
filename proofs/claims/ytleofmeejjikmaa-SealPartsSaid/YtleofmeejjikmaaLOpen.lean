/- Walk of seal's Open. -/
import Derived.Test.YtleofmeejjikmaaLSeal
namespace Go.Proofs.Ytleofmeejjikmaa
open Go.RowKit
set_option linter.unusedVariables false

theorem neq_hash (x y : List Nat) (hx : x.length = 32) (hy : y.length = 32) (b : Bool) (hb : (nn x == nn y) = !b) (w : World) : (binOp .neq 29 (.agg (ints .u8 (nn x)).toArray) (.agg (ints .u8 (nn y)).toArray)).run Try.prog w = .ok (.bool b) w := by
  have h := run_eql_ints (P := Try.prog) w 29 5 32 .u8 Try.underlying29 Try.underlying5 sizeOf_u8 (nn x) (nn y) (by rw [nn_length, hx]) (by rw [nn_length, hy])
  rw [hb] at h
  simp only [binOp, Sem.run_bind] at h ⊢
  cases hr : (Op.equal 29 (.agg (ints .u8 (nn x)).toArray) (.agg (ints .u8 (nn y)).toArray)).run Try.prog w with
  | ok v w' =>
    rw [hr] at h
    simp at h
    simp [h]
  | halt v w' =>
    rw [hr] at h
    simp at h

set_option maxRecDepth 100000 in
set_option maxHeartbeats 1000000 in
theorem l_Open_short (key s : ByteArray) (w : World) (h : s.size < 48) :
    Calls Try.prog 8 #[.string key, .string s] w fun e w' => e = .returned (.tuple #[.string ⟨#[]⟩, .int .i64 40]) ∧ Below w.heap.size w w' := by
  have HT := Lib.hid (fun w => l_taken_no s w h)
  have hone : row0.toArray.all (·.oneCell') = true := prow_one _ _ _
  have hz := row0_len
  have hal := alloc_parts
  generalize row0 = r0 at *
  have HAL := Lib.hid hal
  have HZ := Lib.hid hz
  have HO := Lib.hid hone
  clear hal hz hone
  go_enter Try.func8, Try.ntmps8
  go_wp2_with fail
  refine (HT.out _).mono ?_
  rintro e w1 ⟨rfl, hb1⟩
  have K := Lib.hid (Blk.new w1 47 r0)
  have Kb := below_setRow (hb1.alloc hb1.size (.cells r0.toArray 47)) (b := w1.heap.size) hb1.size r0.toArray
  go_wp2_with (first | (refine wpList_alloc_n rfl 47 rfl w1.heap.size rfl _ (HAL.out _) ?_) | (refine wpList_store_blk rfl 47 _ _ rfl w1.heap.size r0 rfl rfl K.out (by rw [size_parts, HZ.out]) rfl HO.out ?_))
  go_ret2
  exact ⟨rfl, Kb⟩

set_option maxRecDepth 100000 in
set_option maxHeartbeats 1000000 in
theorem l_Open_long (key s : ByteArray) (w : World) (hk : key.size ≤ 65536) (hs : s.size ≤ 65536) (h : 48 ≤ s.size) (x : ByteArray) (er : Nat) (hx : openT key s = (x, er)) :
    Calls Try.prog 8 #[.string key, .string s] w fun e w' => e = .returned (.tuple #[.string x, .int .i64 (er : Int)]) ∧ Below w.heap.size w w' := by
  have hT := fun w => l_taken s w hs h
  have hK := fun w => l_Keys key w hk
  have lN := ptN_len (s := s) (by omega)
  have bN := ptN_bys s
  have lH := ptH_len h
  have mM := ptM_size (s := s)
  have lA : (keyA key).length = 32 := macN_len _ _
  have lB : (keyB key).length = 32 := macN_len _ _
  have hS : ∀ w, Calls Try.prog 20 #[.agg (prow (ptN s) (ptM s) (ptH s)).toArray, .agg (ints .u8 (nn (keyB key))).toArray] w fun e w' => e = .returned (.agg (ints .u8 (nn (sealN key (ptN s) (ptM s)))).toArray) ∧ Below w.heap.size w w' := fun w => l_sealBy _ _ _ _ w lN lH lB (by omega)
  have hA := fun w => s_Hid (keyA key) (ptN s) (ptM s) w lA (macN_bys _ _) lN bN (by omega)
  have lO := sealN_len key (ptN s) (ptM s)
  have r1 := prow_len (ptM s) lN lH
  have o1 := prow_one (ptN s) (ptM s) (ptH s)
  have n1 : prow (ptN s) (ptM s) (ptH s) = [] ++ (ints .u8 (nn (ptN s)) ++ (Value.string (ptM s) :: ints .u8 (nn (ptH s)))) := rfl
  have n2 : prow (ptN s) (ptM s) (ptH s) = ints .u8 (nn (ptN s)) ++ (Value.string (ptM s) :: ints .u8 (nn (ptH s))) := rfl
  have n3 : prow (ptN s) (ptM s) (ptH s) = (ints .u8 (nn (ptN s)) ++ [Value.string (ptM s)]) ++ (ints .u8 (nn (ptH s)) ++ []) := by simp [prow]
  have n4 : 17 = (ints .u8 (nn (ptN s)) ++ [Value.string (ptM s)]).length := by rw [List.length_append, nc_len lN]; rfl
  have hE := neq_hash (ptH s) (sealN key (ptN s) (ptM s)) lH lO
  unfold openT at hx
  rw [if_neg (by omega)] at hx
  generalize prow (ptN s) (ptM s) (ptH s) = rb at *
  generalize sealN key (ptN s) (ptM s) = O at *
  generalize hidT (keyA key) (ptN s) (ptM s) = T at *
  generalize keyA key = A at *
  generalize keyB key = B at *
  generalize ptN s = N at *
  generalize ptM s = M at *
  generalize ptH s = H at *
  obtain ⟨b, hb, hbx⟩ : ∃ b : Bool, (nn H == nn O) = !b ∧ ((b = false ∧ T = x ∧ er = 0) ∨ (b = true ∧ ⟨#[]⟩ = x ∧ er = 50)) := by
    by_cases q : H = O
    · rw [if_pos q] at hx
      exact ⟨false, by subst q; simp, .inl ⟨rfl, by simpa [eq_comm] using hx⟩⟩
    · rw [if_neg q] at hx
      exact ⟨true, by simpa using fun e => q (nn_inj e), .inr ⟨rfl, by simpa [eq_comm] using hx⟩⟩
  have hneq := hE b hb
  have HT := Lib.hid hT
  have HK := Lib.hid hK
  have HS := Lib.hid hS
  have HA := Lib.hid hA
  have R1 := Lib.hid r1
  have O1 := Lib.hid o1
  have N1 := Lib.hid n1
  have N2 := Lib.hid n2
  have N3 := Lib.hid n3
  have N4 := Lib.hid n4
  have LA := Lib.hid lA
  have LB := Lib.hid lB
  have LN := Lib.hid lN
  have LH := Lib.hid lH
  have HBX := Lib.hid hbx
  have HNEQ := Lib.hid hneq
  clear hT hK hS hA r1 o1 n1 n2 n3 n4 lA lB lN lH lO hE hb hx hbx bN mM hneq
  go_enter Try.func8, Try.ntmps8
  go_wp2_with fail
  refine (HT.out _).mono ?_
  rintro e w1 ⟨rfl, hb1⟩
  have K1 := Lib.hid (Blk.new w1 47 row0)
  have K2 := (Blk.new w1 47 row0).row rb (by rw [R1.out, row0_len])
  have Kb := below_setRow (hb1.alloc hb1.size (.cells row0.toArray 47)) (b := w1.heap.size) hb1.size rb.toArray
  have hw1 := hb1.size
  have K2 := Lib.hid K2
  have Kb := Lib.hid Kb
  clear hb1
  go_wp2_with (first | (refine wpList_alloc_n rfl 47 rfl w1.heap.size rfl _ (alloc_parts _) ?_) | (refine wpList_store_blk rfl 47 _ _ rfl w1.heap.size rb rfl rfl K1.out (by rw [size_parts, R1.out]) (by rw [R1.out, row0_len]) O1.out ?_))
  refine (HK.out _).mono ?_
  rintro e w2 ⟨rfl, hb2⟩
  have J0 := K2.out.below hb2 K2.out.lt
  have Jb := Kb.out.trans (hb2.mono Kb.out.size)
  have hw2 := J0.lt
  clear K1 K2 Kb hb2
  generalize w1.heap.size = c at *
  have P1 : Blk ((w2.alloc (.cells (ints .u8 (nn (zerN 32))).toArray 29)).alloc (.cells (ints .u8 (nn (zerN 32))).toArray 29)) w2.heap.size 29 (ints .u8 (nn (zerN 32))) := (Blk.new w2 _ _).alloc _
  have P2 : Blk ((w2.alloc (.cells (ints .u8 (nn (zerN 32))).toArray 29)).alloc (.cells (ints .u8 (nn (zerN 32))).toArray 29)) (w2.heap.size + 1) 29 (ints .u8 (nn (zerN 32))) := Blk.newAt _ _ (by simp) _ _ rfl
  have M0 := (((J0.alloc (.cells (ints .u8 (nn (zerN 32))).toArray 29)).alloc (.cells (ints .u8 (nn (zerN 32))).toArray 29)).rowOther (g := w2.heap.size) (by omega) (ints .u8 (nn A)).toArray).rowOther (g := w2.heap.size + 1) (by omega) (ints .u8 (nn B)).toArray
  have Q2 := P2.rowOther (g := w2.heap.size) (by omega) (ints .u8 (nn A)).toArray
  have M1 := (P1.row (ints .u8 (nn A)) (by rw [ints_length, ints_length, nn_length, nn_length, LA.out]; rfl)).rowOther (g := w2.heap.size + 1) (by omega) (ints .u8 (nn B)).toArray
  have M2 := Q2.row (ints .u8 (nn B)) (by rw [ints_length, ints_length, nn_length, nn_length, LB.out]; rfl)
  have Mb := below_setRow (below_setRow ((Jb.alloc (by omega) (.cells (ints .u8 (nn (zerN 32))).toArray 29)).alloc (by simp; omega) (.cells (ints .u8 (nn (zerN 32))).toArray 29)) (b := w2.heap.size) (by omega) (ints .u8 (nn A)).toArray) (b := w2.heap.size + 1) (by omega) (ints .u8 (nn B)).toArray
  have P1 := Lib.hid P1
  have Q2 := Lib.hid Q2
  have M0 := Lib.hid M0
  have M1 := Lib.hid M1
  have M2 := Lib.hid M2
  have Mb := Lib.hid Mb
  clear J0 Jb P2
  go_wp2_with (first | (refine wpList_alloc_n rfl 29 rfl w2.heap.size rfl _ (alloc_hash _) ?_) | (refine wpList_alloc_n rfl 29 rfl (w2.heap.size + 1) (by simp) _ (alloc_hash _) ?_) | (refine wpList_store_blk rfl 29 _ _ rfl w2.heap.size (ints .u8 (nn A)) rfl rfl P1.out (by rw [size_hash, ints_length, nn_length, LA.out]) (by rw [ints_length, ints_length, nn_length, nn_length, LA.out]; rfl) (ints_one _ _) ?_) | (refine wpList_store_blk rfl 29 _ _ rfl (w2.heap.size + 1) (ints .u8 (nn B)) rfl rfl Q2.out (by rw [size_hash, ints_length, nn_length, LB.out]) (by rw [ints_length, ints_length, nn_length, nn_length, LB.out]; rfl) (ints_one _ _) ?_))
  have G0 := M0.out
  have G1 := M1.out
  have G2 := M2.out
  have Gb := Mb.out
  have gx := G0.lt
  clear P1 Q2 M0 M1 M2 Mb
  generalize World.setRow (World.setRow _ _ _) _ _ = w3 at *
  generalize w2.heap.size = y at *
  have hL0 : ∀ wx, NewBut w3 wx → wx.rangeAt c 17 (ints .u8 (nn H)) := fun wx hx => ((G0.cast N3.out).below hx G0.lt).part 17 N4.out
  have hL1 : ∀ wx, NewBut w3 wx → wx.rangeAt c 0 rb := fun wx hx => (G0.below hx G0.lt).whole
  have hL2 : ∀ wx, NewBut w3 wx → wx.rangeAt (y + 1) 0 (ints .u8 (nn B)) := fun wx hx => (G2.below hx G2.lt).whole
  have hS1 := inBut (wr := w3) HS.out
  have HL0 := Lib.hid hL0
  have HL1 := Lib.hid hL1
  have HL2 := Lib.hid hL2
  have HS1 := Lib.hid hS1
  clear hL0 hL1 hL2 hS1
  refine region_quiet_tail (C := NewBut w3) 5 mixed (by kernel_rfl) (show Below _ _ _ from (Below.refl _ _).drew) ?_
  simp only [List.take_succ_cons, List.take_zero, List.drop_succ_cons, List.drop_zero]
  repeat (first | (refine wpQuiet_load_row rfl 29 _ rfl c 17 rfl (ints .u8 (nn H)) HL0.out Try.underlying29 rfl (by rw [size_hash, ints_length, nn_length, LH.out]) ?_) | (refine wpQuiet_load_row rfl 47 _ rfl c 0 rfl rb HL1.out Try.underlying47 rfl (by rw [size_parts, R1.out]) ?_) | (refine wpQuiet_load_row rfl 29 _ rfl (y + 1) 0 rfl (ints .u8 (nn B)) HL2.out Try.underlying29 rfl (by rw [size_hash, ints_length, nn_length, LB.out]) ?_) | (refine wpQuiet_step (fun K' hK' => ?_); go_simp; first | (refine ⟨_, fun _ _ => rfl, hK' _ ?_⟩; clear hK' K') | ((with_reducible refine ⟨_, fun wx hx => HS1.out wx hx, hK' _ ?_⟩); clear hK' K')))
  refine wpQuiet_nil ?_
  intro w4 hb4
  have F0 := G0.below hb4 G0.lt
  have F1 := G1.below hb4 G1.lt
  have Fb := Gb.trans (hb4.mono Gb.size)
  have f0 := (F0.cast N1.out).part 0 rfl
  have f1 := (F0.cast N2.out).one 16 (nc_len LN.out).symm
  have F0 := Lib.hid F0
  have F1 := Lib.hid F1
  have f0 := Lib.hid f0
  clear G0 G1 G2 Gb hb4 HL0 HL1 HL2 HS1
  have hneq := HNEQ.out
  rcases HBX.out with ⟨rfl, rfl, rfl⟩ | ⟨rfl, rfl, rfl⟩
  · go_wp2_with (first | (refine wpList_load_mid rfl 23 _ rfl c 0 rfl (ints .u8 (nn N)) _ f0.out Try.underlying23 rfl (by rw [size_b16', nc_len LN.out]) ?_) | (refine wpList_load_blk rfl 29 _ rfl y rfl F1.out Try.underlying29 rfl (by rw [size_hash, ints_length, nn_length, LA.out]) ?_) | (go_at_call 21; (with_reducible refine (HA.out _).mono ?_); rintro e w7 ⟨rfl, hb7⟩))
    go_ret2
    exact ⟨rfl, Fb.trans (hb7.mono Fb.size)⟩
  · go_wp2_with fail
    go_ret2
    exact ⟨rfl, Fb⟩

theorem l_Open (key s : ByteArray) (w : World) (hk : key.size ≤ 65536) (hs : s.size ≤ 65536) (x : ByteArray) (er : Nat) (hx : openT key s = (x, er)) :
    Calls Try.prog 8 #[.string key, .string s] w fun e w' => e = .returned (.tuple #[.string x, .int .i64 (er : Int)]) ∧ Below w.heap.size w w' := by
  by_cases h : s.size < 48
  · unfold openT at hx
    rw [if_pos h] at hx
    obtain ⟨rfl, rfl⟩ : x = ⟨#[]⟩ ∧ er = 40 := by simpa [eq_comm] using hx
    exact l_Open_short key s w h
  · exact l_Open_long key s w hk hs (by omega) x er hx
end Go.Proofs.Ytleofmeejjikmaa
