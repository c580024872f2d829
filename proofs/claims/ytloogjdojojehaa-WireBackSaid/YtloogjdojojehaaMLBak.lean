/-
  For every message, request and place: what was encoded is decoded; its beginnings are too few bytes, and with one more it is too many; what a request is put to, with a byte behind, is got back, and that byte. What may not be is refused. Messages and requests beyond the document's bound are answered by the case shown alone. No condition.
-/
import Derived.Test.YtloogjdojojehaaRows
import Derived.Test.YtloogjdojojehaaMF
import Derived.Test.YtloogjdojojehaaMG
import Derived.IntWalk
import Derived.ShutString
import Derived.ChangeOld
namespace Go.Proofs.Ytloogjdojojehaa.wireBack
open Go.ChangeShapes Go.WideShapes Go.ChangeAt Go.RowKit
open Go.ChangeMaps (open_string shut_string)
set_option linter.unusedVariables false

theorem tx_z : tx [122] = ⟨#[122]⟩ := by decide
set_option maxHeartbeats 8000000 in
set_option maxRecDepth 100000 in
theorem walk (m : MsgU) (vm : Value) (a : ReqU RawV) (va : Value) (c : Int) (im : MsgIn m) (ia : ReqIn a) (hc : (Lit.int .u16 c).wf = true) (w : World) (hM : MsgTold w vm m) (hA : ReqTold w va a) :
    Calls Try.prog 3 #[vm, va, .int .u16 c] w fun e w' => e = .returned (.bool true) ∧ Below w.heap.size w w' := by
  obtain ⟨P, rfl, hPl, hPo⟩ := msg_cells hM
  obtain ⟨R, rfl, hRl, -, -, -, -, hVA⟩ := req_cells hA
  have hcb : 0 ≤ c ∧ c < 65536 := wf_u16 c hc
  have hHash : m.hash.length = 32 ∧ Bys m.hash := by
    obtain ⟨_, _, _, _, _, _, _, _, _, h⟩ := hM
    exact h
  have k0 := (Blk.newAt w w.heap.size rfl 36 (c := P.toArray) P rfl).alloc (.cells R.toArray 40)
  have k1 := Blk.newAt (w.alloc (.cells P.toArray 36)) (w.heap.size + 1) (by simp) 40 (c := R.toArray) R rfl
  have kb := ((Below.refl w.heap.size w).alloc (Nat.le_refl _) (.cells P.toArray 36)).alloc (by simp) (.cells R.toArray 40)
  have HQ : Hid (∀ wx, Blk wx (w.heap.size + 1) 40 R → ∀ i x, (R.drop 4)[i]? = some x → wx.cell? ((⟨w.heap.size + 1, 4, none⟩ : Addr).add i) = some x) := Lib.hid fun wx h i x hx => by
    rw [Addr.add_mid, h.cell]
    rw [List.getElem?_drop] at hx
    exact hx
  have HD : Hid ((R.drop 4).length = 4) := Lib.hid (by rw [List.length_drop, hRl])
  have HPL := Lib.hid hPl
  have HRL := Lib.hid hRl
  obtain ⟨ma, hma⟩ : ∃ t, heavyM m = t := ⟨_, rfl⟩
  obtain ⟨mb, hmb⟩ : ∃ t, muchV a.ver = t := ⟨_, rfl⟩
  have HMA := Lib.hid (l18_heavy m (.agg P.toArray) ma _ hma (hM.below kb))
  have HMB := Lib.hid (fun wx (h : Below w.heap.size w wx) => l18_much a.ver (.agg (R.drop 4).toArray) mb wx hmb (hVA.below h))
  have HSh := Lib.hid l18_shown
  have K0 := Lib.hid k0
  have K1 := Lib.hid k1
  have KB := Lib.hid kb
  have HM := Lib.hid hM
  have HA := Lib.hid hA
  have IM := Lib.hid im
  have IA := Lib.hid ia
  have HMa := Lib.hid hma
  have HMb := Lib.hid hmb
  have HHS := Lib.hid hHash
  have HCB := Lib.hid hcb
  clear k0 k1 kb hM hA im ia hma hmb hVA hPl hPo hRl hHash hc hcb
  go_enter Try.func3, Try.ntmps3
  go_wp2_with (first | (go_skip) | (refine wpList_load_blkW rfl 36 _ rfl w.heap.size rfl K0.out Try.underlying36 rfl (by rw [size_msg, HPL.out]) ?_))
  refine HMA.out.mono ?_
  rintro e w2 ⟨rfl, b2⟩
  have B2 := Lib.hid (KB.out.trans (b2.mono KB.out.size))
  have K02 := Lib.hid (K0.out.below b2 K0.out.lt)
  have K12 := Lib.hid (K1.out.below b2 K1.out.lt)
  have HQA := Lib.hid (HQ.out _ K12.out)
  clear b2 HMA K0 K1 KB
  cases ma with
  | true =>
    go_wp2_with (first | (go_skip) | fail)
    refine (HSh.out _).mono ?_
    rintro e w3 ⟨rfl, b3⟩
    have B3 := Lib.hid (B2.out.trans (b3.mono B2.out.size))
    clear b3
    go_wp2
    go_ret
    exact ⟨rfl, B3.out⟩
  | false =>
  go_wp2_with (first | (go_skip) | (refine wpList_load_addrV rfl 30 _ rfl ⟨w.heap.size + 1, 4, none⟩ rfl (R.drop 4) HQA.out Try.underlying30 rfl (by rw [size_ver, HD.out]) ?_))
  refine (HMB.out _ B2.out).mono ?_
  rintro e w3 ⟨rfl, b3⟩
  have B3 := Lib.hid (B2.out.trans (b3.mono B2.out.size))
  have K03 := Lib.hid (K02.out.below b3 K02.out.lt)
  have K13 := Lib.hid (K12.out.below b3 K12.out.lt)
  clear b3 HMB K02 K12 B2 HQA
  cases mb with
  | true =>
    go_wp2_with (first | (go_skip) | fail)
    refine (HSh.out _).mono ?_
    rintro e w4 ⟨rfl, b4⟩
    have B4 := Lib.hid (B3.out.trans (b4.mono B3.out.size))
    clear b4
    go_wp2
    go_ret
    exact ⟨rfl, B4.out⟩
  | false =>
  have hsa := ver_S IA.out.2.2.2.2 HMb.out
  obtain ⟨hsm, hsi⟩ := msg_S IM.out HMa.out
  obtain ⟨z, hz1, hz2, hz3⟩ := put_any a IA.out hsa
  obtain ⟨y, er, hy1, hy2, hy3⟩ := enc_any m IM.out hsm HHS.out
  obtain ⟨α, hα⟩ : ∃ t, mayBeR a = t := ⟨_, rfl⟩
  obtain ⟨β, hβ⟩ : ∃ t, msgMayR m = t := ⟨_, rfl⟩
  rw [hα] at hz2 hz3
  rw [hβ] at hy2 hy3
  have Z1 := Lib.hid hz1
  have Z2 := Lib.hid hz2
  have Z3 := Lib.hid hz3
  have Y1 := Lib.hid hy1
  have Y2 := Lib.hid hy2
  have Y3 := Lib.hid hy3
  have HVS := Lib.hid hsa
  have HSI := Lib.hid hsi
  clear hz1 hz2 hz3 hy1 hy2 hy3 hα hβ hsa hsm hsi
  go_wp2_with (first | (go_skip) | fail)
  refine (HSh.out _).mono ?_
  rintro e w4 ⟨rfl, b4⟩
  have B4 := Lib.hid (B3.out.trans (b4.mono B3.out.size))
  have K04 := Lib.hid (K03.out.below b4 K03.out.lt)
  have K14 := Lib.hid (K13.out.below b4 K13.out.lt)
  clear b4 K03 K13 B3
  go_wp2_with (first | (go_skip) | (refine wpList_load_blkW rfl 40 _ rfl (w.heap.size + 1) rfl K14.out Try.underlying40 rfl (by rw [size_req, HRL.out]) ?_))
  refine (Z1.out _ _ (HA.out.below B4.out)).mono ?_
  rintro e w5 ⟨rfl, b5⟩
  have B5 := Lib.hid (B4.out.trans (b5.mono B4.out.size))
  have K05 := Lib.hid (K04.out.below b5 K04.out.lt)
  have K15 := Lib.hid (K14.out.below b5 K14.out.lt)
  clear b5 K04 K14 B4
  cases α with
  | false =>
    have t1 : z.toList.isEmpty = true := tx_none (by rw [Z3.out rfl]; rfl)
    go_wp2_with (first | (go_skip) | (refine wpList_load_blkW rfl 36 _ rfl w.heap.size rfl K05.out Try.underlying36 rfl (by rw [size_msg, HPL.out]) ?_))
    refine (Y1.out _ _ (HM.out.below B5.out)).mono ?_
    rintro e w8 ⟨rfl, b8⟩
    have B8 := Lib.hid (B5.out.trans (b8.mono B5.out.size))
    have K08 := Lib.hid (K05.out.below b8 K05.out.lt)
    clear b8 K05 B5
    cases β with
    | false =>
      obtain ⟨rfl, hyz⟩ := Y3.out rfl
      have t2 : y.toList.isEmpty = true := tx_none (by rw [hyz]; rfl)
      go_wp2_with (first | (go_skip) | fail)
      go_ret
      exact ⟨rfl, B8.out⟩
    | true =>
    obtain ⟨rfl, x, hx, hex, hyz⟩ := Y2.out rfl
    have hxl := msgE_len hx
    have hxb : Bys (msgE x) := msgT_codes.bys _ hx.1
    obtain ⟨L, hL⟩ : ∃ L, (msgE x).length = L := ⟨_, rfl⟩
    obtain ⟨k, hk⟩ : ∃ k : Nat, c.toNat % L = k := ⟨_, rfl⟩
    have hkl : k < L := by rw [← hk]; exact Nat.mod_lt _ (by omega)
    have hys : y.size = L := by rw [hyz, tx_size, hL]
    have hdec := w_Decode (msgE x)
    have HD1 := Lib.hid (fun wx => w_Decode (msgE x) wx hxb (by omega))
    rw [dec_back hx, ← hyz] at HD1
    have HD2 := Lib.hid (fun wx => w_Decode ((msgE x).take k) wx (hxb.take k) (by rw [List.length_take]; omega))
    rw [dec_cut hx (by rw [hL]; exact hkl)] at HD2
    have HD3 := Lib.hid (fun wx => w_Decode (msgE x ++ [120]) wx (hxb.app (Bys.of (by decide))) (by rw [List.length_append]; simp; omega))
    rw [dec_more hx (by simp)] at HD3
    have hadd3 : ∀ w, (Op.stringOp .add y ⟨#[120]⟩).run Try.prog w = .ok (.string (tx (msgE x ++ [120]))) w := fun w => by
      rw [tx_app, hyz, show tx [120] = ⟨#[120]⟩ by decide]
      exact run_string_add_sum _ _ _ (by rw [tx_size]; have : (⟨#[120]⟩ : ByteArray).size = 1 := rfl; omega)
    have hcut : y.extract 0 k = tx ((msgE x).take k) := by rw [hyz, head_tx, sl_tx hxb]
    have hmod : c.tmod (L : Int) = (k : Int) := by
      rw [← hk]
      have h0 := HCB.out.1
      obtain ⟨cn, rfl⟩ : ∃ cn : Nat, c = (cn : Int) := ⟨c.toNat, by omega⟩
      rw [Int.toNat_natCast]
      exact (Int.tmod_eq_emod_of_nonneg (by omega)).trans (by omega)
    have i1 : c < 65536 := HCB.out.2
    have i0 : 0 ≤ c := HCB.out.1
    have iL : (L : Int) ≤ 65536 := by omega
    have iL0 : (0 : Int) < (L : Int) := by omega
    have ik : (k : Int) < (L : Int) := by omega
    have HEX := Lib.hid hex
    have HYS := Lib.hid hys
    clear hx hxl hxb hyz hkl hk hdec hL
    obtain ⟨S2, hS2⟩ : ∃ S, tx ((msgE x).take k) = S := ⟨_, rfl⟩
    obtain ⟨S3, hS3⟩ : ∃ S, tx (msgE x ++ [120]) = S := ⟨_, rfl⟩
    rw [hS2] at HD2 hcut
    rw [hS3] at HD3 hadd3
    clear hS2 hS3
    go_wp2_with (first | (go_skip) | fail)
    refine (HD1.out _).mono ?_
    rintro e w9 ⟨v, er9, rfl, b9, hok, -⟩
    obtain ⟨rfl, hv⟩ := hok x rfl
    rw [HEX.out] at hv
    obtain ⟨CS, rfl, hCl, hCo⟩ := msg_cells hv
    obtain ⟨N, hN⟩ : ∃ N, w9.heap.size = N := ⟨_, rfl⟩
    have k9 := Blk.newAt w9 N hN 36 (c := zM.toArray) zM rfl
    have b10 := below_setRow ((Below.refl w9.heap.size w9).alloc (Nat.le_refl _) (.cells zM.toArray 36)) (show w9.heap.size ≤ N by omega) CS.toArray
    obtain ⟨w10, hw10⟩ : ∃ w10, (w9.alloc (.cells zM.toArray 36)).setRow N CS.toArray = w10 := ⟨_, rfl⟩
    rw [hw10] at b10
    have K9 := Lib.hid k9
    have KN : Hid (Blk w10 N 36 CS) := Lib.hid (by rw [← hw10]; exact k9.row CS (by rw [hCl]; rfl))
    have B10 := Lib.hid (B8.out.trans ((b9.trans (b10.mono b9.size)).mono B8.out.size))
    have K010 := Lib.hid ((K08.out.below b9 K08.out.lt).below b10 (K08.out.below b9 K08.out.lt).lt)
    have HVN := Lib.hid (hv.below b10)
    have HCL9 := Lib.hid hCl
    have HCO9 := Lib.hid hCo
    have HNz := Lib.hid hN
    have HW10 := Lib.hid hw10
    clear b9 hok hv hCl hCo hN k9 b10 hw10 K08 B8 HD1
    have hys' := HYS.out
    go_wp2_with (first | (go_skip) | (refine wpList_alloc_n rfl 36 rfl N HNz.out zM.toArray (alloc_msg _) ?_) | (refine wpList_store_blk rfl 36 _ _ rfl N CS rfl rfl K9.out (by rw [size_msg, HCL9.out]) (by rw [HCL9.out]; rfl) HCO9.out ?_; rw [HW10.out]))
    try rw [hcut]
    refine (HD2.out _).mono ?_
    rintro e w11 ⟨v, er11, rfl, b11, -, hno⟩
    obtain ⟨rfl, rfl⟩ := hno 40 rfl
    obtain ⟨N2, hN2⟩ : ∃ N, w11.heap.size = N := ⟨_, rfl⟩
    have k11 := Blk.newAt w11 N2 hN2 36 (c := zM.toArray) zM rfl
    have b12 := below_setRow ((Below.refl w11.heap.size w11).alloc (Nat.le_refl _) (.cells zM.toArray 36)) (show w11.heap.size ≤ N2 by omega) zM.toArray
    obtain ⟨w12, hw12⟩ : ∃ w12, (w11.alloc (.cells zM.toArray 36)).setRow N2 zM.toArray = w12 := ⟨_, rfl⟩
    rw [hw12] at b12
    have b1112 := b11.trans (b12.mono b11.size)
    have K11 := Lib.hid k11
    have B12 := Lib.hid (B10.out.trans (b1112.mono B10.out.size))
    have K012 := Lib.hid (K010.out.below b1112 K010.out.lt)
    have KN12 := Lib.hid (KN.out.below b1112 KN.out.lt)
    have HV12 := Lib.hid (HVN.out.below b1112)
    have HN2z := Lib.hid hN2
    have HW12 := Lib.hid hw12
    have HZO : Hid (zM.length = 49 ∧ zM.toArray.all (·.oneCell') = true) := Lib.hid zM_one
    clear b11 hno hN2 k11 b12 hw12 b1112 K010 KN B10 HD2 HVN
    go_wp2_with (first | (go_skip) | (refine wpList_alloc_n rfl 36 rfl N2 HN2z.out zM.toArray (alloc_msg _) ?_) | (refine wpList_store_blk rfl 36 _ _ rfl N2 zM rfl rfl K11.out (by rw [size_msg, HZO.out.1]) rfl HZO.out.2 ?_; rw [HW12.out]))
    refine (HD3.out _).mono ?_
    rintro e w13 ⟨v, er13, rfl, b13, -, hno⟩
    obtain ⟨rfl, rfl⟩ := hno 42 rfl
    obtain ⟨N3, hN3⟩ : ∃ N, w13.heap.size = N := ⟨_, rfl⟩
    have k13 := Blk.newAt w13 N3 hN3 36 (c := zM.toArray) zM rfl
    have b14 := below_setRow ((Below.refl w13.heap.size w13).alloc (Nat.le_refl _) (.cells zM.toArray 36)) (show w13.heap.size ≤ N3 by omega) zM.toArray
    obtain ⟨w14, hw14⟩ : ∃ w14, (w13.alloc (.cells zM.toArray 36)).setRow N3 zM.toArray = w14 := ⟨_, rfl⟩
    rw [hw14] at b14
    have b1314 := b13.trans (b14.mono b13.size)
    have K13 := Lib.hid k13
    have B14 := Lib.hid (B12.out.trans (b1314.mono B12.out.size))
    have K014 := Lib.hid (K012.out.below b1314 K012.out.lt)
    have KN14 := Lib.hid (KN12.out.below b1314 KN12.out.lt)
    have HSY := Lib.hid (mr_SameY m (.agg CS.toArray) (.agg P.toArray) w14 (HV12.out.below b1314) (HM.out.below B14.out) HSI.out)
    have HN3z := Lib.hid hN3
    have HW14 := Lib.hid hw14
    clear b13 hno hN3 k13 b14 hw14 b1314 K012 KN12 B12 HD3 HV12
    go_wp2_with (first | (go_skip) | (refine wpList_alloc_n rfl 36 rfl N3 HN3z.out zM.toArray (alloc_msg _) ?_) | (refine wpList_store_blk rfl 36 _ _ rfl N3 zM rfl rfl K13.out (by rw [size_msg, HZO.out.1]) rfl HZO.out.2 ?_; rw [HW14.out]) | (refine wpList_load_blkW rfl 36 _ rfl N rfl KN14.out Try.underlying36 rfl (by rw [size_msg, HCL9.out]) ?_) | (refine wpList_load_blkW rfl 36 _ rfl w.heap.size rfl K014.out Try.underlying36 rfl (by rw [size_msg, HPL.out]) ?_))
    refine HSY.out.mono ?_
    rintro e w15 ⟨rfl, b15⟩
    have B15 := Lib.hid (B14.out.trans (b15.mono B14.out.size))
    clear b15
    go_wp2_with (first | (go_skip) | fail)
    go_ret
    exact ⟨rfl, B15.out⟩
  | true =>
    obtain ⟨xa, hxa, hea, hza⟩ := Z2.out rfl
    have t1 : z.toList.isEmpty = false := by rw [hza]; exact tx_some (reqE_pos xa)
    obtain ⟨s, hs⟩ : ∃ s, reqE xa ++ [122] = s := ⟨_, rfl⟩
    have hsb : Bys s := by rw [← hs]; exact (req_codes.bys _ hxa).app (Bys.of (by decide))
    have hsl : s.length ≤ 65536 := by rw [← hs, List.length_append]; have := reqE_len hxa; simp; omega
    have hadd : ∀ w, (Op.stringOp .add z ⟨#[122]⟩).run Try.prog w = .ok (.string (tx s)) w := fun w => by
      rw [← hs, tx_app, hza, tx_z]
      exact run_string_add_sum _ _ _ (by rw [tx_size]; have := reqE_len hxa; have : (⟨#[122]⟩ : ByteArray).size = 1 := rfl; omega)
    have HG := Lib.hid (fun wx => w_GetRequest s wx hsb hsl)
    rw [show reqP s = .ok (xa, [122]) by rw [← hs]; exact req_codes.back xa [122] hxa] at HG
    have HEA := Lib.hid hea
    clear hxa hza hs hsb hsl hea
    generalize tx s = S at *
    go_wp2_with (first | (go_skip) | fail)
    refine (HG.out _).mono ?_
    rintro e w6 ⟨v, t, er', rfl, b6, hok, -⟩
    obtain ⟨rfl, rfl, hv⟩ := hok xa [122] rfl
    rw [HEA.out] at hv
    obtain ⟨CS, rfl, hCl, -⟩ := req_cells hv
    have hCo := req_oneC hv
    obtain ⟨M, hMz⟩ : ∃ M, w6.heap.size = M := ⟨_, rfl⟩
    have k2 := Blk.newAt w6 M hMz 40 (c := zQ.toArray) zQ rfl
    have b7 := below_setRow ((Below.refl w6.heap.size w6).alloc (Nat.le_refl _) (.cells zQ.toArray 40)) (show w6.heap.size ≤ M by omega) CS.toArray
    obtain ⟨w7, hw7⟩ : ∃ w7, (w6.alloc (.cells zQ.toArray 40)).setRow M CS.toArray = w7 := ⟨_, rfl⟩
    rw [hw7] at b7
    have K2 := Lib.hid k2
    have K3 : Hid (Blk w7 M 40 CS) := Lib.hid (by rw [← hw7]; exact k2.row CS (by rw [hCl]; rfl))
    have B7 := Lib.hid (B5.out.trans ((b6.trans (b7.mono b6.size)).mono B5.out.size))
    have K07 := Lib.hid ((K05.out.below b6 K05.out.lt).below b7 (K05.out.below b6 K05.out.lt).lt)
    have K17 := Lib.hid ((K15.out.below b6 K15.out.lt).below b7 (K15.out.below b6 K15.out.lt).lt)
    have HSQ := Lib.hid (mr_SameQ a a (.agg CS.toArray) (.agg R.toArray) true w7 (sameQ_self a) (hv.below b7) (HA.out.below B7.out) HVS.out HVS.out)
    have HCL := Lib.hid hCl
    have HCO := Lib.hid hCo
    have HMz := Lib.hid hMz
    have HW7 := Lib.hid hw7
    clear b6 hok hv hCl hCo hMz k2 b7 hw7 K05 K15 B5
    rw [tx_z]
    go_wp2_with (first | (go_skip) | (refine wpList_alloc_n rfl 40 rfl M HMz.out zQ.toArray (alloc_req _) ?_) | (refine wpList_store_blk rfl 40 _ _ rfl M CS rfl rfl K2.out (by rw [size_req, HCL.out]) (by rw [HCL.out]; rfl) HCO.out ?_; rw [HW7.out]) | (refine wpList_load_blkW rfl 40 _ rfl M rfl K3.out Try.underlying40 rfl (by rw [size_req, HCL.out]) ?_) | (refine wpList_load_blkW rfl 40 _ rfl (w.heap.size + 1) rfl K17.out Try.underlying40 rfl (by rw [size_req, HRL.out]) ?_))
    refine HSQ.out.mono ?_
    rintro e w5 ⟨rfl, b5⟩
    have B5 := Lib.hid (B7.out.trans (b5.mono B7.out.size))
    have K05 := Lib.hid (K07.out.below b5 K07.out.lt)
    clear b5 K07 K17 K2 K3 B7 HSQ
    go_wp2_with (first | (go_skip) | (refine wpList_load_blkW rfl 36 _ rfl w.heap.size rfl K05.out Try.underlying36 rfl (by rw [size_msg, HPL.out]) ?_))
    refine (Y1.out _ _ (HM.out.below B5.out)).mono ?_
    rintro e w8 ⟨rfl, b8⟩
    have B8 := Lib.hid (B5.out.trans (b8.mono B5.out.size))
    have K08 := Lib.hid (K05.out.below b8 K05.out.lt)
    clear b8 K05 B5
    cases β with
    | false =>
      obtain ⟨rfl, hyz⟩ := Y3.out rfl
      have t2 : y.toList.isEmpty = true := tx_none (by rw [hyz]; rfl)
      go_wp2_with (first | (go_skip) | fail)
      go_ret
      exact ⟨rfl, B8.out⟩
    | true =>
    obtain ⟨rfl, x, hx, hex, hyz⟩ := Y2.out rfl
    have hxl := msgE_len hx
    have hxb : Bys (msgE x) := msgT_codes.bys _ hx.1
    obtain ⟨L, hL⟩ : ∃ L, (msgE x).length = L := ⟨_, rfl⟩
    obtain ⟨k, hk⟩ : ∃ k : Nat, c.toNat % L = k := ⟨_, rfl⟩
    have hkl : k < L := by rw [← hk]; exact Nat.mod_lt _ (by omega)
    have hys : y.size = L := by rw [hyz, tx_size, hL]
    have hdec := w_Decode (msgE x)
    have HD1 := Lib.hid (fun wx => w_Decode (msgE x) wx hxb (by omega))
    rw [dec_back hx, ← hyz] at HD1
    have HD2 := Lib.hid (fun wx => w_Decode ((msgE x).take k) wx (hxb.take k) (by rw [List.length_take]; omega))
    rw [dec_cut hx (by rw [hL]; exact hkl)] at HD2
    have HD3 := Lib.hid (fun wx => w_Decode (msgE x ++ [120]) wx (hxb.app (Bys.of (by decide))) (by rw [List.length_append]; simp; omega))
    rw [dec_more hx (by simp)] at HD3
    have hadd3 : ∀ w, (Op.stringOp .add y ⟨#[120]⟩).run Try.prog w = .ok (.string (tx (msgE x ++ [120]))) w := fun w => by
      rw [tx_app, hyz, show tx [120] = ⟨#[120]⟩ by decide]
      exact run_string_add_sum _ _ _ (by rw [tx_size]; have : (⟨#[120]⟩ : ByteArray).size = 1 := rfl; omega)
    have hcut : y.extract 0 k = tx ((msgE x).take k) := by rw [hyz, head_tx, sl_tx hxb]
    have hmod : c.tmod (L : Int) = (k : Int) := by
      rw [← hk]
      have h0 := HCB.out.1
      obtain ⟨cn, rfl⟩ : ∃ cn : Nat, c = (cn : Int) := ⟨c.toNat, by omega⟩
      rw [Int.toNat_natCast]
      exact (Int.tmod_eq_emod_of_nonneg (by omega)).trans (by omega)
    have i1 : c < 65536 := HCB.out.2
    have i0 : 0 ≤ c := HCB.out.1
    have iL : (L : Int) ≤ 65536 := by omega
    have iL0 : (0 : Int) < (L : Int) := by omega
    have ik : (k : Int) < (L : Int) := by omega
    have HEX := Lib.hid hex
    have HYS := Lib.hid hys
    clear hx hxl hxb hyz hkl hk hdec hL
    obtain ⟨S2, hS2⟩ : ∃ S, tx ((msgE x).take k) = S := ⟨_, rfl⟩
    obtain ⟨S3, hS3⟩ : ∃ S, tx (msgE x ++ [120]) = S := ⟨_, rfl⟩
    rw [hS2] at HD2 hcut
    rw [hS3] at HD3 hadd3
    clear hS2 hS3
    go_wp2_with (first | (go_skip) | fail)
    refine (HD1.out _).mono ?_
    rintro e w9 ⟨v, er9, rfl, b9, hok, -⟩
    obtain ⟨rfl, hv⟩ := hok x rfl
    rw [HEX.out] at hv
    obtain ⟨CS, rfl, hCl, hCo⟩ := msg_cells hv
    obtain ⟨N, hN⟩ : ∃ N, w9.heap.size = N := ⟨_, rfl⟩
    have k9 := Blk.newAt w9 N hN 36 (c := zM.toArray) zM rfl
    have b10 := below_setRow ((Below.refl w9.heap.size w9).alloc (Nat.le_refl _) (.cells zM.toArray 36)) (show w9.heap.size ≤ N by omega) CS.toArray
    obtain ⟨w10, hw10⟩ : ∃ w10, (w9.alloc (.cells zM.toArray 36)).setRow N CS.toArray = w10 := ⟨_, rfl⟩
    rw [hw10] at b10
    have K9 := Lib.hid k9
    have KN : Hid (Blk w10 N 36 CS) := Lib.hid (by rw [← hw10]; exact k9.row CS (by rw [hCl]; rfl))
    have B10 := Lib.hid (B8.out.trans ((b9.trans (b10.mono b9.size)).mono B8.out.size))
    have K010 := Lib.hid ((K08.out.below b9 K08.out.lt).below b10 (K08.out.below b9 K08.out.lt).lt)
    have HVN := Lib.hid (hv.below b10)
    have HCL9 := Lib.hid hCl
    have HCO9 := Lib.hid hCo
    have HNz := Lib.hid hN
    have HW10 := Lib.hid hw10
    clear b9 hok hv hCl hCo hN k9 b10 hw10 K08 B8 HD1
    have hys' := HYS.out
    go_wp2_with (first | (go_skip) | (refine wpList_alloc_n rfl 36 rfl N HNz.out zM.toArray (alloc_msg _) ?_) | (refine wpList_store_blk rfl 36 _ _ rfl N CS rfl rfl K9.out (by rw [size_msg, HCL9.out]) (by rw [HCL9.out]; rfl) HCO9.out ?_; rw [HW10.out]))
    try rw [hcut]
    refine (HD2.out _).mono ?_
    rintro e w11 ⟨v, er11, rfl, b11, -, hno⟩
    obtain ⟨rfl, rfl⟩ := hno 40 rfl
    obtain ⟨N2, hN2⟩ : ∃ N, w11.heap.size = N := ⟨_, rfl⟩
    have k11 := Blk.newAt w11 N2 hN2 36 (c := zM.toArray) zM rfl
    have b12 := below_setRow ((Below.refl w11.heap.size w11).alloc (Nat.le_refl _) (.cells zM.toArray 36)) (show w11.heap.size ≤ N2 by omega) zM.toArray
    obtain ⟨w12, hw12⟩ : ∃ w12, (w11.alloc (.cells zM.toArray 36)).setRow N2 zM.toArray = w12 := ⟨_, rfl⟩
    rw [hw12] at b12
    have b1112 := b11.trans (b12.mono b11.size)
    have K11 := Lib.hid k11
    have B12 := Lib.hid (B10.out.trans (b1112.mono B10.out.size))
    have K012 := Lib.hid (K010.out.below b1112 K010.out.lt)
    have KN12 := Lib.hid (KN.out.below b1112 KN.out.lt)
    have HV12 := Lib.hid (HVN.out.below b1112)
    have HN2z := Lib.hid hN2
    have HW12 := Lib.hid hw12
    have HZO : Hid (zM.length = 49 ∧ zM.toArray.all (·.oneCell') = true) := Lib.hid zM_one
    clear b11 hno hN2 k11 b12 hw12 b1112 K010 KN B10 HD2 HVN
    go_wp2_with (first | (go_skip) | (refine wpList_alloc_n rfl 36 rfl N2 HN2z.out zM.toArray (alloc_msg _) ?_) | (refine wpList_store_blk rfl 36 _ _ rfl N2 zM rfl rfl K11.out (by rw [size_msg, HZO.out.1]) rfl HZO.out.2 ?_; rw [HW12.out]))
    refine (HD3.out _).mono ?_
    rintro e w13 ⟨v, er13, rfl, b13, -, hno⟩
    obtain ⟨rfl, rfl⟩ := hno 42 rfl
    obtain ⟨N3, hN3⟩ : ∃ N, w13.heap.size = N := ⟨_, rfl⟩
    have k13 := Blk.newAt w13 N3 hN3 36 (c := zM.toArray) zM rfl
    have b14 := below_setRow ((Below.refl w13.heap.size w13).alloc (Nat.le_refl _) (.cells zM.toArray 36)) (show w13.heap.size ≤ N3 by omega) zM.toArray
    obtain ⟨w14, hw14⟩ : ∃ w14, (w13.alloc (.cells zM.toArray 36)).setRow N3 zM.toArray = w14 := ⟨_, rfl⟩
    rw [hw14] at b14
    have b1314 := b13.trans (b14.mono b13.size)
    have K13 := Lib.hid k13
    have B14 := Lib.hid (B12.out.trans (b1314.mono B12.out.size))
    have K014 := Lib.hid (K012.out.below b1314 K012.out.lt)
    have KN14 := Lib.hid (KN12.out.below b1314 KN12.out.lt)
    have HSY := Lib.hid (mr_SameY m (.agg CS.toArray) (.agg P.toArray) w14 (HV12.out.below b1314) (HM.out.below B14.out) HSI.out)
    have HN3z := Lib.hid hN3
    have HW14 := Lib.hid hw14
    clear b13 hno hN3 k13 b14 hw14 b1314 K012 KN12 B12 HD3 HV12
    go_wp2_with (first | (go_skip) | (refine wpList_alloc_n rfl 36 rfl N3 HN3z.out zM.toArray (alloc_msg _) ?_) | (refine wpList_store_blk rfl 36 _ _ rfl N3 zM rfl rfl K13.out (by rw [size_msg, HZO.out.1]) rfl HZO.out.2 ?_; rw [HW14.out]) | (refine wpList_load_blkW rfl 36 _ rfl N rfl KN14.out Try.underlying36 rfl (by rw [size_msg, HCL9.out]) ?_) | (refine wpList_load_blkW rfl 36 _ rfl w.heap.size rfl K014.out Try.underlying36 rfl (by rw [size_msg, HPL.out]) ?_))
    refine HSY.out.mono ?_
    rintro e w15 ⟨rfl, b15⟩
    have B15 := Lib.hid (B14.out.trans (b15.mono B14.out.size))
    clear b15
    go_wp2_with (first | (go_skip) | fail)
    go_ret
    exact ⟨rfl, B15.out⟩
set_option maxRecDepth 100000 in
theorem lifted (os : Os) (started : os.Started) (H : Type) (enc : TypeId × Value → H) :
    ReturnsInHanded {} Try.checked os 3 .any (Rows.wireBackSpec.pre6 enc Try.prog Try.f3 Rows.wireBackRow.domain false) (Rows.wireBackSpec.post enc Try.prog Try.f3 false true false false) := by
  refine returnsInHanded_of_change (C := Try.checked) own started (by kernel_rfl) Try.func3
    (ChangeSpec.witness6 (enc := enc) (C := Try.checked) false ⟨#[], #[.agg zM.toArray, .agg #[.int .i64 0, .int .u32 0, .int .i64 0, .int .u32 0, .int .u32 0, .slice none 0 0, .slice none 0 0, .slice none 0 0], .int .u16 0], []⟩ 8 (by kernel_rfl) (by kernel_rfl) (by kernel_rfl) (by kernel_rfl)) ?_
  intro W base args ds gs before hval0 hW hcnd _
  have hval : ∀ (j : Nat) t v, Try.f3.params[j]? = some t → args[j]? = some v → Value.okWide Try.prog W .any base t v := hval0
  have hW' := hW
  obtain ⟨p, q, hA0, hV, rfl, hfz, hnd⟩ := hW
  have hA : DataW.TrodAll enc Try.prog W 0 (fun _ => true) true Try.f3.params.toList args.toList ds p := hA0
  rw [Try.params3] at hA hval
  obtain ⟨v0, vs0, d0, ds0, p0, q0, hargs, rfl, rfl, h0, r0⟩ := trodAll_cons hA
  obtain ⟨v1, vs1, d1, ds1, p1, q1, rfl, rfl, rfl, h1, r1⟩ := trodAll_cons r0
  obtain ⟨v2, vs2, d2, ds2, p2, q2, rfl, rfl, rfl, h2, r2⟩ := trodAll_cons r1
  obtain ⟨rfl, rfl, rfl⟩ := trodAll_nil r2
  obtain rfl : args = #[v0, v1, v2] := by cases args; simp_all
  obtain ⟨rfl, rfl⟩ := trodVars_none hV
  have k0 := h0
  have lt0 : ∀ x ∈ p0, x.block < W.heap.size := by obtain ⟨m, hm⟩ := k0; exact DataW.trod_lt m _ _ _ hm
  obtain ⟨l0, S0, n0⟩ := open_msg (hval 0 36 v0 rfl rfl) h0
  have k1 := h1
  have lt1 : ∀ x ∈ p1, x.block < W.heap.size := by obtain ⟨m, hm⟩ := k1; exact DataW.trod_lt m _ _ _ hm
  obtain ⟨l1, S1, n1⟩ := open_req (hval 1 40 v1 rfl rfl) h1
  obtain ⟨l2, rfl, rfl, rfl, n2⟩ := open_int Try.underlying41 (hval 2 41 v2 rfl rfl) h2
  clear hA0 hval0
  simp only [List.append_nil] at hW'
  refine (walk l0 v0 l1 v1 l2 n0 n1 n2 W S0 S1).mono fun e W' ⟨he, bel⟩ => ?_
  subst he
  exact ⟨_, rfl, _, _, _, [], _, [], hW', trodAll_mk1 (shut_bool Try.underlying4 _), (trodAll_cons_mk (Below.trod laidOut (by kernel_rfl) (of_decide_eq_true (by kernel_rfl)) k0 bel lt0) (trodAll_cons_mk (Below.trod laidOut (by kernel_rfl) (of_decide_eq_true (by kernel_rfl)) k1 bel lt1) (trodAll_cons_mk (shut_int Try.underlying41 n2) trodAll_mk0))), rfl, bel.frame _, fun h => by cases h⟩

theorem over : Rows.wireBackRow.holds Try.pinned (OpenSpec.ofChange Rows.wireBackSpec) :=
  OpenClaim.holds_of_wide 3 Try.f3 rfl rfl rfl rfl rfl rfl rfl ⟨rfl, rfl, rfl, rfl, rfl⟩ rfl rfl rfl rfl rfl (by kernel_rfl) Try.func3 (by kernel_rfl)
    (of_decide_eq_true (by kernel_rfl)) (by unfold Func.isWrapper; first | (rw [if_pos (by decide +kernel)]; kernel_rfl) | (rw [if_neg (by decide +kernel)]; exact ⟨rfl, rfl⟩))
    (fun os started H enc _ => lifted os started H enc)

theorem proved : Rows.WireBackSaid :=
  over
#print axioms proved
end Go.Proofs.Ytloogjdojojehaa.wireBack
