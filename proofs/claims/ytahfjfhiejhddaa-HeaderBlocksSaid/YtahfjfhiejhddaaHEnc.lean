/- Walks of a builder's Write, and of the program's Encode of versions. -/
import Derived.Test.YtahfjfhiejhddaaHMay
import Derived.Test.YtahfjfhiejhddaaHREn
import Derived.Test.YtahfjfhiejhddaaHRHs
import Derived.Test.YtahfjfhiejhddaaV1
import Derived.Test.YtahfjfhiejhddaaFC
namespace Go.Proofs.Ytahfjfhiejhddaa
open Go.RowKit
set_option linter.unusedVariables false

set_option maxRecDepth 100000 in
set_option maxHeartbeats 1000000 in
/-- bytes of another block are written behind what is there -/
theorem b_Write (w : World) (base b : Nat) (l x : List Nat) (T cap : Nat) (t : TypeId) (h : Bld w base b l) (hT : Blk w T t (ints .u8 (nn x))) (ht : t ≠ 49) (hx : 0 < x.length) (hl : l.length + x.length ≤ 1000000000) (hbase : base ≤ w.heap.size) :
    Calls Try.prog 26 #[.pointer (some ⟨b, 0, none⟩), .slice (some ⟨T, 0, none⟩) x.length cap] w fun e w' => e = .returned (.tuple #[.int .i64 (x.length : Int), .nilIface]) ∧ Bld w' base b (l ++ x) ∧ Below base w w' := by
  obtain ⟨i0, hi0, hz0, hz1, hz2⟩ := info_parts info_u8
  obtain ⟨hB, p, v, hp, hb, ho, hnil⟩ := h
  have hTb : T ≠ b := by
    rintro rfl
    unfold Blk at hT hb
    rw [hT] at hb
    simp at hb
    exact ht hb.2
  have HC := Lib.hid (b_check w b p v hp hb)
  have HO := Lib.hid ho
  have HBK := Lib.hid hb
  have HT := Lib.hid hT
  have HTB := Lib.hid hTb
  have hll : (nn l).length = l.length := nn_length l
  have HL := Lib.hid hll
  clear hb ho hp hnil hll hT hTb
  go_enter Try.func26, Try.ntmps26
  go_wp2_with fail
  (with_reducible refine HC.out.mono ?_)
  rintro e w1 ⟨rfl, hw1, hb1⟩
  have hk : OwnB w1 base 5 v (nn l) ∧ Below base w w1 ∧ w1.rangeAt T 0 (ints .u8 (nn x)) := by
    rcases hw1 with rfl | rfl
    · exact ⟨HO.out, Below.refl _ _, fun j u hj => by rw [Nat.zero_add, HT.out.cell]; exact hj⟩
    · exact ⟨HO.out.setOther HBK.out (by decide) 0 _, (Below.refl _ _).setCell (p := ⟨b, 0, none⟩) hB _, fun j u hj => by
        rw [Nat.zero_add, (HT.out.other (a := ⟨b, 0, none⟩) (fun e => HTB.out e.symm) _).cell]; exact hj⟩
  have hown : w1.ownsRow base 5 1 v l.length (ints .u8 (nn l)) := by
    have := hk.1
    unfold OwnB at this
    rw [HL.out] at this
    exact this
  have c1 := hb1.cell 1
  have f1 := hb1.free 1
  simp only [List.getElem?_cons_zero, List.getElem?_cons_succ] at c1
  have HOWN := Lib.hid hown
  have HB1 := Lib.hid hb1
  have HK := Lib.hid hk.2.1
  have HRG := Lib.hid hk.2.2
  have hne : ∀ i, v.ownBlock = some i → i ≠ b := fun i hi e => by
    subst e
    rcases hk.1.2 with ⟨hv, _⟩ | ⟨g, cap, cur, hv, hg, hh, r⟩
    · rw [hv] at hi; cases hi
    · rw [hv] at hi
      cases hi
      unfold Blk at hb1
      rw [hb1] at hh
      simp at hh
  have HLT := Lib.hid (hk.1.lt)
  have HNE := Lib.hid hne
  have H63 : Hid (l.length + x.length ≤ maxLen) := Lib.hid (by unfold maxLen; omega)
  have HBY : Hid ((l.length + x.length) * 1 ≤ 140737488355328) := Lib.hid (by omega)
  have HBS : Hid (base ≤ w1.heap.size) := Lib.hid (by have := HK.out.size; omega)
  have HXL : Hid ((ints .u8 (nn x)).length = x.length * 1) := Lib.hid (by rw [ints_length, nn_length]; omega)
  have HRA : Hid (∀ j u, (ints .u8 (nn x))[j]? = some u → w1.cell? ((⟨T, 0, none⟩ : Addr).add j) = some u) := Lib.hid fun j u hj => by rw [Addr.add_mid]; exact HRG.out j u hj
  have HOC : Hid (∀ u ∈ ints .u8 (nn x), u.oneCell' = true) := Lib.hid fun u hu => by
    simp only [ints, List.mem_map] at hu
    obtain ⟨n, _, rfl⟩ := hu
    rfl
  clear hown hb1 hk hne hw1 HC HO HBK
  go_wp2_with (refine wpList_append_own _ rfl _ _ 45 rfl base 5 i0 (.int .u8 0) 1 1 Try.underlying45 hi0 hz0 hz1 hz2 rfl (by decide) v l.length (ints .u8 (nn l)) rfl HOWN.out ⟨T, 0, none⟩ x.length cap (ints .u8 (nn x)) rfl HXL.out HRA.out HOC.out H63.out HBY.out HBS.out ?_; intro v2 w2 ho2 hg2 hn2; have hb2 := HB1.out.grownP hg2 (fun e => HNE.out b e rfl); have c2 := hb2.cell 1; have f2 := hb2.free 1; simp only [List.getElem?_cons_zero, List.getElem?_cons_succ] at c2; have HO2 := Lib.hid ho2; have HB2 := Lib.hid hb2; have HK2 := Lib.hid (HK.out.grown hg2 HBS.out (fun k e => (HLT.out k e).1)); obtain ⟨p2, c2', rfl⟩ := own_slice ho2; clear ho2 hg2 hb2 hn2)
  go_ret2
  have q1 := HB2.out.set 1 (.slice p2 (l.length + x.length) c2')
  have q2 : OwnB w2 base 5 (.slice p2 (l.length + x.length) c2') (nn (l ++ x)) := by
    unfold OwnB
    rw [nn_length, List.length_append, nn_app, ints_app]
    exact HO2.out
  refine ⟨rfl, ⟨hB, _, _, .inr rfl, q1, q2.setOther HB2.out (by decide) 1 _, fun e => ?_⟩, HK2.out.setCell (p := ⟨b, 1, none⟩) hB _⟩
  have e1 := List.append_eq_nil_iff.1 e
  rw [e1.2] at hx
  simp at hx
set_option maxRecDepth 100000 in
/-- a number is written -/
theorem e_put (n : Nat) (w : World) (base b : Nat) (l : List Nat) (h : Bld w base b l) (hn : n ≤ 1000000) (hl : l.length ≤ 1000000) (hbase : base ≤ w.heap.size) :
    Calls Try.prog 22 #[.int .i64 (n : Int), .pointer (some ⟨b, 0, none⟩)] w fun e w' => e = .returned (.tuple #[]) ∧ Bld w' base b (l ++ putL n) ∧ Below base w w' := by
  have QP := Lib.hid (v_Put n w (by omega))
  have u1 : IntKind.u64.wrap (n : Int) = (n : Int) := wraps_u64 _ (by omega) (by omega)
  have hz := tx_size (putL n)
  have hz2 := put_len_le n
  have hs := sl_tx (put_bys (n := n) (by omega))
  have HS := Lib.hid hs
  have HZ : Hid (l.length + (tx (putL n)).size ≤ 1000000000) := Lib.hid (by rw [hz]; omega)
  have HH := Lib.hid h
  have HB := Lib.hid hbase
  generalize tx (putL n) = Y at *
  clear hz hz2 hs h hbase hl
  have i1 : (n : Int) ≤ 1000000 := by omega
  go_enter Try.func22, Try.ntmps22
  go_wp2_with fail
  (with_reducible refine QP.out.mono ?_)
  rintro e w1 ⟨rfl, hb1⟩
  have BL := Lib.hid (HH.out.keep hb1)
  have G1 := Lib.hid (hb1.mono HB.out)
  have hbs : base ≤ w1.heap.size := by have := hb1.size; have := HB.out; omega
  clear hb1
  go_wp2_with fail
  (with_reducible refine (b_WriteString w1 base b l Y BL.out HZ.out hbs).mono ?_)
  rintro e w2 ⟨rfl, bl2, hb2⟩
  have BL2 := Lib.hid bl2
  have G2 := Lib.hid (G1.out.trans hb2)
  clear bl2 hb2
  go_wp2
  go_end0
  exact ⟨rfl, by rw [← HS.out]; exact BL2.out, G2.out⟩
set_option maxRecDepth 100000 in
set_option maxHeartbeats 4000000 in
theorem h_Encode (a : RawV) (v : Value) (s : ByteArray) (er : Nat) (w : World) (hE : encT a = (s, er)) (hV : VV w v a) (hk : a.ok) (h1 : a.bl.length ≤ 1000) (h2 : a.ns.length ≤ 1000) (h3 : a.zs.length ≤ 1000) :
    Calls Try.prog 10 #[v] w fun e w' => e = .returned (.tuple #[.string s, .int .i64 (er : Int)]) ∧ Below w.heap.size w w' := by
  have HM := Lib.hid (fun (b : Bool) (wx : World) (hb : mayH a.bl.length a.ns a.zs = b) (h : Below w.heap.size w wx) => h_May a v b wx hb (hV.below h) hk.2.2.1 h1 h2 h3)
  obtain ⟨vb, vn, vz, rfl, ⟨pb, cb, rfl⟩, ⟨pn, cn, rfl⟩, ⟨pz, cz, rfl⟩, sb, sn, sz⟩ := hV
  have k0 := Blk.new' w 27 (c := (cellsV a.id (.slice pb a.bl.length cb) (.slice pn a.ns.length cn) (.slice pz a.zs.length cz)).toArray) _ rfl
  have KB := Lib.hid ((Below.refl w.heap.size w).alloc (Nat.le_refl _) (.cells (cellsV a.id (.slice pb a.bl.length cb) (.slice pn a.ns.length cn) (.slice pz a.zs.length cz)).toArray 27))
  obtain ⟨B, hB⟩ : ∃ B, w.heap.size = B := ⟨_, rfl⟩
  have HBE := Lib.hid hB
  rw [hB] at k0
  have K0 := Lib.hid k0
  have e4 : (cellsV a.id (.slice pb a.bl.length cb) (.slice pn a.ns.length cn) (.slice pz a.zs.length cz)).length = 4 := rfl
  clear k0
  by_cases hm : mayH a.bl.length a.ns a.zs = true
  · obtain ⟨m1, m2, m3, m4, m5, m6⟩ := mayH_iff.1 hm
    have h15 := blocks_le hm
    have HMT := Lib.hid (fun wx h => HM.out true wx hm h)
    have hfine : ∀ k, k < a.ns.length → fineH (a.ns.getD k []) (a.zs.getD k 0) := fun k hk => by
      have q1 := m3 _ (getN_mem hk)
      have q2 := m4 _ (getZ_mem (show k < a.zs.length by omega))
      exact ⟨q1.1, q1.2, q2.1, q2.2⟩
    have hen := enD_all m2
    have HBY : Hid (Bys (enD a a.ns.length)) := Lib.hid (by rw [hen]; exact ver_codes.bys _ (ver_okR hk hm).1)
    have hs : s = tx (enD a a.ns.length) ∧ er = 0 := by
      unfold encT at hE
      rw [if_pos hm, ← hen] at hE
      simp only [Prod.mk.injEq] at hE
      exact ⟨hE.1.symm, hE.2.symm⟩
    obtain ⟨rfl, rfl⟩ := hs
    have HBL := Lib.hid (enB_len hk.2.1 h15)
    have HCL := Lib.hid (enC_len hk.2.1 h15 m1)
    have HDL := Lib.hid (enD_len hk.2.1 h15 m1 m2 hfine)
    have HF := Lib.hid hfine
    have HK := Lib.hid hk
    have SB := Lib.hid sb
    have SN := Lib.hid sn
    have SZ := Lib.hid sz
    have HL := Lib.hid m2
    have HI := Lib.hid hk.1
    have H15 := Lib.hid h15
    have H12 := Lib.hid m1
    clear hE hm hen hfine m1 m2 m3 m4 m5 m6 sb sn sz h1 h2 h3 hk HM h15
    generalize hW1 : (w.alloc (.cells (cellsV a.id (.slice pb a.bl.length cb) (.slice pn a.ns.length cn) (.slice pz a.zs.length cz)).toArray 27)) = w1 at *
    go_enter Try.func10, Try.ntmps10
    go_wp2_with (first | (refine wpList_load_blk rfl 27 _ rfl _ rfl K0.out Try.underlying27 rfl (by rw [size_ver, e4]) ?_))
    refine (HMT.out w1 KB.out).mono ?_
    rintro e w2 ⟨rfl, hb2⟩
    obtain ⟨N, hN⟩ : ∃ N, w2.heap.size = N := ⟨_, rfl⟩
    have K2 := Lib.hid (K0.out.below hb2 K0.out.lt)
    have HB2 := Lib.hid (KB.out.trans (hb2.mono KB.out.size))
    have HNE := Lib.hid hN
    have HBN : Hid (B < N) := Lib.hid (by rw [← hN]; exact K2.out.lt)
    have HWN : Hid (w.heap.size ≤ N) := Lib.hid (by rw [← hN]; exact HB2.out.size)
    have KX : Hid (∀ wx, Below N w2 wx → Blk wx B 27 (cellsV a.id (.slice pb a.bl.length cb) (.slice pn a.ns.length cn) (.slice pz a.zs.length cz))) := Lib.hid fun wx h => K2.out.below h HBN.out
    have GX : Hid (∀ wx, Below N w2 wx → Below w.heap.size w wx) := Lib.hid fun wx h => HB2.out.trans (h.mono HWN.out)
    have SZX : Hid (∀ wx, Below N w2 wx → N ≤ wx.heap.size) := Lib.hid fun wx h => by have := h.size; rw [HNE.out] at this; exact this
    have bl0 := Bld.new w2 N (by rw [hN]; exact Nat.le_refl _)
    have gb0 := (Below.refl N w2).alloc (show N ≤ w2.heap.size by rw [hN]; exact Nat.le_refl _) (.cells #[.pointer none, .slice none 0 0] 49)
    rw [hN] at bl0
    have BL0 := Lib.hid bl0
    have G0 := Lib.hid gb0
    have c0 := (KX.out _ gb0).cell 0
    simp only [cellsV, List.getElem?_cons_zero] at c0
    have i1 : (a.id : Int) < 4294967296 := by have := HI.out; omega
    have u1 : IntKind.u64.wrap (a.id : Int) = (a.id : Int) := wraps_u64 _ (by omega) (by omega)
    have QA := Lib.hid (fun wx => v_Big a.id 4 wx (by decide) (by decide) (by have := HI.out; omega))
    have hz1 : (tx (bigL a.id 4)).size = 4 := by rw [tx_size, big_len]
    have hs1 : sl (tx (bigL a.id 4)) = bigL a.id 4 := sl_tx (big_bys a.id 4)
    have HS1 := Lib.hid hs1
    have HZ1 := Lib.hid hz1
    clear hs1 hz1 hb2 HMT KB K2 bl0 gb0
    generalize tx (bigL a.id 4) = S1 at *
    go_wp2_with fail
    refine (QA.out _).mono ?_
    rintro e w3 ⟨rfl, hb3⟩
    have BL3 := Lib.hid (BL0.out.keep hb3)
    have G3 := Lib.hid (G0.out.trans (hb3.mono (SZX.out _ G0.out)))
    clear hb3 c0 BL0 G0
    go_wp2_with fail
    (with_reducible refine (b_WriteString w3 N N [] S1 BL3.out (by rw [HZ1.out]; decide) (SZX.out _ G3.out)).mono ?_)
    rintro e w4 ⟨rfl, bl4, hb4⟩
    have BL4 := Lib.hid (show Bld w4 N N (bigL a.id 4) by rw [← HS1.out]; exact bl4)
    have G4 := Lib.hid (G3.out.trans hb4)
    have c1 := (KX.out _ G4.out).cell 1
    simp only [cellsV, List.getElem?_cons_zero, List.getElem?_cons_succ] at c1
    clear bl4 hb4 BL3 G3 QA
    go_wp2_with fail
    (with_reducible refine (e_put a.bl.length w4 N N (bigL a.id 4) BL4.out (by have := H15.out; omega) (by rw [big_len]; decide) (SZX.out _ G4.out)).mono ?_)
    rintro e w5 ⟨rfl, bl5, hb5⟩
    have BL5 := Lib.hid (show Bld w5 N N (enB a 0) by unfold enB enA; simpa using bl5)
    have G5 := Lib.hid (G4.out.trans hb5)
    have c1' := (KX.out _ G5.out).cell 1
    simp only [cellsV, List.getElem?_cons_zero, List.getElem?_cons_succ] at c1'
    clear bl5 hb5 BL4 G4 c1
    go_wp2
    go_loopw [27] (fun i wr => ∃ k : Nat, k ≤ a.bl.length ∧ i = .int .i64 (k : Int) ∧ Bld wr N N (enB a k) ∧ Below N w2 wr) (fun i _ => a.bl.length - (intOf i).toNat)
    case atStart => exact ⟨0, by omega, rfl, BL5.out, G5.out⟩
    case round =>
      obtain ⟨k, hk, rfl, bl, gb⟩ := hrel
      have BL := Lib.hid bl
      have GB := Lib.hid gb
      clear bl gb BL5 G5 c1'
      by_cases hlt : k < a.bl.length
      · obtain ⟨ad, rfl, hc⟩ := (SB.out.below (GX.out _ GB.out)).row (rowsH_at hlt)
        have d1 : (k : Int) < (a.bl.length : Int) := by omega
        have i2 : (a.bl.length : Int) ≤ 15 := by have := H15.out; omega
        have hmem := HK.out.2.1 _ (getN_mem hlt)
        have hsn := enB_snoc a hlt
        have hz := HBL.out k
        have HSN := Lib.hid hsn
        obtain ⟨R, hRR⟩ : ∃ R, rowH (a.bl.getD k []) = R := ⟨_, rfl⟩
        rw [hRR] at hc
        have HC := Lib.hid hc
        have HX32 := Lib.hid hmem.1
        have HRL : Hid (R.length = 32) := Lib.hid (by rw [← hRR]; exact rowH_len hmem.1)
        have hro : R.toArray.all (·.oneCell') = true := by rw [← hRR]; exact rowH_one (a.bl.getD k [])
        obtain ⟨T, hT⟩ : ∃ T, wr.heap.size = T := ⟨_, rfl⟩
        obtain ⟨ZR, hZR⟩ : ∃ ZR, ints .u8 (nn (zerN 32)) = ZR := ⟨_, rfl⟩
        have hle : ZR.length = 32 := by rw [← hZR, ints_length, nn_length, zerN_len]
        have hal : (Instr.alloc 44 true (.tuple #[])).run Try.prog wr = .ok (.pointer (some ⟨wr.heap.size, 0, none⟩)) (wr.alloc (.cells ZR.toArray 44)) := by rw [← hZR]; exact alloc_h32 _
        clear hZR
        have HAL := Lib.hid hal
        have k1 := Blk.newAt wr T hT 44 (c := ZR.toArray) ZR rfl
        have k2 := k1.row R (by rw [HRL.out, hle])
        have kb := below_setRow ((Below.refl wr.heap.size wr).alloc (Nat.le_refl _) (.cells ZR.toArray 44)) (show wr.heap.size ≤ T by rw [hT]; exact Nat.le_refl _) R.toArray
        have bl6 := BL.out.keep kb
        have gb6 := GB.out.trans (kb.mono (SZX.out _ GB.out))
        have K1 := Lib.hid k1
        obtain ⟨w6, hw6⟩ : ∃ w6, (wr.alloc (.cells ZR.toArray 44)).setRow T R.toArray = w6 := ⟨_, rfl⟩
        rw [hw6] at k2 bl6 gb6
        have k3 : Blk w6 T 44 (ints .u8 (nn (a.bl.getD k []))) := by rw [show ints .u8 (nn (a.bl.getD k [])) = R from hRR]; exact k2
        have HW := Lib.hid (b_Write w6 N N (enB a k) (a.bl.getD k []) T 32 44 bl6 k3 (by decide) (by rw [hmem.1]; decide) (by rw [hmem.1]; omega) (SZX.out _ gb6))
        rw [HX32.out] at HW
        have GB6 := Lib.hid gb6
        have HZRL : Hid (ZR.length = R.length) := Lib.hid (by rw [hle, HRL.out])
        have HRO := Lib.hid hro
        have HW6 := Lib.hid hw6
        clear hro hle hw6 hRR hsn hal hmem hc k1 k2 k3 kb bl6 gb6 hz
        go_wp2_with (first | (refine wpList_load_addr rfl 44 _ rfl _ rfl R HC.out Try.underlying44 rfl (by rw [size_hashV, HRL.out]) ?_) | (refine wpList_alloc_n rfl 44 rfl T hT ZR.toArray HAL.out ?_) | (refine wpList_store_blk rfl 44 _ _ rfl T R rfl rfl K1.out (by rw [size_hashV, HRL.out]) HZRL.out HRO.out ?_; rw [HW6.out]))
        (with_reducible refine HW.out.mono ?_)
        rintro e w7 ⟨rfl, bl7, hb7⟩
        have BL7 := Lib.hid bl7
        have GB7 := Lib.hid (GB6.out.trans hb7)
        clear bl7 hb7 K1 HW GB6
        go_wp2
        go_roundw
        case rel => exact ⟨k + 1, by omega, by go_num, by rw [HSN.out]; exact BL7.out, GB7.out⟩
        case measure => simp [intOf]; omega
      · obtain rfl : k = a.bl.length := by omega
        have c2 := (KX.out _ GB.out).cell 2
        simp only [cellsV, List.getElem?_cons_zero, List.getElem?_cons_succ] at c2
        clear hlt
        go_wp2_with fail
        (with_reducible refine (e_put a.ns.length wr N N (enB a a.bl.length) BL.out (by have := H12.out; omega) (by have := HBL.out a.bl.length; omega) (SZX.out _ GB.out)).mono ?_)
        rintro e w5 ⟨rfl, bl5, hb5⟩
        have BL5 := Lib.hid (show Bld w5 N N (enD a 0) by unfold enD enC; simpa using bl5)
        have G5 := Lib.hid (GB.out.trans hb5)
        have c2' := (KX.out _ G5.out).cell 2
        simp only [cellsV, List.getElem?_cons_zero, List.getElem?_cons_succ] at c2'
        clear bl5 hb5 BL GB c2
        go_wp2
        go_loopw [42] (fun i wr => ∃ k : Nat, k ≤ a.ns.length ∧ i = .int .i64 (k : Int) ∧ Bld wr N N (enD a k) ∧ Below N w2 wr) (fun i _ => a.ns.length - (intOf i).toNat)
        case atStart => exact ⟨0, by omega, rfl, BL5.out, G5.out⟩
        case round =>
          obtain ⟨k, hk, rfl, bl, gb⟩ := hrel
          have BL := Lib.hid bl
          have GB := Lib.hid gb
          clear bl gb BL5 G5 c2'
          by_cases hlt : k < a.ns.length
          · obtain ⟨an, rfl, cn1⟩ := SlS.cell (SN.out.below (GX.out _ GB.out)) hlt
            have d1 : (k : Int) < (a.ns.length : Int) := by omega
            have i3 : (a.ns.length : Int) ≤ 12 := by have := H12.out; omega
            have hzl : k < a.zs.length := by rw [← HL.out]; exact hlt
            have dz : (k : Int) < (a.zs.length : Int) := by omega
            have q := HF.out k hlt
            unfold fineH at q
            have hnm : Bys (a.ns.getD k []) := HK.out.2.2.1 _ (getN_mem hlt)
            obtain ⟨z, hzz⟩ : ∃ z : Nat, a.zs.getD k 0 = (z : Int) := ⟨(a.zs.getD k 0).toNat, by omega⟩
            have hsn : enD a (k + 1) = (enD a k ++ (putL (a.ns.getD k []).length ++ a.ns.getD k [])) ++ putL z := by
              rw [enD_snoc a hlt hzl, hzz, Int.toNat_natCast]
            rw [hzz] at q
            have hnz : (tx (a.ns.getD k [])).size = (a.ns.getD k []).length := tx_size _
            have QT := Lib.hid (v_Text (tx (a.ns.getD k [])) wr (by omega))
            rw [sl_tx hnm, hnz] at QT
            have hz1 := HDL.out k hk
            have h12 := H12.out
            have hz2 : (putL (a.ns.getD k []).length ++ a.ns.getD k []).length ≤ 21 := by
              rw [List.length_append, put_len_small (by omega)]; omega
            have hs2 : sl (tx (putL (a.ns.getD k []).length ++ a.ns.getD k [])) = putL (a.ns.getD k []).length ++ a.ns.getD k [] := sl_tx ((put_bys (by omega)).app hnm)
            have hsz : (tx (putL (a.ns.getD k []).length ++ a.ns.getD k [])).size = (putL (a.ns.getD k []).length ++ a.ns.getD k []).length := tx_size _
            have SZC : Hid (∀ wx, Below N w2 wx → wx.cell? ⟨B, 3, none⟩ = some (.slice pz a.zs.length cz)) := Lib.hid fun wx h => by
              have := (KX.out wx h).cell 3
              simpa [cellsV] using this
            have SZD : Hid (∀ wx, Below N w2 wx → ∃ az : Addr, pz = some az ∧ wx.cell? (az.add k) = some (.int .i64 (z : Int))) := Lib.hid fun wx h => by
              have := SlZ.cell (l := a.zs) (j := k) (SZ.out.below (GX.out _ h)) hzl
              rw [hzz] at this
              exact this
            have HSN := Lib.hid hsn
            have HS2 := Lib.hid hs2
            have HD1 : Hid ((enD a k).length ≤ 1000) := Lib.hid (by omega)
            have HD2 : Hid ((tx (putL (a.ns.getD k []).length ++ a.ns.getD k [])).size ≤ 21) := Lib.hid (by omega)
            have hz300 : z ≤ 300 := by omega
            clear hsn hs2 hsz hz1 hz2 hnz hzz q hnm
            generalize hMM : putL (a.ns.getD k []).length ++ a.ns.getD k [] = M at *
            generalize tx (a.ns.getD k []) = NM at *
            generalize tx M = TM at *
            clear hMM
            go_wp2_with fail
            (with_reducible refine QT.out.mono ?_)
            rintro e w6 ⟨rfl, hb6⟩
            have BL6 := Lib.hid (BL.out.keep hb6)
            have G6 := Lib.hid (GB.out.trans (hb6.mono (SZX.out _ GB.out)))
            clear hb6 BL GB QT
            go_wp2_with fail
            (with_reducible refine (b_WriteString w6 N N (enD a k) TM BL6.out (by have := HD1.out; have := HD2.out; omega) (SZX.out _ G6.out)).mono ?_)
            rintro e w7 ⟨rfl, bl7, hb7⟩
            have BL7 := Lib.hid (show Bld w7 N N (enD a k ++ M) by rw [← HS2.out]; exact bl7)
            have HM1 : Hid ((enD a k ++ M).length ≤ 1000000) := Lib.hid (by rw [List.length_append, ← HS2.out, sl_len]; have := HD1.out; have := HD2.out; omega)
            have G7 := Lib.hid (G6.out.trans hb7)
            clear bl7 hb7 BL6 G6
            have c3 := SZC.out _ G7.out
            obtain ⟨az, rfl, c4⟩ := SZD.out _ G7.out
            go_wp2_with fail
            (with_reducible refine (e_put z w7 N N (enD a k ++ M) BL7.out (by omega) HM1.out (SZX.out _ G7.out)).mono ?_)
            rintro e w8 ⟨rfl, bl8, hb8⟩
            have BL8 := Lib.hid bl8
            have G8 := Lib.hid (G7.out.trans hb8)
            clear bl8 hb8 BL7 G7
            go_wp2
            go_roundw
            case rel => exact ⟨k + 1, by omega, by go_num, by rw [HSN.out]; exact BL8.out, G8.out⟩
            case measure => simp [intOf]; omega
          · obtain rfl : k = a.ns.length := by omega
            have HST := Lib.hid (b_String wr N N (enD a a.ns.length) BL.out HBY.out (by have := HDL.out a.ns.length (Nat.le_refl _); have := H12.out; omega))
            clear hlt
            go_wp2_with fail
            (with_reducible refine HST.out.mono ?_)
            rintro e w9 ⟨rfl, hb9⟩
            have G9 := Lib.hid (GX.out _ (GB.out.trans hb9))
            clear hb9
            go_wp2
            go_ret2
            exact ⟨rfl, G9.out⟩
  · have e0 : s = ⟨#[]⟩ ∧ er = 1 := by
      unfold encT at hE
      rw [if_neg hm] at hE
      simp only [Prod.mk.injEq] at hE
      exact ⟨hE.1.symm, hE.2.symm⟩
    obtain ⟨rfl, rfl⟩ := e0
    have HMF := Lib.hid (fun wx h => HM.out false wx (by simpa using hm) h)
    clear hE hm sb sn sz h1 h2 h3 hk HM
    generalize hW1 : (w.alloc (.cells (cellsV a.id (.slice pb a.bl.length cb) (.slice pn a.ns.length cn) (.slice pz a.zs.length cz)).toArray 27)) = w1 at *
    go_enter Try.func10, Try.ntmps10
    go_wp2_with (first | (refine wpList_load_blk rfl 27 _ rfl _ rfl K0.out Try.underlying27 rfl (by rw [size_ver, e4]) ?_))
    refine (HMF.out w1 KB.out).mono ?_
    rintro e w2 ⟨rfl, hb2⟩
    have HB2 := Lib.hid (KB.out.trans (hb2.mono KB.out.size))
    clear hb2
    go_wp2
    go_ret2
    exact ⟨rfl, HB2.out⟩
end Go.Proofs.Ytahfjfhiejhddaa
