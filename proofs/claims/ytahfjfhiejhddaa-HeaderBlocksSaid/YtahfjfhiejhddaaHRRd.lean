/- Walk of the reference's Read of versions. -/
import Derived.Test.YtahfjfhiejhddaaHRdM
import Derived.Test.YtahfjfhiejhddaaHRHs
namespace Go.Proofs.Ytahfjfhiejhddaa
open Go.RowKit
set_option linter.unusedVariables false

theorem info_hash : (Try.prog.info? 44).map (fun i => (i.zero, i.size, i.bytes)) = some (some (.agg (ints .u8 (nn (zerN 32))).toArray), 32, 32) := by kernel_rfl
set_option maxRecDepth 100000 in
set_option maxHeartbeats 4000000 in
theorem hr_Read (s : ByteArray) (T : TellV) (w : World) (hs : s.size ≤ 65536) (hT : tellA (sl s) = T) :
    Calls Try.prog 21 #[.string s] w (RdRet T w) := by
  obtain ⟨i0, hi0, hz0, hz1, hz2⟩ := info_parts2 info_hash
  obtain ⟨i1, hi1, hy0, hy1, hy2⟩ := info_parts2 info_str
  obtain ⟨i2, hi2, hx0, hx1, hx2⟩ := info_parts2 info_intK
  obtain ⟨B, hB⟩ : ∃ B, w.heap.size = B := ⟨_, rfl⟩
  have HBE := Lib.hid hB
  have m0 := RdM.start w
  have k1 := Blk.newAt (w.alloc (.cells zV.toArray 27)) (w.heap.size + 1) (by simp) 27 (c := zV.toArray) _ rfl
  rw [hB] at m0 k1
  have M0 := Lib.hid m0
  have K1 := Lib.hid k1
  clear m0 k1
  by_cases h0 : s.size < 4
  · have HT : Hid (errV 40 = T) := Lib.hid (by rw [← hT]; unfold tellA; rw [if_pos (by rw [sl_len]; exact h0)])
    have QF := Lib.hid (fun wx => r_Fixed s 4 wx (by decide) (by decide) hs 0 40 ⟨#[]⟩ (.inr ⟨h0, rfl, rfl, rfl⟩))
    clear hT hs
    go_enter Try.func21, Try.ntmps21
    go_wp2_with (first | (refine wpList_alloc_n rfl 27 rfl B hB _ (alloc_ver _) ?_) | (refine wpList_alloc_n rfl 27 rfl (B + 1) (by simp [hB]) _ (alloc_ver _) ?_) | (refine wpList_build_at rfl 27 _ rfl (.agg zV.toArray) (by simp only [List.map_toArray, List.map_nil]; exact build_ver _) ?_) | (refine wpList_store_blk rfl 27 _ _ rfl (B + 1) zV rfl rfl K1.out (by rw [size_ver]; rfl) rfl zV_one ?_))
    generalize ((w.alloc (.cells zV.toArray 27)).alloc (.cells zV.toArray 27)).setRow (B + 1) zV.toArray = w1 at *
    refine (QF.out w1).mono ?_
    rintro e w2 ⟨rfl, hb2⟩
    have M2 := Lib.hid (M0.out.keep hb2)
    clear hb2
    have RS := Lib.hid M2.out.res
    have RB := Lib.hid (below_setRow M2.out.bel M2.out.low.1 zV.toArray)
    have RR := Lib.hid (M2.out.res.row zV rfl)
    go_wp2_with (first | (refine wpList_build_at rfl 27 _ rfl (.agg zV.toArray) (by simp only [List.map_toArray, List.map_nil]; exact build_ver _) ?_) | (refine wpList_store_blk rfl 27 _ _ rfl B zV rfl rfl RS.out (by rw [size_ver]; rfl) rfl zV_one ?_))
    refine bodyPost_ret (v := .tuple #[.agg zV.toArray, .string ⟨#[]⟩, .int .i64 40]) (results_cell_tmp2 rfl _ _ B rfl (.string ⟨#[]⟩) (.int .i64 40) rfl rfl RR.out Try.underlying27 rfl (by rw [size_ver]; rfl)) rfl ?_
    rw [← HT.out]
    exact rd_err w _ _ RB.out
  · have hs4 : 4 ≤ s.size := by omega
    have hl4 : ¬ (sl s).length < 4 := by rw [sl_len]; omega
    obtain ⟨n, k, e2, hg⟩ : ∃ n k e2, getL ((sl s).drop 4) = (n, k, e2) := ⟨_, _, _, rfl⟩
    unfold tellA at hT
    rw [if_neg hl4, hg] at hT
    dsimp only at hT
    have hbys : Bys ((sl s).drop 4) := (sl_bys s).drop 4
    have hlen : ((sl s).drop 4).length ≤ 65536 := by rw [List.length_drop, sl_len]; omega
    have hI := fix_lt (sl_bys s) 4
    have QF := Lib.hid (fun wx => r_Fixed s 4 wx (by decide) (by decide) hs (fixN (sl s) 4) 0 (tx ((sl s).drop 4)) (.inl ⟨hs4, rfl, tail_tx s 4, rfl⟩))
    generalize fixN (sl s) 4 = I at *
    generalize (sl s).drop 4 = L4 at *
    have QG := Lib.hid (fun wx => r_VGet (tx L4) wx (by rw [tx_size]; exact hlen) n k e2 (tx (L4.drop k)) (by rw [sl_tx hbys]; exact hg) (by rw [sl_tx hbys]))
    have hbys2 : Bys (L4.drop k) := hbys.drop k
    have hlen2 : (L4.drop k).length ≤ 65536 := by rw [List.length_drop]; omega
    have hn := get_lt L4
    rw [hg] at hn
    dsimp only at hn
    generalize L4.drop k = R0 at *
    generalize tx L4 = S4 at *
    clear hbys hlen hg hl4 hs hs4 h0
    have HI := Lib.hid (show I < 4294967296 by simpa using hI)
    have HBY := Lib.hid hbys2
    have HLE := Lib.hid hlen2
    have HTT := Lib.hid hT
    have iI : (I : Int) < 4294967296 := by have := HI.out; omega
    have uI : IntKind.u32.wrap (I : Int) = (I : Int) := by rw [IntKind.wrap_u32]; omega
    clear hI hT hbys2 hlen2
    go_enter Try.func21, Try.ntmps21
    go_wp2_with (first | (refine wpList_alloc_n rfl 27 rfl B hB _ (alloc_ver _) ?_) | (refine wpList_alloc_n rfl 27 rfl (B + 1) (by simp [hB]) _ (alloc_ver _) ?_) | (refine wpList_build_at rfl 27 _ rfl (.agg zV.toArray) (by simp only [List.map_toArray, List.map_nil]; exact build_ver _) ?_) | (refine wpList_store_blk rfl 27 _ _ rfl (B + 1) zV rfl rfl K1.out (by rw [size_ver]; rfl) rfl zV_one ?_))
    generalize ((w.alloc (.cells zV.toArray 27)).alloc (.cells zV.toArray 27)).setRow (B + 1) zV.toArray = w1 at *
    refine (QF.out w1).mono ?_
    rintro e w2 ⟨rfl, hb2⟩
    have M2 := Lib.hid (M0.out.keep hb2)
    have f2 := M2.out.free 0
    have c2 : w2.cell? ⟨B + 1, 0, none⟩ = some (.int .u32 0) := by rw [M2.out.ver.cell]; rfl
    clear hb2 M0 K1
    go_wp2_with fail
    have M3 := Lib.hid (M2.out.setI I)
    clear f2 c2 M2
    generalize w2.setCell ⟨B + 1, 0, none⟩ (.int .u32 (I : Int)) = w3 at *
    refine (QG.out w3).mono ?_
    rintro e w4 ⟨rfl, hb4⟩
    have M4 := Lib.hid (M3.out.keep hb4)
    clear hb4 M3 QG QF
    by_cases he : e2 = 0
    · subst he
      have hT2 := HTT.out
      rw [if_neg (by decide)] at hT2
      by_cases h16 : 16 < n
      · rw [if_pos h16] at hT2
        have HT := Lib.hid hT2
        have d1 : (16 : Int) < (n : Int) := by omega
        clear hT2 HTT hn
        have RS := Lib.hid M4.out.res
        have RB := Lib.hid (below_setRow M4.out.bel M4.out.low.1 zV.toArray)
        have RR := Lib.hid (M4.out.res.row zV rfl)
        go_wp2_with (first | (refine wpList_build_at rfl 27 _ rfl (.agg zV.toArray) (by simp only [List.map_toArray, List.map_nil]; exact build_ver _) ?_) | (refine wpList_store_blk rfl 27 _ _ rfl B zV rfl rfl RS.out (by rw [size_ver]; rfl) rfl zV_one ?_))
        refine bodyPost_ret (v := .tuple #[.agg zV.toArray, .string ⟨#[]⟩, .int .i64 111]) (results_cell_tmp2 rfl _ _ B rfl (.string ⟨#[]⟩) (.int .i64 111) rfl rfl RR.out Try.underlying27 rfl (by rw [size_ver]; rfl)) rfl ?_
        rw [← HT.out]
        exact rd_err w _ _ RB.out
      · rw [if_neg h16] at hT2
        have HT := Lib.hid hT2
        have d1 : ¬ (16 : Int) < (n : Int) := by omega
        clear hT2 HTT hn
        have n16 : n ≤ 16 := by omega
        have HIB := Lib.hid HI.out
        clear uI iI h16
        go_wp2
        go_loopw [10, 12] (fun u i wr => ∃ (j : Nat) (rs : List Nat) (bl : List (List Nat)) (vb : Value), j ≤ n ∧ i = .int .u64 (j : Int) ∧ u = .string (tx rs) ∧ Bys rs ∧ rs.length ≤ 65536 ∧ bl.length = j ∧ HashL bl ∧ tellB I bl (n - j) rs = T ∧ RdM w B (B + 1) wr I vb (.slice none 0 0) (.slice none 0 0) bl [] []) (fun _ i _ => n - (intOf i).toNat)
        case atStart => exact ⟨0, R0, [], _, by omega, rfl, rfl, HBY.out, HLE.out, rfl, (fun x h => by cases h), HT.out, M4.out⟩
        case round =>
          obtain ⟨j, rs, bl, vb, hj, rfl, rfl, hby, hle, hbl, hhl, hT, hM⟩ := hrel
          clear M4 HBY HLE HT
          by_cases hlt : j < n
          · obtain ⟨m, hm⟩ : ∃ m, n - j = m + 1 := ⟨n - j - 1, by omega⟩
            have hm2 : n - (j + 1) = m := by omega
            rw [hm] at hT
            unfold tellB at hT
            have dj : (j : Int) < (n : Int) := by omega
            have MW := Lib.hid hM
            by_cases h32 : rs.length < 32
            · rw [if_pos h32] at hT
              have HT := Lib.hid hT
              have QH := Lib.hid (fun wx => hr_hash_no (tx rs) wx (by rw [tx_size]; exact h32))
              have hHl : (ints .u8 (nn (zerN 32))).length = 32 := by rw [ints_length, nn_length, zerN_len]
              have hHo := ints_one .u8 (nn (zerN 32))
              clear hT hM hby hle hbl hhl hm hm2 h32
              go_wp2_with fail
              refine (QH.out wr).mono ?_
              rintro e w5 ⟨rfl, hb5⟩
              have M5 := Lib.hid (MW.out.keep hb5)
              have KH := Lib.hid (Blk.new' w5 44 (c := (ints .u8 (nn (zerN 32))).toArray) _ rfl)
              have M6 := Lib.hid (M5.out.fresh (c := (ints .u8 (nn (zerN 32))).toArray) (t := 44) (ints .u8 (nn (zerN 32))).toArray)
              clear hb5 M5 MW QH
              have RS := Lib.hid M6.out.res
              have RB := Lib.hid (below_setRow M6.out.bel M6.out.low.1 zV.toArray)
              have RR := Lib.hid (M6.out.res.row zV rfl)
              go_wp2_with (first | (refine wpList_alloc_n rfl 44 rfl w5.heap.size rfl _ (alloc_h32 _) ?_) | (refine wpList_store_blk rfl 44 _ _ rfl w5.heap.size (ints .u8 (nn (zerN 32))) rfl rfl KH.out (by rw [size_hashV, hHl]) rfl hHo ?_) | (refine wpList_build_at rfl 27 _ rfl (.agg zV.toArray) (by simp only [List.map_toArray, List.map_nil]; exact build_ver _) ?_) | (refine wpList_store_blk rfl 27 _ _ rfl B zV rfl rfl RS.out (by rw [size_ver]; rfl) rfl zV_one ?_))
              refine bodyPost_ret (v := .tuple #[.agg zV.toArray, .string ⟨#[]⟩, .int .i64 40]) (results_cell_tmp2 rfl _ _ B rfl (.string ⟨#[]⟩) (.int .i64 40) rfl rfl RR.out Try.underlying27 rfl (by rw [size_ver]; rfl)) rfl ?_
              rw [← HT.out]
              exact rd_err w _ _ RB.out
            · rw [if_neg h32] at hT
              have HT := Lib.hid hT
              have QH := Lib.hid (fun wx => hr_hash_yes (tx rs) wx (by rw [tx_size]; omega))
              rw [sl_tx hby] at QH
              have hxl : (rs.take 32).length = 32 := by rw [List.length_take]; omega
              have hxb : Bys (rs.take 32) := hby.take 32
              have hHl : (ints .u8 (nn (rs.take 32))).length = 32 := by rw [ints_length, nn_length, hxl]
              have hHo := ints_one .u8 (nn (rs.take 32))
              have HSN := Lib.hid (rowsH_snoc bl (rs.take 32))
              have HHL : Hid (HashL (bl ++ [rs.take 32])) := Lib.hid (fun x hx => by
                rcases List.mem_append.1 hx with hx | hx
                · exact hhl x hx
                · rw [List.mem_singleton.1 hx]
                  exact ⟨hxl, hxb⟩)
              have HLE2 : Hid (Bys (rs.drop 32) ∧ (rs.drop 32).length ≤ 65536) := Lib.hid ⟨hby.drop 32, by rw [List.length_drop]; omega⟩
              have HBL := Lib.hid hbl
              have HM2 := Lib.hid hm2
              have HBLS : Hid ((bl ++ [rs.take 32]).length = j + 1) := Lib.hid (by rw [List.length_append, hbl]; rfl)
              have HRE : Hid (rowH (rs.take 32) = ints .u8 (nn (rs.take 32))) := Lib.hid rfl
              generalize ints .u8 (nn (rs.take 32)) = HV at *
              generalize bl ++ [rs.take 32] = bl2 at *
              generalize rs.drop 32 = rs2 at *
              generalize rs.take 32 = hx at *
              generalize tx rs = RS at *
              clear hT hM hby hle hbl hhl hm hm2 h32 hxl hxb
              obtain ⟨pb, cb, rfl⟩ := MW.out.shapes.1
              go_wp2_with fail
              refine (QH.out wr).mono ?_
              rintro e w5 ⟨rfl, hb5⟩
              have M5 := Lib.hid (MW.out.keep hb5)
              have kh := Blk.new' w5 44 (c := (ints .u8 (nn (zerN 32))).toArray) _ rfl
              have KH := Lib.hid kh
              have KR := Lib.hid (kh.row HV (by rw [hHl, ints_length, nn_length, zerN_len]))
              have M6 := Lib.hid (M5.out.fresh (c := (ints .u8 (nn (zerN 32))).toArray) (t := 44) HV.toArray)
              clear hb5 M5 MW QH kh
              have c6 := M6.out.cellB
              have kn := sl_one (Blk.newAt ((w5.alloc (.cells (ints .u8 (nn (zerN 32))).toArray 44)).setRow w5.heap.size HV.toArray) (w5.heap.size + 1) (by simp) 44 (c := HV.toArray) HV rfl)
              rw [hHl] at kn
              have HNW := Lib.hid kn
              have M7 := Lib.hid (M6.out.alloc (.cells HV.toArray 44))
              have HBA := Lib.hid M7.out.bel.size
              have HONE : Hid (∀ r ∈ [HV], ∀ u ∈ r, u.oneCell' = true) := Lib.hid (fun r hr u hu => by
                rw [List.mem_singleton.1 hr] at hu
                exact Array.all_eq_true_iff_forall_mem.1 hHo u (by simpa using hu))
              have HLEN : Hid ((rowsH bl).length + [HV].length ≤ maxLen) := Lib.hid (by rw [rowsH_len, HBL.out, List.length_singleton]; unfold maxLen; omega)
              have HBY2 : Hid (((rowsH bl).length + [HV].length) * 32 ≤ 140737488355328) := Lib.hid (by rw [rowsH_len, HBL.out, List.length_singleton]; omega)
              have HRW : Hid (rowsH bl ++ [HV] = rowsH bl2) := Lib.hid (by rw [HSN.out, HRE.out])
              have HSZ : Hid (i0.size = HV.length) := Lib.hid (by rw [hz1, hHl])
              have HOW := Lib.hid M7.out.ob
              clear kn
              go_wp2_with (first | (refine wpList_alloc_n rfl 44 rfl w5.heap.size rfl _ (alloc_h32 _) ?_) | (refine wpList_store_blk rfl 44 _ _ rfl w5.heap.size HV rfl rfl KH.out (by rw [size_hashV, hHl]) (by rw [hHl, ints_length, nn_length, zerN_len]) hHo ?_) | (refine wpList_load_blk rfl 44 _ rfl w5.heap.size rfl KR.out Try.underlying44 rfl (by rw [size_hashV, hHl]) ?_) | (refine wpList_buildRow rfl 23 44 _ rfl HV i0 (.agg (ints .u8 (nn (zerN 32))).toArray) (w5.heap.size + 1) (by simp) Try.underlying23 hi0 hz0 HSZ.out (by rw [hHl]; decide) (by rw [hHl]; decide) (by simp only [List.map_toArray, List.map_cons, List.map_nil]; rfl) ?_) | (refine wpList_append_rows rfl _ _ 23 rfl w.heap.size 44 i0 (.agg (ints .u8 (nn (zerN 32))).toArray) 32 32 Try.underlying23 hi0 hz0 hz1 hz2 rfl (by decide) _ (rowsH bl) rfl HOW.out (.slice (some ⟨w5.heap.size + 1, 0, none⟩) 1 1) [HV] rfl HNW.out HONE.out HLEN.out HBY2.out HBA.out (.inr ⟨_, _, _, rfl⟩) ?_; intro v7 w7 ho7 hg7 hv7; rw [HRW.out] at ho7; obtain ⟨p7, q7, rfl⟩ := ho7.isSlice; have k7 := M7.out.grownVB hg7; have f7 := k7.free 1; have c7 := k7.cell 1; simp only [cellsV, List.getElem?_cons_zero, List.getElem?_cons_succ] at c7; have M8 := Lib.hid (M7.out.addB ho7 hg7); clear ho7 hg7 k7))
              go_roundw
              case rel => exact ⟨j + 1, rs2, bl2, _, by omega, by go_num, rfl, HLE2.out.1, HLE2.out.2, HBLS.out, HHL.out, by rw [HM2.out]; exact HT.out, M8.out⟩
              case measure => simp [intOf]; omega
          · obtain rfl : j = n := by omega
            rw [Nat.sub_self] at hT
            unfold tellB tellC at hT
            obtain ⟨pb, cb, rfl⟩ := hM.shapes.1
            obtain ⟨k2, kk, e3, hg3⟩ : ∃ n k e, getL rs = (n, k, e) := ⟨_, _, _, rfl⟩
            rw [hg3] at hT
            dsimp only at hT
            have QG := Lib.hid (fun wx => r_VGet (tx rs) wx (by rw [tx_size]; exact hle) k2 kk e3 (tx (rs.drop kk)) (by rw [sl_tx hby]; exact hg3) (by rw [sl_tx hby]))
            have hbys2 : Bys (rs.drop kk) := hby.drop kk
            have hlen2 : (rs.drop kk).length ≤ 65536 := by rw [List.length_drop]; omega
            have HBY := Lib.hid hbys2
            have HLE := Lib.hid hlen2
            have HBL := Lib.hid hbl
            have HTT := Lib.hid hT
            have MW := Lib.hid hM
            generalize rs.drop kk = R1 at *
            generalize tx rs = RS at *
            clear hT hM hby hle hbl hhl hg3 hbys2 hlen2 hlt
            go_wp2_with fail
            refine (QG.out wr).mono ?_
            rintro e w5 ⟨rfl, hb5⟩
            have M5 := Lib.hid (MW.out.keep hb5)
            clear hb5 MW QG
            by_cases he3 : e3 = 0
            · subst he3
              have hT2 := HTT.out
              rw [if_neg (by decide)] at hT2
              by_cases h12 : 12 < k2
              · rw [if_pos h12] at hT2
                have HT := Lib.hid hT2
                have d2 : (12 : Int) < (k2 : Int) := by omega
                clear hT2 HTT
                have RS := Lib.hid M5.out.res
                have RB := Lib.hid (below_setRow M5.out.bel M5.out.low.1 zV.toArray)
                have RR := Lib.hid (M5.out.res.row zV rfl)
                go_wp2_with (first | (refine wpList_build_at rfl 27 _ rfl (.agg zV.toArray) (by simp only [List.map_toArray, List.map_nil]; exact build_ver _) ?_) | (refine wpList_store_blk rfl 27 _ _ rfl B zV rfl rfl RS.out (by rw [size_ver]; rfl) rfl zV_one ?_))
                refine bodyPost_ret (v := .tuple #[.agg zV.toArray, .string ⟨#[]⟩, .int .i64 111]) (results_cell_tmp2 rfl _ _ B rfl (.string ⟨#[]⟩) (.int .i64 111) rfl rfl RR.out Try.underlying27 rfl (by rw [size_ver]; rfl)) rfl ?_
                rw [← HT.out]
                exact rd_err w _ _ RB.out
              · rw [if_neg h12] at hT2
                have HT := Lib.hid hT2
                have d2 : ¬ (12 : Int) < (k2 : Int) := by omega
                have n12 : k2 ≤ 12 := by omega
                clear hT2 HTT h12
                go_wp2
                go_loopw [17, 19] (fun u i wr => ∃ (j : Nat) (rs : List Nat) (ns : List (List Nat)) (zs : List Int) (vn vz : Value), j ≤ k2 ∧ i = .int .u64 (j : Int) ∧ u = .string (tx rs) ∧ Bys rs ∧ rs.length ≤ 65536 ∧ ns.length = j ∧ zs.length = j ∧ (∀ x ∈ ns, Bys x) ∧ tellD I bl ns zs (k2 - j) rs = T ∧ RdM w B (B + 1) wr I (.slice pb bl.length cb) vn vz bl ns zs) (fun _ i _ => k2 - (intOf i).toNat)
                case atStart => exact ⟨0, R1, [], [], _, _, by omega, rfl, rfl, HBY.out, HLE.out, rfl, rfl, (fun x h => by cases h), HT.out, M5.out⟩
                case round =>
                  obtain ⟨q, rs, ns, zs, vn, vz, hq, rfl, rfl, hby, hle, hnl, hzl, hnb, hT, hM⟩ := hrel
                  clear M5 HBY HLE HT
                  obtain ⟨pn, cn, rfl⟩ := hM.shapes.2.1
                  obtain ⟨pz, cz, rfl⟩ := hM.shapes.2.2
                  by_cases hlt2 : q < k2
                  · obtain ⟨m, hm⟩ : ∃ m, k2 - q = m + 1 := ⟨k2 - q - 1, by omega⟩
                    have hm2 : k2 - (q + 1) = m := by omega
                    rw [hm] at hT
                    unfold tellD at hT
                    have dj2 : (q : Int) < (k2 : Int) := by omega
                    have MW := Lib.hid hM
                    have hrf := read_facts hby hle
                    obtain ⟨x, y, e4, hr4⟩ : ∃ x y e, readL rs = (x, y, e) := ⟨_, _, _, rfl⟩
                    rw [hr4] at hT hrf
                    dsimp only at hT hrf
                    obtain ⟨hxb, hyb, hyl, hxl⟩ := hrf
                    have QR := Lib.hid (fun wx => rv_Read (tx rs) wx (by rw [tx_size]; exact hle) x y e4 (tx x) (tx y) (by rw [sl_tx hby]; exact hr4) rfl rfl)
                    obtain ⟨mm, k5, f5, hg5⟩ : ∃ n k e, getL y = (n, k, e) := ⟨_, _, _, rfl⟩
                    rw [hg5] at hT
                    dsimp only at hT
                    have QG := Lib.hid (fun wx => r_VGet (tx y) wx (by rw [tx_size]; exact hyl) mm k5 f5 (tx (y.drop k5)) (by rw [sl_tx hyb]; exact hg5) (by rw [sl_tx hyb]))
                    have HR2 : Hid (Bys (y.drop k5) ∧ (y.drop k5).length ≤ 65536) := Lib.hid ⟨hyb.drop k5, by rw [List.length_drop]; omega⟩
                    have HSN := Lib.hid (rowsS_snoc ns x)
                    have HZN := Lib.hid (rowsZ_snoc zs (mm : Int))
                    have HNB : Hid (∀ z ∈ ns ++ [x], Bys z) := Lib.hid (fun z hz => by
                      rcases List.mem_append.1 hz with hz | hz
                      · exact hnb z hz
                      · rw [List.mem_singleton.1 hz]; exact hxb)
                    have HNL := Lib.hid hnl
                    have HZL := Lib.hid hzl
                    have HNL2 : Hid ((ns ++ [x]).length = q + 1) := Lib.hid (by rw [List.length_append, hnl]; rfl)
                    have HZL2 : Hid ((zs ++ [(mm : Int)]).length = q + 1) := Lib.hid (by rw [List.length_append, hzl]; rfl)
                    have HM2 := Lib.hid hm2
                    have HTT := Lib.hid hT
                    generalize ns ++ [x] = ns2 at *
                    generalize zs ++ [(mm : Int)] = zs2 at *
                    generalize y.drop k5 = rs2 at *
                    generalize tx rs = RS2 at *
                    generalize tx y = Y at *
                    generalize tx x = X at *
                    clear hT hM hby hle hnl hzl hnb hr4 hg5 hxb hyb hyl hxl hm hm2 hq
                    go_wp2_with fail
                    refine (QR.out wr).mono ?_
                    rintro e w6 ⟨rfl, hb6⟩
                    have M6 := Lib.hid (MW.out.keep hb6)
                    clear hb6 MW QR
                    by_cases he4 : e4 = 0
                    · subst he4
                      have hT2 := HTT.out
                      rw [if_neg (by decide)] at hT2
                      have HTT2 := Lib.hid hT2
                      clear hT2 HTT
                      go_wp2_with fail
                      refine (QG.out w6).mono ?_
                      rintro e w7 ⟨rfl, hb7⟩
                      have M7 := Lib.hid (M6.out.keep hb7)
                      clear hb7 M6 QG
                      by_cases hf5 : f5 = 0
                      · subst hf5
                        have hT3 := HTT2.out
                        rw [if_neg (by decide)] at hT3
                        by_cases h300 : 300 < mm
                        · rw [if_pos h300] at hT3
                          have HT := Lib.hid hT3
                          have d3 : (300 : Int) < (mm : Int) := by omega
                          clear hT3 HTT2
                          have RS := Lib.hid M7.out.res
                          have RB := Lib.hid (below_setRow M7.out.bel M7.out.low.1 zV.toArray)
                          have RR := Lib.hid (M7.out.res.row zV rfl)
                          go_wp2_with (first | (refine wpList_build_at rfl 27 _ rfl (.agg zV.toArray) (by simp only [List.map_toArray, List.map_nil]; exact build_ver _) ?_) | (refine wpList_store_blk rfl 27 _ _ rfl B zV rfl rfl RS.out (by rw [size_ver]; rfl) rfl zV_one ?_))
                          refine bodyPost_ret (v := .tuple #[.agg zV.toArray, .string ⟨#[]⟩, .int .i64 111]) (results_cell_tmp2 rfl _ _ B rfl (.string ⟨#[]⟩) (.int .i64 111) rfl rfl RR.out Try.underlying27 rfl (by rw [size_ver]; rfl)) rfl ?_
                          rw [← HT.out]
                          exact rd_err w _ _ RB.out
                        · rw [if_neg h300] at hT3
                          have HT := Lib.hid hT3
                          have d3 : ¬ (300 : Int) < (mm : Int) := by omega
                          have uz : IntKind.i64.wrap (mm : Int) = (mm : Int) := by rw [IntKind.wrap_i64]; omega
                          clear hT3 HTT2 h300
                          have c7 := M7.out.cellN
                          have nb := Lib.hid (sl_one (Blk.new' w7 9 (c := #[.string X]) [.string X] rfl))
                          have N7 := Lib.hid (M7.out.alloc (.cells #[.string X] 9))
                          have HOW := Lib.hid N7.out.on
                          have HBA := Lib.hid N7.out.bel.size
                          have HONE : Hid (∀ r ∈ [[Value.string X]], ∀ u ∈ r, u.oneCell' = true) := Lib.hid (by simp [Value.oneCell'])
                          have HLEN : Hid ((rowsS ns).length + [[Value.string X]].length ≤ maxLen) := Lib.hid (by rw [rowsS_len, HNL.out, List.length_singleton]; unfold maxLen; omega)
                          have HBY : Hid (((rowsS ns).length + [[Value.string X]].length) * 16 ≤ 140737488355328) := Lib.hid (by rw [rowsS_len, HNL.out, List.length_singleton]; omega)
                          have HONE2 : Hid (∀ r ∈ [[Value.int .i64 (mm : Int)]], ∀ u ∈ r, u.oneCell' = true) := Lib.hid (by simp [Value.oneCell'])
                          have HLEN2 : Hid ((rowsZ zs).length + [[Value.int .i64 (mm : Int)]].length ≤ maxLen) := Lib.hid (by rw [rowsZ_len, HZL.out, List.length_singleton]; unfold maxLen; omega)
                          have HBY2 : Hid (((rowsZ zs).length + [[Value.int .i64 (mm : Int)]].length) * 8 ≤ 140737488355328) := Lib.hid (by rw [rowsZ_len, HZL.out, List.length_singleton]; omega)
                          go_wp2_with (first | (refine wpList_append_rows rfl _ _ 24 rfl w.heap.size 9 i1 (.string ⟨#[]⟩) 1 16 Try.underlying24 hi1 hy0 hy1 hy2 rfl (by decide) _ (rowsS ns) rfl HOW.out (.slice (some ⟨w7.heap.size, 0, none⟩) 1 1) [[.string X]] rfl nb.out HONE.out HLEN.out HBY.out HBA.out (.inr ⟨_, _, _, rfl⟩) ?_; intro v8 w8 ho8 hg8 hv8; rw [← HSN.out] at ho8; obtain ⟨p8, q8, rfl⟩ := ho8.isSlice; have k8 := N7.out.grownVN hg8; have f8 := k8.free 2; have c8 := k8.cell 2; simp only [cellsV, List.getElem?_cons_zero, List.getElem?_cons_succ] at c8; have M8 := Lib.hid (N7.out.addN ho8 hg8); have c9 := M8.out.cellZ; have nb2 := Lib.hid (sl_one (Blk.newAt (w8.setCell ⟨B + 1, 2, none⟩ (.slice p8 (rowsS ns2).length q8)) w8.heap.size (by simp) 3 (c := #[.int .i64 (mm : Int)]) [.int .i64 (mm : Int)] rfl)); have N8 := Lib.hid (M8.out.alloc (.cells #[.int .i64 (mm : Int)] 3)); have HOZ := Lib.hid N8.out.oz; have HBZ := Lib.hid N8.out.bel.size; clear ho8 hg8 k8) | (refine wpList_append_rows rfl _ _ 25 rfl w.heap.size 3 i2 (.int .i64 0) 1 8 Try.underlying25 hi2 hx0 hx1 hx2 rfl (by decide) _ (rowsZ zs) rfl HOZ.out (.slice (some ⟨w8.heap.size, 0, none⟩) 1 1) [[.int .i64 (mm : Int)]] rfl nb2.out HONE2.out HLEN2.out HBY2.out HBZ.out (.inr ⟨_, _, _, rfl⟩) ?_; intro v9 w9 ho9 hg9 hv9; rw [← HZN.out] at ho9; obtain ⟨p9, q9, rfl⟩ := ho9.isSlice; have k9 := N8.out.grownVZ hg9; have f9 := k9.free 3; have c10 := k9.cell 3; simp only [cellsV, List.getElem?_cons_zero, List.getElem?_cons_succ] at c10; have M9 := Lib.hid (N8.out.addZ ho9 hg9); clear ho9 hg9 k9))
                          go_roundw
                          case rel => exact ⟨q + 1, rs2, ns2, zs2, _, _, by omega, by go_num, rfl, HR2.out.1, HR2.out.2, HNL2.out, HZL2.out, HNB.out, by rw [HM2.out]; exact HT.out, M9.out⟩
                          case measure => simp [intOf]; omega
                      · have HT : Hid (errV f5 = T) := Lib.hid (by rw [← HTT2.out, if_pos hf5])
                        have d2 : ((f5 : Int) != 0) = true := by simp; omega
                        clear HTT2
                        have RS := Lib.hid M7.out.res
                        have RB := Lib.hid (below_setRow M7.out.bel M7.out.low.1 zV.toArray)
                        have RR := Lib.hid (M7.out.res.row zV rfl)
                        go_wp2_with (first | (refine wpList_build_at rfl 27 _ rfl (.agg zV.toArray) (by simp only [List.map_toArray, List.map_nil]; exact build_ver _) ?_) | (refine wpList_store_blk rfl 27 _ _ rfl B zV rfl rfl RS.out (by rw [size_ver]; rfl) rfl zV_one ?_))
                        refine bodyPost_ret (v := .tuple #[.agg zV.toArray, .string ⟨#[]⟩, .int .i64 (f5 : Int)]) (results_cell_tmp2 rfl _ _ B rfl (.string ⟨#[]⟩) (.int .i64 (f5 : Int)) rfl rfl RR.out Try.underlying27 rfl (by rw [size_ver]; rfl)) rfl ?_
                        rw [← HT.out]
                        exact rd_err w _ _ RB.out
                    · have HT : Hid (errV e4 = T) := Lib.hid (by rw [← HTT.out, if_pos he4])
                      have d2 : ((e4 : Int) != 0) = true := by simp; omega
                      clear HTT
                      have RS := Lib.hid M6.out.res
                      have RB := Lib.hid (below_setRow M6.out.bel M6.out.low.1 zV.toArray)
                      have RR := Lib.hid (M6.out.res.row zV rfl)
                      go_wp2_with (first | (refine wpList_build_at rfl 27 _ rfl (.agg zV.toArray) (by simp only [List.map_toArray, List.map_nil]; exact build_ver _) ?_) | (refine wpList_store_blk rfl 27 _ _ rfl B zV rfl rfl RS.out (by rw [size_ver]; rfl) rfl zV_one ?_))
                      refine bodyPost_ret (v := .tuple #[.agg zV.toArray, .string ⟨#[]⟩, .int .i64 (e4 : Int)]) (results_cell_tmp2 rfl _ _ B rfl (.string ⟨#[]⟩) (.int .i64 (e4 : Int)) rfl rfl RR.out Try.underlying27 rfl (by rw [size_ver]; rfl)) rfl ?_
                      rw [← HT.out]
                      exact rd_err w _ _ RB.out
                  · obtain rfl : q = k2 := by omega
                    rw [Nat.sub_self] at hT
                    unfold tellD at hT
                    have MW := Lib.hid hM
                    have KV := Lib.hid hM.ver
                    have lb : bl.length ≤ 1000 := by rw [HBL.out]; omega
                    have QM := Lib.hid (fun (b : Bool) (hb : mayH bl.length ns zs = b) => hr_May ⟨I, bl, ns, zs⟩ _ b wr hb hM.vv hnb lb (show ns.length ≤ 1000 by omega) (show zs.length ≤ 1000 by omega))
                    have HTT := Lib.hid hT
                    have HRS := Lib.hid hle
                    clear hT hM hby hle hnl hzl hnb hlt2 hq lb HBL
                    go_wp2_with (refine wpList_load_blk rfl 27 _ rfl (B + 1) rfl KV.out Try.underlying27 rfl (by rw [size_ver]; rfl) ?_)
                    cases hmay : mayH bl.length ns zs with
                    | true =>
                      have hT2 := HTT.out
                      rw [if_pos hmay] at hT2
                      have HT := Lib.hid hT2
                      clear hT2 HTT
                      refine (QM.out true hmay).mono ?_
                      rintro e w6 ⟨rfl, hb6⟩
                      have M6 := Lib.hid (MW.out.keep hb6)
                      clear hb6 MW QM KV hmay
                      have KV := Lib.hid M6.out.ver
                      have KRS := Lib.hid M6.out.res
                      have RR := Lib.hid (M6.out.res.row (cellsV I (.slice pb bl.length cb) (.slice pn ns.length cn) (.slice pz zs.length cz)) rfl)
                      have hone := cellsV_one I pb pn pz bl.length ns.length zs.length cb cn cz
                      go_wp2_with (first | (refine wpList_load_blk rfl 27 _ rfl (B + 1) rfl KV.out Try.underlying27 rfl (by rw [size_ver]; rfl) ?_) | (refine wpList_store_blk rfl 27 _ _ rfl B (cellsV I (.slice pb bl.length cb) (.slice pn ns.length cn) (.slice pz zs.length cz)) rfl rfl KRS.out (by rw [size_ver]; rfl) rfl hone ?_))
                      refine bodyPost_ret (v := .tuple #[.agg (cellsV I (.slice pb bl.length cb) (.slice pn ns.length cn) (.slice pz zs.length cz)).toArray, .string (tx rs), .int .i64 0]) (results_cell_tmp2 rfl _ _ B rfl (.string (tx rs)) (.int .i64 0) rfl rfl RR.out Try.underlying27 rfl (by rw [size_ver]; rfl)) rfl ?_
                      rw [← HT.out]
                      exact rd_ok M6.out rs
                    | false =>
                      have hT2 := HTT.out
                      rw [if_neg (by rw [hmay]; decide)] at hT2
                      have HT := Lib.hid hT2
                      clear hT2 HTT
                      refine (QM.out false hmay).mono ?_
                      rintro e w6 ⟨rfl, hb6⟩
                      have M6 := Lib.hid (MW.out.keep hb6)
                      clear hb6 MW QM KV hmay
                      have RS := Lib.hid M6.out.res
                      have RB := Lib.hid (below_setRow M6.out.bel M6.out.low.1 zV.toArray)
                      have RR := Lib.hid (M6.out.res.row zV rfl)
                      go_wp2_with (first | (refine wpList_build_at rfl 27 _ rfl (.agg zV.toArray) (by simp only [List.map_toArray, List.map_nil]; exact build_ver _) ?_) | (refine wpList_store_blk rfl 27 _ _ rfl B zV rfl rfl RS.out (by rw [size_ver]; rfl) rfl zV_one ?_))
                      refine bodyPost_ret (v := .tuple #[.agg zV.toArray, .string ⟨#[]⟩, .int .i64 1]) (results_cell_tmp2 rfl _ _ B rfl (.string ⟨#[]⟩) (.int .i64 1) rfl rfl RR.out Try.underlying27 rfl (by rw [size_ver]; rfl)) rfl ?_
                      rw [← HT.out]
                      exact rd_err w _ _ RB.out
            · have HT : Hid (errV e3 = T) := Lib.hid (by rw [← HTT.out, if_pos he3])
              have d2 : ((e3 : Int) != 0) = true := by simp; omega
              clear HTT
              have RS := Lib.hid M5.out.res
              have RB := Lib.hid (below_setRow M5.out.bel M5.out.low.1 zV.toArray)
              have RR := Lib.hid (M5.out.res.row zV rfl)
              go_wp2_with (first | (refine wpList_build_at rfl 27 _ rfl (.agg zV.toArray) (by simp only [List.map_toArray, List.map_nil]; exact build_ver _) ?_) | (refine wpList_store_blk rfl 27 _ _ rfl B zV rfl rfl RS.out (by rw [size_ver]; rfl) rfl zV_one ?_))
              refine bodyPost_ret (v := .tuple #[.agg zV.toArray, .string ⟨#[]⟩, .int .i64 (e3 : Int)]) (results_cell_tmp2 rfl _ _ B rfl (.string ⟨#[]⟩) (.int .i64 (e3 : Int)) rfl rfl RR.out Try.underlying27 rfl (by rw [size_ver]; rfl)) rfl ?_
              rw [← HT.out]
              exact rd_err w _ _ RB.out
    · have HT : Hid (errV e2 = T) := Lib.hid (by rw [← HTT.out, if_pos he])
      have d1 : ((e2 : Int) != 0) = true := by simp; omega
      clear HTT hn
      have RS := Lib.hid M4.out.res
      have RB := Lib.hid (below_setRow M4.out.bel M4.out.low.1 zV.toArray)
      have RR := Lib.hid (M4.out.res.row zV rfl)
      go_wp2_with (first | (refine wpList_build_at rfl 27 _ rfl (.agg zV.toArray) (by simp only [List.map_toArray, List.map_nil]; exact build_ver _) ?_) | (refine wpList_store_blk rfl 27 _ _ rfl B zV rfl rfl RS.out (by rw [size_ver]; rfl) rfl zV_one ?_))
      refine bodyPost_ret (v := .tuple #[.agg zV.toArray, .string ⟨#[]⟩, .int .i64 (e2 : Int)]) (results_cell_tmp2 rfl _ _ B rfl (.string ⟨#[]⟩) (.int .i64 (e2 : Int)) rfl rfl RR.out Try.underlying27 rfl (by rw [size_ver]; rfl)) rfl ?_
      rw [← HT.out]
      exact rd_err w _ _ RB.out
end Go.Proofs.Ytahfjfhiejhddaa
