/- Walk of the reference's Decode of versions. -/
import Derived.Test.YtahfjfhiejhddaaHRRd
namespace Go.Proofs.Ytahfjfhiejhddaa
open Go.RowKit
set_option linter.unusedVariables false

set_option maxRecDepth 100000 in
set_option maxHeartbeats 2000000 in
theorem hr_Decode (s : ByteArray) (D : RawV × Nat) (w : World) (hs : s.size ≤ 65536) (hD : decT (tellA (sl s)) = D) :
    Calls Try.prog 19 #[.string s] w (DeRet D w) := by
  obtain ⟨B, hB⟩ : ∃ B, w.heap.size = B := ⟨_, rfl⟩
  have HBE := Lib.hid hB
  have m0 := Blk.newAt w B hB 27 (c := zV.toArray) _ rfl
  have b0 := (Below.refl w.heap.size w).alloc (Nat.le_refl _) (.cells zV.toArray 27)
  have z0 : (w.alloc (.cells zV.toArray 27)).heap.size = B + 1 := by simp [hB]
  have M0 := Lib.hid m0
  have B0 := Lib.hid b0
  have Z0 := Lib.hid z0
  obtain ⟨a, rs, er, hT⟩ : ∃ a rs er, tellA (sl s) = (a, rs, er) := ⟨_, _, _, rfl⟩
  have QR := Lib.hid (fun wx => hr_Read s (a, rs, er) wx hs hT)
  rw [hT] at hD
  unfold decT at hD
  dsimp only at hD
  have HD := Lib.hid hD
  clear hD hT hs m0 b0 z0
  have hlen := tx_size rs
  go_enter Try.func19, Try.ntmps19
  go_wp2_with (refine wpList_alloc_n rfl 27 rfl B hB _ (alloc_ver _) ?_)
  generalize w.alloc (.cells zV.toArray 27) = w1 at *
  refine (QR.out w1).mono ?_
  rintro e w2 ⟨v, rfl, hv, hb2⟩
  dsimp only at hv
  obtain ⟨vb, vn, vz, rfl, o1, o2, o3⟩ := hv
  have HV := Lib.hid (show VO w2 w1.heap.size (.agg (cellsV a.id vb vn vz).toArray) a from ⟨vb, vn, vz, rfl, o1, o2, o3⟩)
  obtain ⟨pb, cb, rfl⟩ := o1.isSlice
  obtain ⟨pn, cn, rfl⟩ := o2.isSlice
  obtain ⟨pz, cz, rfl⟩ := o3.isSlice
  have hone := cellsV_one a.id pb pn pz (rowsH a.bl).length (rowsS a.ns).length (rowsZ a.zs).length cb cn cz
  clear o1 o2 o3
  obtain ⟨C, hC⟩ : ∃ C, cellsV a.id (.slice pb (rowsH a.bl).length cb) (.slice pn (rowsS a.ns).length cn) (.slice pz (rowsZ a.zs).length cz) = C := ⟨_, rfl⟩
  have hCl : C.length = 4 := by rw [← hC]; rfl
  rw [hC] at HV hone
  have M2 := Lib.hid (M0.out.below hb2 M0.out.lt)
  have B2 := Lib.hid (B0.out.trans (hb2.mono B0.out.size))
  have k2 := Blk.new' w2 27 (c := zV.toArray) _ rfl
  have K2 := Lib.hid k2
  have K3 := Lib.hid (k2.row C (by rw [hCl]; rfl))
  have M3 := Lib.hid ((M2.out.alloc (.cells zV.toArray 27)).rowOther (show B ≠ w2.heap.size by have := M2.out.lt; omega) C.toArray)
  have hb3 := below_setRow ((Below.refl w2.heap.size w2).alloc (Nat.le_refl _) (.cells zV.toArray 27)) (Nat.le_refl _) C.toArray
  have B3 := Lib.hid (B2.out.trans (hb3.mono B2.out.size))
  have V3 := Lib.hid (HV.out.keep hb3)
  clear hb2 hb3 HV k2 M0 B0 QR
  have hr0 : B < w1.heap.size := by rw [Z0.out]; omega
  have HR0 := Lib.hid hr0
  have HLW : Hid (w.heap.size ≤ w1.heap.size) := Lib.hid (by rw [Z0.out, HBE.out]; omega)
  clear hr0
  simp only [hC]
  clear hC
  by_cases he : er = 0
  · subst he
    have hD := HD.out
    rw [if_neg (by decide)] at hD
    by_cases hr : rs.length = 0
    · have g1 : (tx rs).toList.isEmpty = true := tx_none (by rw [tx_size]; exact hr)
      rw [if_neg (by omega)] at hD
      have HD2 := Lib.hid hD
      have M4 := Lib.hid (M3.out.row C (by rw [hCl]; rfl))
      have B4 := Lib.hid (below_setRow B3.out (show w.heap.size ≤ B by rw [HBE.out]; exact Nat.le_refl _) C.toArray)
      have V4 := Lib.hid ((V3.out.row HR0.out C.toArray).lower HLW.out)
      clear hD hr HD
      generalize tx rs = RS at *
      go_wp2_with (first | (refine wpList_alloc_n rfl 27 rfl w2.heap.size rfl _ (alloc_ver _) ?_) | (refine wpList_store_blk rfl 27 _ _ rfl w2.heap.size C rfl rfl K2.out (by rw [size_ver, hCl]) (by rw [hCl]; rfl) hone ?_) | (refine wpList_load_blk rfl 27 _ rfl w2.heap.size rfl K3.out Try.underlying27 rfl (by rw [size_ver, hCl]) ?_) | (refine wpList_store_blk rfl 27 _ _ rfl B C rfl rfl M3.out (by rw [size_ver, hCl]) (by rw [hCl]; rfl) hone ?_))
      refine bodyPost_ret (v := .tuple #[.agg C.toArray, .int .i64 0]) (results_cell_tmp rfl _ _ B rfl (.int .i64 0) rfl M4.out Try.underlying27 rfl (by rw [size_ver, hCl])) rfl ?_
      rw [← HD2.out]
      exact ⟨_, rfl, V4.out, B4.out⟩
    · have g1 : (tx rs).toList.isEmpty = false := tx_some (by rw [tx_size]; exact hr)
      rw [if_pos hr] at hD
      have HD2 := Lib.hid hD
      have M4 := Lib.hid (M3.out.row zV rfl)
      have B4 := Lib.hid (below_setRow B3.out (show w.heap.size ≤ B by rw [HBE.out]; exact Nat.le_refl _) zV.toArray)
      clear hD hr HD
      generalize tx rs = RS at *
      go_wp2_with (first | (refine wpList_alloc_n rfl 27 rfl w2.heap.size rfl _ (alloc_ver _) ?_) | (refine wpList_store_blk rfl 27 _ _ rfl w2.heap.size C rfl rfl K2.out (by rw [size_ver, hCl]) (by rw [hCl]; rfl) hone ?_) | (refine wpList_build_at rfl 27 _ rfl (.agg zV.toArray) (by simp only [List.map_toArray, List.map_nil]; exact build_ver _) ?_) | (refine wpList_store_blk rfl 27 _ _ rfl B zV rfl rfl M3.out (by rw [size_ver]; rfl) rfl zV_one ?_))
      refine bodyPost_ret (v := .tuple #[.agg zV.toArray, .int .i64 42]) (results_cell_tmp rfl _ _ B rfl (.int .i64 42) rfl M4.out Try.underlying27 rfl (by rw [size_ver]; rfl)) rfl ?_
      rw [← HD2.out]
      exact ⟨_, rfl, VO.none _ _, B4.out⟩
  · have hD := HD.out
    rw [if_pos he] at hD
    have HD2 := Lib.hid hD
    have d2 : ((er : Int) != 0) = true := by simp; omega
    have M4 := Lib.hid (M3.out.row zV rfl)
    have B4 := Lib.hid (below_setRow B3.out (show w.heap.size ≤ B by rw [HBE.out]; exact Nat.le_refl _) zV.toArray)
    clear hD HD
    generalize tx rs = RS at *
    go_wp2_with (first | (refine wpList_alloc_n rfl 27 rfl w2.heap.size rfl _ (alloc_ver _) ?_) | (refine wpList_store_blk rfl 27 _ _ rfl w2.heap.size C rfl rfl K2.out (by rw [size_ver, hCl]) (by rw [hCl]; rfl) hone ?_) | (refine wpList_build_at rfl 27 _ rfl (.agg zV.toArray) (by simp only [List.map_toArray, List.map_nil]; exact build_ver _) ?_) | (refine wpList_store_blk rfl 27 _ _ rfl B zV rfl rfl M3.out (by rw [size_ver]; rfl) rfl zV_one ?_))
    refine bodyPost_ret (v := .tuple #[.agg zV.toArray, .int .i64 (er : Int)]) (results_cell_tmp rfl _ _ B rfl (.int .i64 (er : Int)) rfl M4.out Try.underlying27 rfl (by rw [size_ver]; rfl)) rfl ?_
    rw [← HD2.out]
    exact ⟨_, rfl, VO.none _ _, B4.out⟩
end Go.Proofs.Ytahfjfhiejhddaa
