/- Walk of the program's disk: what a crash leaves of a sector. -/
import Derived.Test.YtdpdgmfmjgjmiaaZSyn
import Derived.IntWalk
namespace Go.Proofs.Ytdpdgmfmjgjmiaa
open Go.RowKit
set_option linter.unusedVariables false

theorem rowB_take (s : List Nat) (n : Nat) : rowB (s.take n) = (rowB s).take n := by unfold rowB ints nn; rw [List.map_take, List.map_take]
theorem rowB_drop (s : List Nat) (n : Nat) : rowB (s.drop n) = (rowB s).drop n := by unfold rowB ints nn; rw [List.map_drop, List.map_drop]
theorem rowB_app (a b : List Nat) : rowB (a ++ b) = rowB a ++ rowB b := by unfold rowB ints nn; rw [List.map_append, List.map_append]
theorem rowB_oneM (s : List Nat) : ∀ u ∈ rowB s, u.oneCell' = true := fun u hu => by
  unfold rowB ints at hu
  obtain ⟨x, _, rfl⟩ := List.mem_map.1 hu
  rfl
theorem getL32 {l : List (List Nat)} (hl : ∀ s ∈ l, s.length = 32) {j : Nat} (h : j < l.length) : (l.getD j []).length = 32 := by
  rw [List.getD_eq_getElem?_getD, List.getElem?_eq_getElem h]
  exact hl _ (List.getElem_mem _)
set_option maxRecDepth 100000 in
set_option maxHeartbeats 1000000 in
theorem d_crashed_a (b0 : List Nat) (h0 : b0.length = 32) (l : List (List Nat)) (hl : ∀ s ∈ l, s.length = 32) (hn : l.length ≤ 100000) (g c : Nat) (kb : Nat) (hk : kb < 256) (w : World) (hS : Sl w 32 (.slice (some ⟨g, 0, none⟩) l.length c) (rowsB l)) (hpos : 0 < l.length)
    (wh : Nat) (hwh : kb / 4 % (l.length + 1) = wh) (h1 : wh = 0) :
    Calls Try.prog 27 #[.agg (rowB b0).toArray, .slice (some ⟨g, 0, none⟩) l.length c, .int .u8 (kb : Int)] w fun e w' => e = .returned (.agg (rowB (tornS b0 l kb)).toArray) ∧ Below w.heap.size w w' := by
  obtain ⟨pa, hpa⟩ : ∃ pa, kb % 4 = pa := ⟨_, rfl⟩
  have hpa4 : pa < 4 := by omega
  obtain ⟨ph, hph⟩ : ∃ ph, pa * 8 = ph := ⟨_, rfl⟩
  obtain ⟨was, hwas⟩ : ∃ was, b0 = was := ⟨_, rfl⟩
  have hw32 : was.length = 32 := by rw [← hwas]; exact h0
  have ht : tornS b0 l kb = (l.getD wh []).take (8 * pa) ++ was.drop (8 * pa) := by
    unfold tornS
    simp only [hwh, hpa]
    rw [h1, if_pos rfl, if_pos hpos, hwas]
  obtain ⟨t, htt⟩ : ∃ t, tornS b0 l kb = t := ⟨_, rfl⟩
  rw [htt] at ht ⊢
  have ht32 : t.length = 32 := by rw [← htt]; exact torn_len h0 hl
  obtain ⟨Z, hZ⟩ : ∃ Z, rowB (zerN 32) = Z := ⟨_, rfl⟩
  obtain ⟨R0, hR0⟩ : ∃ R, rowB b0 = R := ⟨_, rfl⟩
  obtain ⟨W0, hW0⟩ : ∃ R, rowB was = R := ⟨_, rfl⟩
  obtain ⟨RT, hRT⟩ : ∃ R, rowB t = R := ⟨_, rfl⟩
  have lZ : Z.length = 32 := by rw [← hZ, rowB_len, zerN_len]
  have l0 : R0.length = 32 := by rw [← hR0, rowB_len, h0]
  have lW : W0.length = 32 := by rw [← hW0, rowB_len, hw32]
  have lT : RT.length = 32 := by rw [← hRT, rowB_len, ht32]
  have oT : RT.toArray.all (·.oneCell') = true := by rw [← hRT]; exact rowB_one _
  have oW : W0.toArray.all (·.oneCell') = true := by rw [← hW0]; exact rowB_one _
  obtain ⟨B, hB⟩ : ∃ B, w.heap.size = B := ⟨_, rfl⟩
  have hal : ∀ w', (Instr.alloc 54 true (.tuple #[])).run Try.prog w' = .ok (.pointer (some ⟨w'.heap.size, 0, none⟩)) (w'.alloc (.cells Z.toArray 54)) := fun w' => by rw [← hZ]; exact alloc_sec w'
  obtain ⟨w1, hw1⟩ : ∃ w1, (w.alloc (.cells R0.toArray 54)).alloc (.cells Z.toArray 54) = w1 := ⟨_, rfl⟩
  have k0 : Blk w1 B 54 R0 := by rw [← hw1]; exact (Blk.newAt w B hB 54 R0 rfl).alloc _
  have k1 : Blk w1 (B + 1) 54 Z := by rw [← hw1]; exact Blk.newAt _ (B + 1) (by simp [hB]) 54 Z rfl
  have hb1 : Below B w w1 := by rw [← hw1, ← hB]; exact ((Below.refl w.heap.size w).alloc (Nat.le_refl _) _).alloc (by simp) _
  have hS1 : Sl w1 32 (.slice (some ⟨g, 0, none⟩) l.length c) (rowsB l) := hS.below (by rw [hB]; exact hb1)
  have hgB : g < B := by
    obtain ⟨_, _, _, _, h3⟩ := hS
    obtain ⟨a, e, hlt, _⟩ := h3 0 _ (rowsB_at hpos)
    rename_i p cap hv _
    simp only [Value.slice.injEq] at hv
    obtain ⟨rfl, _, _⟩ := hv
    cases e
    rw [← hB]
    exact hlt
  have hys := row_at (j := wh) (by omega) hS1
  have HYS : Hid (∀ (nq j : Nat) (v : Value), ((rowB (l.getD wh [])).take (ph))[j]? = some v → (w1.drewN nq).cell? (Addr.add ⟨g, wh * 32, none⟩ j) = some v) := Lib.hid fun nq j v h => by
    have h2 : (rowB (l.getD wh []))[j]? = some v := by
      rw [List.getElem?_take] at h
      split at h
      · exact h
      · cases h
    exact  (hys j v h2)
  have hyl : ((rowB (l.getD wh [])).take (ph)).length = ph := by rw [List.length_take, rowB_len, getL32 hl (by omega)]; omega
  have hyo : ∀ u ∈ (rowB (l.getD wh [])).take (ph), u.oneCell' = true := fun u hu => rowB_oneM _ u (List.mem_of_mem_take hu)
  have hx : (rowB (l.getD wh [])).take (ph) ++ W0.drop (ph) = RT := by rw [← hRT, ht, rowB_app, rowB_take, rowB_drop, hW0, Nat.mul_comm 8 pa, hph]
  obtain ⟨YS, hYS⟩ : ∃ YS, (rowB (l.getD wh [])).take (ph) = YS := ⟨_, rfl⟩
  rw [hYS] at HYS hyl hyo hx
  have YL := Lib.hid hyl.symm
  have YO := Lib.hid hyo
  have HX := Lib.hid hx

  obtain ⟨kd, hkd⟩ : ∃ kd, kb / 4 = kd := ⟨_, rfl⟩
  have e0 : ((kb : Int) / 4) = (kd : Int) := by omega
  have e0t : ((kb : Int).tdiv 4) = (kd : Int) := by rw [Int.tdiv_eq_ediv_of_nonneg (by omega)]; exact e0
  have kdl : kd < 64 := by omega
  rw [hkd] at hwh
  have e1 : ((kd : Int) % ((l.length : Int) + 1)) = (wh : Int) := by rw [← hwh, Int.natCast_emod]; rfl
  have e1t : ((kd : Int).tmod ((l.length : Int) + 1)) = (wh : Int) := by rw [Int.tmod_eq_emod_of_nonneg (by omega)]; exact e1
  have e2t : ((kb : Int).tmod 4) = (pa : Int) := by rw [Int.tmod_eq_emod_of_nonneg (by omega)]; omega
  have e2 : ((kb : Int) % 4) = (pa : Int) := by omega
  have whn : wh ≤ l.length := by rw [← hwh]; have := Nat.mod_lt kd (show 0 < l.length + 1 by omega); omega
  have HAL := Lib.hid hal
  have L0 := Lib.hid l0
  have LZ := Lib.hid lZ
  have LW := Lib.hid lW
  have LT := Lib.hid lT
  have OT := Lib.hid oT
  have OW := Lib.hid oW
  have K0 := Lib.hid k0
  have K1 := Lib.hid k1
  have GB := Lib.hid hb1
  have HBE := Lib.hid hB
  have hRW : W0 = R0 := by rw [← hR0, ← hW0, hwas]
  have d1 : ¬ (0 : Int) < (wh : Int) := by omega
  have d1n : ¬ 0 < wh := by omega
  have d2 : (wh : Int) < (l.length : Int) := by omega
  have d2n : wh < l.length := by omega
  have p8 : (ph : Int) ≤ 32 := by omega
  have e8 : (pa : Int) * 8 = (ph : Int) := by omega
  have t8 : ((ph : Int)).toNat = ph := by omega
  rw [hR0, hRT]
  generalize hnn : l.length = n at *
  clear hal l0 lZ lW lT oT oW k0 k1 hb1 hS hS1 hgB hR0 hZ hW0 hRT htt ht ht32 hw32 h0 hl hwh hpa hnn hkd h1 hwas hys hyl hyo hx hYS
  subst hw1
  go_enter Try.func27, Try.ntmps27
  subst hRW
  go_wp2_with (first | (refine wpList_alloc_n rfl 54 rfl (B + 1) (by simp [hB]) _ (HAL.out _) ?_))
  refine region_drew_tail 7 mixed (by kernel_rfl) ?_
  simp only [List.take_succ_cons, List.take_zero, List.drop_succ_cons, List.drop_zero]
  repeat (first | go_big_quiet_step (fail) | quiet_step (fail))
  refine wpQuiet_nil ?_
  rintro w7 ⟨nq, rfl⟩
  have j0 : Blk (((w.alloc (.cells W0.toArray 54)).alloc (.cells Z.toArray 54)).drewN nq) B 54 W0 := (K0.out.drewN nq)
  have j1 : Blk (((w.alloc (.cells W0.toArray 54)).alloc (.cells Z.toArray 54)).drewN nq) (B + 1) 54 Z := (K1.out.drewN nq)
  have jb : Below B w (((w.alloc (.cells W0.toArray 54)).alloc (.cells Z.toArray 54)).drewN nq) := (below_drewN GB.out nq)
  have m0 := j0.row RT (by rw [LT.out, LW.out])
  have m1 := j1.rowOther (show B + 1 ≠ B by omega) RT.toArray
  have mb := below_setRow jb (b := B) (Nat.le_refl _) RT.toArray
  have x1 := m1.row RT (by rw [LT.out, LZ.out])
  have xb := below_setRow mb (b := B + 1) (by omega) RT.toArray
  have J0 := Lib.hid j0
  have M0 := Lib.hid m0
  have M1 := Lib.hid m1
  have X1 := Lib.hid x1
  have XB := Lib.hid xb
  have HYW := Lib.hid (fun j v (h : YS[j]? = some v) => HYS.out nq j v h)
  clear j0 j1 jb m0 m1 mb x1 xb
  go_wp2_with (first | (refine wpList_copy_head rfl _ _ 31 31 5 rfl B 32 32 rfl ⟨g, wh * 32, none⟩ (ph) 32 rfl J0.out YS HYW.out YL.out (by omega) (Nat.le_of_eq LW.out.symm) YO.out Try.underlying31 size_u8 ?_; rw [HX.out]) | (refine wpList_load_blk rfl 54 _ rfl B rfl M0.out Try.underlying54 rfl (by rw [size_sec, LT.out]) ?_) | (refine wpList_store_blk rfl 54 _ _ rfl (B + 1) RT rfl rfl M1.out (by rw [size_sec, LT.out]) (by rw [LZ.out, LT.out]) OT.out ?_))
  refine bodyPost_ret (v := .agg RT.toArray) (results_cell_blk rfl _ _ _ rfl X1.out Try.underlying54 rfl (by rw [size_sec, LT.out])) rfl ⟨rfl, by first | exact XB.out | (rw [HBE.out]; exact XB.out)⟩

set_option maxRecDepth 100000 in
set_option maxHeartbeats 1000000 in
theorem d_crashed_b (b0 : List Nat) (h0 : b0.length = 32) (l : List (List Nat)) (hl : ∀ s ∈ l, s.length = 32) (hn : l.length ≤ 100000) (g c : Nat) (kb : Nat) (hk : kb < 256) (w : World) (hS : Sl w 32 (.slice (some ⟨g, 0, none⟩) l.length c) (rowsB l)) (hpos : 0 < l.length)
    (wh : Nat) (hwh : kb / 4 % (l.length + 1) = wh) (h1 : 0 < wh) (h2 : wh < l.length) :
    Calls Try.prog 27 #[.agg (rowB b0).toArray, .slice (some ⟨g, 0, none⟩) l.length c, .int .u8 (kb : Int)] w fun e w' => e = .returned (.agg (rowB (tornS b0 l kb)).toArray) ∧ Below w.heap.size w w' := by
  obtain ⟨pa, hpa⟩ : ∃ pa, kb % 4 = pa := ⟨_, rfl⟩
  have hpa4 : pa < 4 := by omega
  obtain ⟨ph, hph⟩ : ∃ ph, pa * 8 = ph := ⟨_, rfl⟩
  obtain ⟨was, hwas⟩ : ∃ was, l.getD (wh - 1) [] = was := ⟨_, rfl⟩
  have hw32 : was.length = 32 := by rw [← hwas]; exact getL32 hl (by omega)
  have ht : tornS b0 l kb = (l.getD wh []).take (8 * pa) ++ was.drop (8 * pa) := by
    unfold tornS
    simp only [hwh, hpa]
    rw [if_pos h2, if_neg (show ¬ wh = 0 by omega), hwas]
  obtain ⟨t, htt⟩ : ∃ t, tornS b0 l kb = t := ⟨_, rfl⟩
  rw [htt] at ht ⊢
  have ht32 : t.length = 32 := by rw [← htt]; exact torn_len h0 hl
  obtain ⟨Z, hZ⟩ : ∃ Z, rowB (zerN 32) = Z := ⟨_, rfl⟩
  obtain ⟨R0, hR0⟩ : ∃ R, rowB b0 = R := ⟨_, rfl⟩
  obtain ⟨W0, hW0⟩ : ∃ R, rowB was = R := ⟨_, rfl⟩
  obtain ⟨RT, hRT⟩ : ∃ R, rowB t = R := ⟨_, rfl⟩
  have lZ : Z.length = 32 := by rw [← hZ, rowB_len, zerN_len]
  have l0 : R0.length = 32 := by rw [← hR0, rowB_len, h0]
  have lW : W0.length = 32 := by rw [← hW0, rowB_len, hw32]
  have lT : RT.length = 32 := by rw [← hRT, rowB_len, ht32]
  have oT : RT.toArray.all (·.oneCell') = true := by rw [← hRT]; exact rowB_one _
  have oW : W0.toArray.all (·.oneCell') = true := by rw [← hW0]; exact rowB_one _
  obtain ⟨B, hB⟩ : ∃ B, w.heap.size = B := ⟨_, rfl⟩
  have hal : ∀ w', (Instr.alloc 54 true (.tuple #[])).run Try.prog w' = .ok (.pointer (some ⟨w'.heap.size, 0, none⟩)) (w'.alloc (.cells Z.toArray 54)) := fun w' => by rw [← hZ]; exact alloc_sec w'
  obtain ⟨w1, hw1⟩ : ∃ w1, (w.alloc (.cells R0.toArray 54)).alloc (.cells Z.toArray 54) = w1 := ⟨_, rfl⟩
  have k0 : Blk w1 B 54 R0 := by rw [← hw1]; exact (Blk.newAt w B hB 54 R0 rfl).alloc _
  have k1 : Blk w1 (B + 1) 54 Z := by rw [← hw1]; exact Blk.newAt _ (B + 1) (by simp [hB]) 54 Z rfl
  have hb1 : Below B w w1 := by rw [← hw1, ← hB]; exact ((Below.refl w.heap.size w).alloc (Nat.le_refl _) _).alloc (by simp) _
  have hS1 : Sl w1 32 (.slice (some ⟨g, 0, none⟩) l.length c) (rowsB l) := hS.below (by rw [hB]; exact hb1)
  have hgB : g < B := by
    obtain ⟨_, _, _, _, h3⟩ := hS
    obtain ⟨a, e, hlt, _⟩ := h3 0 _ (rowsB_at hpos)
    rename_i p cap hv _
    simp only [Value.slice.injEq] at hv
    obtain ⟨rfl, _, _⟩ := hv
    cases e
    rw [← hB]
    exact hlt
  have hrow := row_at (j := wh - 1) (by omega) hS1
  rw [hwas, hW0] at hrow
  have HROW := Lib.hid hrow
  have hys := row_at (j := wh) (by omega) hS1
  have HYS : Hid (∀ (nq j : Nat) (v : Value), ((rowB (l.getD wh [])).take (ph))[j]? = some v → ((w1.setRow B W0.toArray).drewN nq).cell? (Addr.add ⟨g, wh * 32, none⟩ j) = some v) := Lib.hid fun nq j v h => by
    have h2 : (rowB (l.getD wh []))[j]? = some v := by
      rw [List.getElem?_take] at h
      split at h
      · exact h
      · cases h
    exact (show (w1.setRow B W0.toArray).cell? _ = _ from (cell_same (X := w1) (by rw [add_block]; exact setRow_other w1 B g W0.toArray (by omega))).trans (hys j v h2))
  have hyl : ((rowB (l.getD wh [])).take (ph)).length = ph := by rw [List.length_take, rowB_len, getL32 hl (by omega)]; omega
  have hyo : ∀ u ∈ (rowB (l.getD wh [])).take (ph), u.oneCell' = true := fun u hu => rowB_oneM _ u (List.mem_of_mem_take hu)
  have hx : (rowB (l.getD wh [])).take (ph) ++ W0.drop (ph) = RT := by rw [← hRT, ht, rowB_app, rowB_take, rowB_drop, hW0, Nat.mul_comm 8 pa, hph]
  obtain ⟨YS, hYS⟩ : ∃ YS, (rowB (l.getD wh [])).take (ph) = YS := ⟨_, rfl⟩
  rw [hYS] at HYS hyl hyo hx
  have YL := Lib.hid hyl.symm
  have YO := Lib.hid hyo
  have HX := Lib.hid hx

  obtain ⟨kd, hkd⟩ : ∃ kd, kb / 4 = kd := ⟨_, rfl⟩
  have e0 : ((kb : Int) / 4) = (kd : Int) := by omega
  have e0t : ((kb : Int).tdiv 4) = (kd : Int) := by rw [Int.tdiv_eq_ediv_of_nonneg (by omega)]; exact e0
  have kdl : kd < 64 := by omega
  rw [hkd] at hwh
  have e1 : ((kd : Int) % ((l.length : Int) + 1)) = (wh : Int) := by rw [← hwh, Int.natCast_emod]; rfl
  have e1t : ((kd : Int).tmod ((l.length : Int) + 1)) = (wh : Int) := by rw [Int.tmod_eq_emod_of_nonneg (by omega)]; exact e1
  have e2t : ((kb : Int).tmod 4) = (pa : Int) := by rw [Int.tmod_eq_emod_of_nonneg (by omega)]; omega
  have e2 : ((kb : Int) % 4) = (pa : Int) := by omega
  have whn : wh ≤ l.length := by rw [← hwh]; have := Nat.mod_lt kd (show 0 < l.length + 1 by omega); omega
  have HAL := Lib.hid hal
  have L0 := Lib.hid l0
  have LZ := Lib.hid lZ
  have LW := Lib.hid lW
  have LT := Lib.hid lT
  have OT := Lib.hid oT
  have OW := Lib.hid oW
  have K0 := Lib.hid k0
  have K1 := Lib.hid k1
  have GB := Lib.hid hb1
  have HBE := Lib.hid hB
  have d1 : (0 : Int) < (wh : Int) := by omega
  have d1m : (wh : Int) - 1 < (l.length : Int) := by omega
  have t1 : ((wh : Int) - 1).toNat = wh - 1 := by omega
  have d2 : (wh : Int) < (l.length : Int) := by omega
  have d2n : wh < l.length := by omega
  have p8 : (ph : Int) ≤ 32 := by omega
  have e8 : (pa : Int) * 8 = (ph : Int) := by omega
  have t8 : ((ph : Int)).toNat = ph := by omega
  rw [hR0, hRT]
  generalize hnn : l.length = n at *
  clear hal l0 lZ lW lT oT oW k0 k1 hb1 hS hS1 hgB hR0 hZ hW0 hRT htt ht ht32 hw32 h0 hl hwh hpa hnn hkd hwas hys hyl hyo hx hYS hrow h2
  subst hw1
  go_enter Try.func27, Try.ntmps27
  go_wp2_with (first | (refine wpList_alloc_n rfl 54 rfl (B + 1) (by simp [hB]) _ (HAL.out _) ?_) | (refine wpList_load_addr rfl 54 _ rfl ⟨g, (wh - 1) * 32, none⟩ rfl W0 HROW.out Try.underlying54 rfl (by rw [size_sec, LW.out]) ?_) | (refine wpList_store_blk rfl 54 _ _ rfl B W0 rfl rfl K0.out (by rw [size_sec, LW.out]) (by rw [L0.out, LW.out]) OW.out ?_))
  refine region_drew_tail 7 mixed (by kernel_rfl) ?_
  simp only [List.take_succ_cons, List.take_zero, List.drop_succ_cons, List.drop_zero]
  repeat (first | go_big_quiet_step (fail) | quiet_step (fail))
  refine wpQuiet_nil ?_
  rintro w7 ⟨nq, rfl⟩
  have j0 : Blk ((((w.alloc (.cells R0.toArray 54)).alloc (.cells Z.toArray 54)).setRow B W0.toArray).drewN nq) B 54 W0 := ((K0.out.row W0 (by rw [L0.out, LW.out])).drewN nq)
  have j1 : Blk ((((w.alloc (.cells R0.toArray 54)).alloc (.cells Z.toArray 54)).setRow B W0.toArray).drewN nq) (B + 1) 54 Z := ((K1.out.rowOther (show B + 1 ≠ B by omega) W0.toArray).drewN nq)
  have jb : Below B w ((((w.alloc (.cells R0.toArray 54)).alloc (.cells Z.toArray 54)).setRow B W0.toArray).drewN nq) := (below_drewN (below_setRow GB.out (b := B) (Nat.le_refl _) W0.toArray) nq)
  have m0 := j0.row RT (by rw [LT.out, LW.out])
  have m1 := j1.rowOther (show B + 1 ≠ B by omega) RT.toArray
  have mb := below_setRow jb (b := B) (Nat.le_refl _) RT.toArray
  have x1 := m1.row RT (by rw [LT.out, LZ.out])
  have xb := below_setRow mb (b := B + 1) (by omega) RT.toArray
  have J0 := Lib.hid j0
  have M0 := Lib.hid m0
  have M1 := Lib.hid m1
  have X1 := Lib.hid x1
  have XB := Lib.hid xb
  have HYW := Lib.hid (fun j v (h : YS[j]? = some v) => HYS.out nq j v h)
  clear j0 j1 jb m0 m1 mb x1 xb
  go_wp2_with (first | (refine wpList_copy_head rfl _ _ 31 31 5 rfl B 32 32 rfl ⟨g, wh * 32, none⟩ (ph) 32 rfl J0.out YS HYW.out YL.out (by omega) (Nat.le_of_eq LW.out.symm) YO.out Try.underlying31 size_u8 ?_; rw [HX.out]) | (refine wpList_load_blk rfl 54 _ rfl B rfl M0.out Try.underlying54 rfl (by rw [size_sec, LT.out]) ?_) | (refine wpList_store_blk rfl 54 _ _ rfl (B + 1) RT rfl rfl M1.out (by rw [size_sec, LT.out]) (by rw [LZ.out, LT.out]) OT.out ?_))
  refine bodyPost_ret (v := .agg RT.toArray) (results_cell_blk rfl _ _ _ rfl X1.out Try.underlying54 rfl (by rw [size_sec, LT.out])) rfl ⟨rfl, by first | exact XB.out | (rw [HBE.out]; exact XB.out)⟩

set_option maxRecDepth 100000 in
set_option maxHeartbeats 1000000 in
theorem d_crashed_c (b0 : List Nat) (h0 : b0.length = 32) (l : List (List Nat)) (hl : ∀ s ∈ l, s.length = 32) (hn : l.length ≤ 100000) (g c : Nat) (kb : Nat) (hk : kb < 256) (w : World) (hS : Sl w 32 (.slice (some ⟨g, 0, none⟩) l.length c) (rowsB l)) (hpos : 0 < l.length)
    (wh : Nat) (hwh : kb / 4 % (l.length + 1) = wh) (h1 : 0 < wh) (h2 : ¬ wh < l.length) :
    Calls Try.prog 27 #[.agg (rowB b0).toArray, .slice (some ⟨g, 0, none⟩) l.length c, .int .u8 (kb : Int)] w fun e w' => e = .returned (.agg (rowB (tornS b0 l kb)).toArray) ∧ Below w.heap.size w w' := by
  obtain ⟨pa, hpa⟩ : ∃ pa, kb % 4 = pa := ⟨_, rfl⟩
  have hpa4 : pa < 4 := by omega
  obtain ⟨ph, hph⟩ : ∃ ph, pa * 8 = ph := ⟨_, rfl⟩
  obtain ⟨was, hwas⟩ : ∃ was, l.getD (wh - 1) [] = was := ⟨_, rfl⟩
  have hw32 : was.length = 32 := by rw [← hwas]; exact getL32 hl (by have := Nat.mod_lt (kb / 4) (show 0 < l.length + 1 by omega); omega)
  have ht : tornS b0 l kb = was := by
    unfold tornS
    simp only [hwh, hpa]
    rw [if_neg h2, if_neg (show ¬ wh = 0 by omega), hwas]
  obtain ⟨t, htt⟩ : ∃ t, tornS b0 l kb = t := ⟨_, rfl⟩
  rw [htt] at ht ⊢
  have ht32 : t.length = 32 := by rw [← htt]; exact torn_len h0 hl
  obtain ⟨Z, hZ⟩ : ∃ Z, rowB (zerN 32) = Z := ⟨_, rfl⟩
  obtain ⟨R0, hR0⟩ : ∃ R, rowB b0 = R := ⟨_, rfl⟩
  obtain ⟨W0, hW0⟩ : ∃ R, rowB was = R := ⟨_, rfl⟩
  obtain ⟨RT, hRT⟩ : ∃ R, rowB t = R := ⟨_, rfl⟩
  have lZ : Z.length = 32 := by rw [← hZ, rowB_len, zerN_len]
  have l0 : R0.length = 32 := by rw [← hR0, rowB_len, h0]
  have lW : W0.length = 32 := by rw [← hW0, rowB_len, hw32]
  have lT : RT.length = 32 := by rw [← hRT, rowB_len, ht32]
  have oT : RT.toArray.all (·.oneCell') = true := by rw [← hRT]; exact rowB_one _
  have oW : W0.toArray.all (·.oneCell') = true := by rw [← hW0]; exact rowB_one _
  obtain ⟨B, hB⟩ : ∃ B, w.heap.size = B := ⟨_, rfl⟩
  have hal : ∀ w', (Instr.alloc 54 true (.tuple #[])).run Try.prog w' = .ok (.pointer (some ⟨w'.heap.size, 0, none⟩)) (w'.alloc (.cells Z.toArray 54)) := fun w' => by rw [← hZ]; exact alloc_sec w'
  obtain ⟨w1, hw1⟩ : ∃ w1, (w.alloc (.cells R0.toArray 54)).alloc (.cells Z.toArray 54) = w1 := ⟨_, rfl⟩
  have k0 : Blk w1 B 54 R0 := by rw [← hw1]; exact (Blk.newAt w B hB 54 R0 rfl).alloc _
  have k1 : Blk w1 (B + 1) 54 Z := by rw [← hw1]; exact Blk.newAt _ (B + 1) (by simp [hB]) 54 Z rfl
  have hb1 : Below B w w1 := by rw [← hw1, ← hB]; exact ((Below.refl w.heap.size w).alloc (Nat.le_refl _) _).alloc (by simp) _
  have hS1 : Sl w1 32 (.slice (some ⟨g, 0, none⟩) l.length c) (rowsB l) := hS.below (by rw [hB]; exact hb1)
  have hgB : g < B := by
    obtain ⟨_, _, _, _, h3⟩ := hS
    obtain ⟨a, e, hlt, _⟩ := h3 0 _ (rowsB_at hpos)
    rename_i p cap hv _
    simp only [Value.slice.injEq] at hv
    obtain ⟨rfl, _, _⟩ := hv
    cases e
    rw [← hB]
    exact hlt
  have hrow := row_at (j := wh - 1) (by have := Nat.mod_lt (kb / 4) (show 0 < l.length + 1 by omega); omega) hS1
  rw [hwas, hW0] at hrow
  have HROW := Lib.hid hrow

  obtain ⟨kd, hkd⟩ : ∃ kd, kb / 4 = kd := ⟨_, rfl⟩
  have e0 : ((kb : Int) / 4) = (kd : Int) := by omega
  have e0t : ((kb : Int).tdiv 4) = (kd : Int) := by rw [Int.tdiv_eq_ediv_of_nonneg (by omega)]; exact e0
  have kdl : kd < 64 := by omega
  rw [hkd] at hwh
  have e1 : ((kd : Int) % ((l.length : Int) + 1)) = (wh : Int) := by rw [← hwh, Int.natCast_emod]; rfl
  have e1t : ((kd : Int).tmod ((l.length : Int) + 1)) = (wh : Int) := by rw [Int.tmod_eq_emod_of_nonneg (by omega)]; exact e1
  have e2t : ((kb : Int).tmod 4) = (pa : Int) := by rw [Int.tmod_eq_emod_of_nonneg (by omega)]; omega
  have e2 : ((kb : Int) % 4) = (pa : Int) := by omega
  have whn : wh ≤ l.length := by rw [← hwh]; have := Nat.mod_lt kd (show 0 < l.length + 1 by omega); omega
  have HAL := Lib.hid hal
  have L0 := Lib.hid l0
  have LZ := Lib.hid lZ
  have LW := Lib.hid lW
  have LT := Lib.hid lT
  have OT := Lib.hid oT
  have OW := Lib.hid oW
  have K0 := Lib.hid k0
  have K1 := Lib.hid k1
  have GB := Lib.hid hb1
  have HBE := Lib.hid hB
  have hRW : W0 = RT := by rw [← hRT, ← hW0, ht]
  have d1 : (0 : Int) < (wh : Int) := by omega
  have d1m : (wh : Int) - 1 < (l.length : Int) := by omega
  have t1 : ((wh : Int) - 1).toNat = wh - 1 := by omega
  have d2 : ¬ (wh : Int) < (l.length : Int) := by omega
  rw [hR0, hRT]
  generalize hnn : l.length = n at *
  clear hal l0 lZ lW lT oT oW k0 k1 hb1 hS hS1 hgB hR0 hZ hW0 hRT htt ht ht32 hw32 h0 hl hwh hpa hnn hkd hwas hrow
  subst hw1
  go_enter Try.func27, Try.ntmps27
  subst hRW
  have m0 := K0.out.row W0 (by rw [L0.out, LW.out])
  have m1 := K1.out.rowOther (show B + 1 ≠ B by omega) W0.toArray
  have mb := below_setRow GB.out (b := B) (Nat.le_refl _) W0.toArray
  have x1 := m1.row W0 (by rw [LW.out, LZ.out])
  have xb := below_setRow mb (b := B + 1) (by omega) W0.toArray
  have M0 := Lib.hid m0
  have M1 := Lib.hid m1
  have X1 := Lib.hid x1
  have XB := Lib.hid xb
  clear m0 m1 mb x1 xb
  go_wp2_with (first | (refine wpList_alloc_n rfl 54 rfl (B + 1) (by simp [hB]) _ (HAL.out _) ?_) | (refine wpList_load_addr rfl 54 _ rfl ⟨g, (wh - 1) * 32, none⟩ rfl W0 HROW.out Try.underlying54 rfl (by rw [size_sec, LW.out]) ?_) | (refine wpList_store_blk rfl 54 _ _ rfl B W0 rfl rfl K0.out (by rw [size_sec, LW.out]) (by rw [L0.out, LW.out]) OW.out ?_) | (refine wpList_load_blk rfl 54 _ rfl B rfl M0.out Try.underlying54 rfl (by rw [size_sec, LW.out]) ?_) | (refine wpList_store_blk rfl 54 _ _ rfl (B + 1) W0 rfl rfl M1.out (by rw [size_sec, LW.out]) (by rw [LZ.out, LW.out]) OW.out ?_))
  refine bodyPost_ret (v := .agg W0.toArray) (results_cell_blk rfl _ _ _ rfl X1.out Try.underlying54 rfl (by rw [size_sec, LW.out])) rfl ⟨rfl, by first | exact XB.out | (rw [HBE.out]; exact XB.out)⟩

theorem d_crashed (b0 : List Nat) (h0 : b0.length = 32) (l : List (List Nat)) (hl : ∀ s ∈ l, s.length = 32) (hn : l.length ≤ 100000) (g c : Nat) (kb : Nat) (hk : kb < 256) (w : World) (hS : Sl w 32 (.slice (some ⟨g, 0, none⟩) l.length c) (rowsB l)) (hpos : 0 < l.length) :
    Calls Try.prog 27 #[.agg (rowB b0).toArray, .slice (some ⟨g, 0, none⟩) l.length c, .int .u8 (kb : Int)] w fun e w' => e = .returned (.agg (rowB (tornS b0 l kb)).toArray) ∧ Below w.heap.size w w' := by
  by_cases h1 : kb / 4 % (l.length + 1) = 0
  · exact d_crashed_a b0 h0 l hl hn g c kb hk w hS hpos _ rfl h1
  · by_cases h2 : kb / 4 % (l.length + 1) < l.length
    · exact d_crashed_b b0 h0 l hl hn g c kb hk w hS hpos _ rfl (by omega) h2
    · exact d_crashed_c b0 h0 l hl hn g c kb hk w hS hpos _ rfl (by omega) h2
end Go.Proofs.Ytdpdgmfmjgjmiaa
