/- Walks of the reference's Apply: errors, a request that comes again (stage 17). Written by gen/mkura.py. -/
import Derived.Test.YtogonbgelaehhaaUGa
import Derived.Deep.Cut
import Derived.Test.YtogonbgelaehhaaMxu
namespace Go.Proofs.Ytogonbgelaehhaa
open Go.RowKit
set_option linter.unusedVariables false

/-- a state's cells, all of them -/
theorem st_cells3 {w : World} {v : Value} {s : StU RawV} (h : StTold w v s) : ∃ (S : List Value) (p : Option Addr) (c : Nat), v = .agg S.toArray ∧ S.length = 22 ∧ S.toArray.all (·.oneCell') = true ∧ S[0]? = some (.slice p s.vers.length c) ∧ VsV w (.slice p s.vers.length c) s.vers ∧
    (∀ j, j < 3 → S[1 + j]? = some (.int .u32 ((s.seqs.getD j 0 : Nat) : Int))) ∧ (∀ j, j < 3 → ∃ R : List Value, R.length = 6 ∧ R.toArray.all (·.oneCell') = true ∧ (∀ i x, R[i]? = some x → S[4 + j * 6 + i]? = some x) ∧ RepOkV w R (s.last.getD j (wrongU noV 0))) := by
  obtain ⟨vv, s0, s1, s2, r0, r1, r2, x0, x1, x2, rfl, hV, hq, hl, _, h0, h1, h2⟩ := h
  obtain ⟨p, c, rfl⟩ := hV.isSlice
  have := cellsS_one (vv := .slice p s.vers.length c) (s0 := s0) (s1 := s1) (s2 := s2) ⟨_, _, _, rfl⟩ h0 h1 h2
  refine ⟨_, p, c, rfl, this.2, this.1, rfl, hV, fun j hj => ?_, fun j hj => ?_⟩
  · rw [hq]
    have : j = 0 ∨ j = 1 ∨ j = 2 := by omega
    rcases this with rfl | rfl | rfl <;> rfl
  · rw [hl]
    have k0 := h0.row
    have k1 := h1.row
    have k2 := h2.row
    obtain ⟨_, _, _, _, _, _, _, _, e0⟩ := k0
    obtain ⟨_, _, _, _, _, _, _, _, e1⟩ := k1
    obtain ⟨_, _, _, _, _, _, _, _, e2⟩ := k2
    have : j = 0 ∨ j = 1 ∨ j = 2 := by omega
    rcases this with rfl | rfl | rfl
    · refine ⟨r0, h0.len, by rw [e0]; simp [cellsR, Value.oneCell'], fun i x hx => ?_, h0⟩
      have hi : i < 6 := by have := (List.getElem?_eq_some_iff.1 hx).1; rw [h0.len] at this; exact this
      rw [e0] at hx
      rw [e0, e1, e2]
      have : i = 0 ∨ i = 1 ∨ i = 2 ∨ i = 3 ∨ i = 4 ∨ i = 5 := by omega
      rcases this with rfl | rfl | rfl | rfl | rfl | rfl <;> exact hx
    · refine ⟨r1, h1.len, by rw [e1]; simp [cellsR, Value.oneCell'], fun i x hx => ?_, h1⟩
      have hi : i < 6 := by have := (List.getElem?_eq_some_iff.1 hx).1; rw [h1.len] at this; exact this
      rw [e1] at hx
      rw [e0, e1, e2]
      have : i = 0 ∨ i = 1 ∨ i = 2 ∨ i = 3 ∨ i = 4 ∨ i = 5 := by omega
      rcases this with rfl | rfl | rfl | rfl | rfl | rfl <;> exact hx
    · refine ⟨r2, h2.len, by rw [e2]; simp [cellsR, Value.oneCell'], fun i x hx => ?_, h2⟩
      have hi : i < 6 := by have := (List.getElem?_eq_some_iff.1 hx).1; rw [h2.len] at this; exact this
      rw [e2] at hx
      rw [e0, e1, e2]
      have : i = 0 ∨ i = 1 ∨ i = 2 ∨ i = 3 ∨ i = 4 ∨ i = 5 := by omega
      rcases this with rfl | rfl | rfl | rfl | rfl | rfl <;> exact hx
theorem rq_cells {w : World} {v : Value} {r : ReqU RawV} (h : ReqTold w v r) : ∃ Q : List Value, v = .agg Q.toArray ∧ Q.length = 8 ∧ Q.toArray.all (·.oneCell') = true ∧ Q[0]? = some (.int .i64 r.client) ∧ Q[1]? = some (.int .u32 (r.seq : Int)) ∧ OpTold w (.agg (Q.drop 2).toArray) r.kind r.id r.ver := by
  obtain ⟨q, rfl, hv⟩ := h
  have hv2 := hv
  obtain ⟨pb, cb, pn, cn, pz, cz, rfl⟩ := hv2.row
  exact ⟨_, rfl, rfl, by simp [cellsQ, cellsO, cellsV, Value.oneCell'], rfl, rfl, ⟨_, rfl, hv⟩⟩
set_option maxRecDepth 100000 in
set_option maxHeartbeats 2000000 in
theorem vr_ApN (s : StU RawV) (v vq : Value) (r : ReqU RawV) (w : World) (hs : StTold w v s) (hq : ReqTold w vq r) (h1 : r.client < 0) :
    Calls Try.prog 27 #[v, vq] w fun e w' => e = .returned (.tuple #[v, .agg (eR 170).toArray]) ∧ Below w.heap.size w w' := by
  obtain ⟨S, p, c0, rfl, hSl, hS1, hS0, hV, hSq, hSr⟩ := st_cells3 hs
  obtain ⟨Q, rfl, hQl, hQ1, hQc, hQs, hQo⟩ := rq_cells hq
  obtain ⟨B, hB⟩ : ∃ B, w.heap.size = B := ⟨_, rfl⟩
  have k0 := Blk.newAt w B hB 46 (c := S.toArray) S rfl
  have z1 : (w.alloc (.cells S.toArray 46)).heap.size = B + 1 := by simp [hB]
  have k1 := Blk.newAt _ (B + 1) z1 60 (c := Q.toArray) Q rfl
  have z2 : ((w.alloc (.cells S.toArray 46)).alloc (.cells Q.toArray 60)).heap.size = B + 2 := by simp [hB]
  have k2 := Blk.newAt _ (B + 2) z2 46 (c := zS.toArray) zS rfl
  have z3 : (((w.alloc (.cells S.toArray 46)).alloc (.cells Q.toArray 60)).alloc (.cells zS.toArray 46)).heap.size = B + 3 := by simp [hB]
  have k3 := Blk.newAt _ (B + 3) z3 39 (c := zRp.toArray) zRp rfl
  have kb := ((((Below.refl w.heap.size w).alloc (Nat.le_refl _) (.cells S.toArray 46)).alloc (by simp) (.cells Q.toArray 60)).alloc (by simp; omega) (.cells zS.toArray 46)).alloc (by simp; omega) (.cells zRp.toArray 39)
  have K05 := Lib.hid (((k0.alloc (.cells Q.toArray 60)).alloc (.cells zS.toArray 46)).alloc (.cells zRp.toArray 39))
  have K15 := Lib.hid ((k1.alloc (.cells zS.toArray 46)).alloc (.cells zRp.toArray 39))
  have K25 := Lib.hid (k2.alloc (.cells zRp.toArray 39))
  have K35 := Lib.hid k3
  have B5 := Lib.hid kb
  have Z3 := Lib.hid z3
  have Z2 := Lib.hid z2
  have HST := Lib.hid hs
  have HSR := Lib.hid hSr
  have HQL := Lib.hid hQl
  have HQ1 := Lib.hid hQ1
  have HQO := Lib.hid hQo
  have HSL := Lib.hid hSl
  have HSO := Lib.hid hS1
  have HSZ : Hid ((Try.prog.info? 46).map (·.size) = some S.length) := Lib.hid (by rw [size_st, hSl])
  have cl0 := K15.out.cellOf hQc
  have cl1 := K15.out.cellOf hQs
  skip
  clear k0 k1 k2 k3 kb z1 z2 z3 hS0 hSl hS1 hV hs hq hQl hQ1 hQc hQs hQo hSr hSq
  generalize r.client = C at *
  generalize r.seq = N at *
  skip
  go_enter Try.func27, Try.ntmps27
  go_wp2_with (first | (refine wpList_alloc_n rfl 46 rfl (B + 2) Z2.out _ (alloc_st _) ?_) | (refine wpList_alloc_n rfl 39 rfl (B + 3) Z3.out _ (alloc_rep _) ?_))
  generalize (((w.alloc (.cells S.toArray 46)).alloc (.cells Q.toArray 60)).alloc (.cells zS.toArray 46)).alloc (.cells zRp.toArray 39) = w5 at *
  clear Z2 Z3
  have HW : Hid (∀ wx, NewBut w5 wx → Calls Try.prog 34 #[.int .i64 170] wx fun x w' => x = .returned (.agg (eR 170).toArray) ∧ NewBut w5 w') := Lib.hid fun wx hx => (vr_wrong 170 wx).mono fun x w' ⟨q1, q2⟩ => ⟨q1, hx.trans (q2.mono hx.size)⟩
  have HRG : Hid (∀ wx, NewBut w5 wx → wx.rangeAt B 0 S) := Lib.hid fun wx hx => (K05.out.below hx K05.out.lt).whole
  refine region_quiet_tail (C := NewBut w5) 2 mixed (by kernel_rfl) (show Below _ _ _ from (Below.refl _ _).drew) ?_
  simp only [List.take_succ_cons, List.take_zero, List.drop_succ_cons, List.drop_zero]
  repeat (first | (refine wpQuiet_load_row rfl 46 _ rfl B 0 rfl S HRG.out Try.underlying46 rfl HSZ.out ?_) | go_big_quiet_step (fail) | (refine wpQuiet_step (fun K' hK' => ?_); go_simp; first | (refine hK' _ ?_; clear hK' K') | (refine ⟨_, fun _ _ => rfl, hK' _ ?_⟩; clear hK' K') | ((with_reducible refine ⟨_, fun wx hx => HW.out wx hx, hK' _ ?_⟩); clear hK' K')))
  refine wpQuiet_nil ?_
  intro w7 hb7
  have k27 := K25.out.below hb7 K25.out.lt
  have k37 := K35.out.below hb7 K35.out.lt
  have b7 := B5.out.trans (Below.mono hb7 B5.out.size)
  have K27 := Lib.hid k27
  have K38 := Lib.hid (k37.rowOther (show B + 3 ≠ B + 2 by omega) S.toArray)
  have M2 := Lib.hid ((k27.row S (by rw [HSL.out]; rfl)).rowOther (show B + 2 ≠ B + 3 by omega) (eR 170).toArray)
  have M3 := Lib.hid ((k37.rowOther (show B + 3 ≠ B + 2 by omega) S.toArray).row (eR 170) rfl)
  have M4 := Lib.hid (below_setRow (below_setRow b7 (show w.heap.size ≤ B + 2 by omega) S.toArray) (show w.heap.size ≤ B + 3 by omega) (eR 170).toArray)
  clear hb7 k27 k37 b7
  go_wp2_with (first | (refine wpList_store_blk rfl 46 _ _ rfl (B + 2) S rfl rfl K27.out HSZ.out (by rw [HSL.out]; rfl) HSO.out ?_) | (refine wpList_store_blk rfl 39 _ _ rfl (B + 3) (eR 170) rfl rfl K38.out (by rw [size_rep]; rfl) rfl (eR_one 170) ?_))
  refine bodyPost_ret (v := .tuple #[.agg S.toArray, .agg (eR 170).toArray]) (results_cells2 rfl _ _ (B + 2) (B + 3) rfl rfl M2.out M3.out Try.underlying46 rfl HSZ.out Try.underlying39 rfl (by rw [size_rep]; rfl)) rfl ?_
  exact ⟨rfl, M4.out⟩
set_option maxRecDepth 100000 in
set_option maxHeartbeats 2000000 in
theorem vr_ApB (s : StU RawV) (v vq : Value) (r : ReqU RawV) (w : World) (hs : StTold w v s) (hq : ReqTold w vq r) (h1 : 3 ≤ r.client) :
    Calls Try.prog 27 #[v, vq] w fun e w' => e = .returned (.tuple #[v, .agg (eR 170).toArray]) ∧ Below w.heap.size w w' := by
  obtain ⟨S, p, c0, rfl, hSl, hS1, hS0, hV, hSq, hSr⟩ := st_cells3 hs
  obtain ⟨Q, rfl, hQl, hQ1, hQc, hQs, hQo⟩ := rq_cells hq
  obtain ⟨B, hB⟩ : ∃ B, w.heap.size = B := ⟨_, rfl⟩
  have k0 := Blk.newAt w B hB 46 (c := S.toArray) S rfl
  have z1 : (w.alloc (.cells S.toArray 46)).heap.size = B + 1 := by simp [hB]
  have k1 := Blk.newAt _ (B + 1) z1 60 (c := Q.toArray) Q rfl
  have z2 : ((w.alloc (.cells S.toArray 46)).alloc (.cells Q.toArray 60)).heap.size = B + 2 := by simp [hB]
  have k2 := Blk.newAt _ (B + 2) z2 46 (c := zS.toArray) zS rfl
  have z3 : (((w.alloc (.cells S.toArray 46)).alloc (.cells Q.toArray 60)).alloc (.cells zS.toArray 46)).heap.size = B + 3 := by simp [hB]
  have k3 := Blk.newAt _ (B + 3) z3 39 (c := zRp.toArray) zRp rfl
  have kb := ((((Below.refl w.heap.size w).alloc (Nat.le_refl _) (.cells S.toArray 46)).alloc (by simp) (.cells Q.toArray 60)).alloc (by simp; omega) (.cells zS.toArray 46)).alloc (by simp; omega) (.cells zRp.toArray 39)
  have K05 := Lib.hid (((k0.alloc (.cells Q.toArray 60)).alloc (.cells zS.toArray 46)).alloc (.cells zRp.toArray 39))
  have K15 := Lib.hid ((k1.alloc (.cells zS.toArray 46)).alloc (.cells zRp.toArray 39))
  have K25 := Lib.hid (k2.alloc (.cells zRp.toArray 39))
  have K35 := Lib.hid k3
  have B5 := Lib.hid kb
  have Z3 := Lib.hid z3
  have Z2 := Lib.hid z2
  have HST := Lib.hid hs
  have HSR := Lib.hid hSr
  have HQL := Lib.hid hQl
  have HQ1 := Lib.hid hQ1
  have HQO := Lib.hid hQo
  have HSL := Lib.hid hSl
  have HSO := Lib.hid hS1
  have HSZ : Hid ((Try.prog.info? 46).map (·.size) = some S.length) := Lib.hid (by rw [size_st, hSl])
  have cl0 := K15.out.cellOf hQc
  have cl1 := K15.out.cellOf hQs
  skip
  clear k0 k1 k2 k3 kb z1 z2 z3 hS0 hSl hS1 hV hs hq hQl hQ1 hQc hQs hQo hSr hSq
  generalize r.client = C at *
  generalize r.seq = N at *
  have g0 : ¬ C < 0 := by omega
  go_enter Try.func27, Try.ntmps27
  go_wp2_with (first | (refine wpList_alloc_n rfl 46 rfl (B + 2) Z2.out _ (alloc_st _) ?_) | (refine wpList_alloc_n rfl 39 rfl (B + 3) Z3.out _ (alloc_rep _) ?_))
  generalize (((w.alloc (.cells S.toArray 46)).alloc (.cells Q.toArray 60)).alloc (.cells zS.toArray 46)).alloc (.cells zRp.toArray 39) = w5 at *
  clear Z2 Z3
  have HW : Hid (∀ wx, NewBut w5 wx → Calls Try.prog 34 #[.int .i64 170] wx fun x w' => x = .returned (.agg (eR 170).toArray) ∧ NewBut w5 w') := Lib.hid fun wx hx => (vr_wrong 170 wx).mono fun x w' ⟨q1, q2⟩ => ⟨q1, hx.trans (q2.mono hx.size)⟩
  have HRG : Hid (∀ wx, NewBut w5 wx → wx.rangeAt B 0 S) := Lib.hid fun wx hx => (K05.out.below hx K05.out.lt).whole
  refine region_quiet_tail (C := NewBut w5) 2 mixed (by kernel_rfl) (show Below _ _ _ from (Below.refl _ _).drew) ?_
  simp only [List.take_succ_cons, List.take_zero, List.drop_succ_cons, List.drop_zero]
  repeat (first | (refine wpQuiet_load_row rfl 46 _ rfl B 0 rfl S HRG.out Try.underlying46 rfl HSZ.out ?_) | go_big_quiet_step (fail) | (refine wpQuiet_step (fun K' hK' => ?_); go_simp; first | (refine hK' _ ?_; clear hK' K') | (refine ⟨_, fun _ _ => rfl, hK' _ ?_⟩; clear hK' K') | ((with_reducible refine ⟨_, fun wx hx => HW.out wx hx, hK' _ ?_⟩); clear hK' K')))
  refine wpQuiet_nil ?_
  intro w7 hb7
  have k27 := K25.out.below hb7 K25.out.lt
  have k37 := K35.out.below hb7 K35.out.lt
  have b7 := B5.out.trans (Below.mono hb7 B5.out.size)
  have K27 := Lib.hid k27
  have K38 := Lib.hid (k37.rowOther (show B + 3 ≠ B + 2 by omega) S.toArray)
  have M2 := Lib.hid ((k27.row S (by rw [HSL.out]; rfl)).rowOther (show B + 2 ≠ B + 3 by omega) (eR 170).toArray)
  have M3 := Lib.hid ((k37.rowOther (show B + 3 ≠ B + 2 by omega) S.toArray).row (eR 170) rfl)
  have M4 := Lib.hid (below_setRow (below_setRow b7 (show w.heap.size ≤ B + 2 by omega) S.toArray) (show w.heap.size ≤ B + 3 by omega) (eR 170).toArray)
  clear hb7 k27 k37 b7
  go_wp2_with (first | (refine wpList_store_blk rfl 46 _ _ rfl (B + 2) S rfl rfl K27.out HSZ.out (by rw [HSL.out]; rfl) HSO.out ?_) | (refine wpList_store_blk rfl 39 _ _ rfl (B + 3) (eR 170) rfl rfl K38.out (by rw [size_rep]; rfl) rfl (eR_one 170) ?_))
  refine bodyPost_ret (v := .tuple #[.agg S.toArray, .agg (eR 170).toArray]) (results_cells2 rfl _ _ (B + 2) (B + 3) rfl rfl M2.out M3.out Try.underlying46 rfl HSZ.out Try.underlying39 rfl (by rw [size_rep]; rfl)) rfl ?_
  exact ⟨rfl, M4.out⟩
set_option maxRecDepth 100000 in
set_option maxHeartbeats 2000000 in
theorem vr_ApZ (s : StU RawV) (v vq : Value) (r : ReqU RawV) (w : World) (hs : StTold w v s) (hq : ReqTold w vq r) (c : Nat) (h1 : c < 3) (hc : r.client = (c : Int)) (hz : r.seq = 0) :
    Calls Try.prog 27 #[v, vq] w fun e w' => e = .returned (.tuple #[v, .agg (eR 170).toArray]) ∧ Below w.heap.size w w' := by
  obtain ⟨S, p, c0, rfl, hSl, hS1, hS0, hV, hSq, hSr⟩ := st_cells3 hs
  obtain ⟨Q, rfl, hQl, hQ1, hQc, hQs, hQo⟩ := rq_cells hq
  obtain ⟨B, hB⟩ : ∃ B, w.heap.size = B := ⟨_, rfl⟩
  have k0 := Blk.newAt w B hB 46 (c := S.toArray) S rfl
  have z1 : (w.alloc (.cells S.toArray 46)).heap.size = B + 1 := by simp [hB]
  have k1 := Blk.newAt _ (B + 1) z1 60 (c := Q.toArray) Q rfl
  have z2 : ((w.alloc (.cells S.toArray 46)).alloc (.cells Q.toArray 60)).heap.size = B + 2 := by simp [hB]
  have k2 := Blk.newAt _ (B + 2) z2 46 (c := zS.toArray) zS rfl
  have z3 : (((w.alloc (.cells S.toArray 46)).alloc (.cells Q.toArray 60)).alloc (.cells zS.toArray 46)).heap.size = B + 3 := by simp [hB]
  have k3 := Blk.newAt _ (B + 3) z3 39 (c := zRp.toArray) zRp rfl
  have kb := ((((Below.refl w.heap.size w).alloc (Nat.le_refl _) (.cells S.toArray 46)).alloc (by simp) (.cells Q.toArray 60)).alloc (by simp; omega) (.cells zS.toArray 46)).alloc (by simp; omega) (.cells zRp.toArray 39)
  have K05 := Lib.hid (((k0.alloc (.cells Q.toArray 60)).alloc (.cells zS.toArray 46)).alloc (.cells zRp.toArray 39))
  have K15 := Lib.hid ((k1.alloc (.cells zS.toArray 46)).alloc (.cells zRp.toArray 39))
  have K25 := Lib.hid (k2.alloc (.cells zRp.toArray 39))
  have K35 := Lib.hid k3
  have B5 := Lib.hid kb
  have Z3 := Lib.hid z3
  have Z2 := Lib.hid z2
  have HST := Lib.hid hs
  have HSR := Lib.hid hSr
  have HQL := Lib.hid hQl
  have HQ1 := Lib.hid hQ1
  have HQO := Lib.hid hQo
  have HSL := Lib.hid hSl
  have HSO := Lib.hid hS1
  have HSZ : Hid ((Try.prog.info? 46).map (·.size) = some S.length) := Lib.hid (by rw [size_st, hSl])
  have cl0 := K15.out.cellOf hQc
  have cl1 := K15.out.cellOf hQs
  skip
  clear k0 k1 k2 k3 kb z1 z2 z3 hS0 hSl hS1 hV hs hq hQl hQ1 hQc hQs hQo hSr hSq
  generalize r.client = C at *
  generalize r.seq = N at *
  subst hc
  subst hz
  have g0 : ¬ (c : Int) < 0 := by omega
  have g1 : ¬ (3 : Int) ≤ (c : Int) := by omega
  go_enter Try.func27, Try.ntmps27
  go_wp2_with (first | (refine wpList_alloc_n rfl 46 rfl (B + 2) Z2.out _ (alloc_st _) ?_) | (refine wpList_alloc_n rfl 39 rfl (B + 3) Z3.out _ (alloc_rep _) ?_))
  generalize (((w.alloc (.cells S.toArray 46)).alloc (.cells Q.toArray 60)).alloc (.cells zS.toArray 46)).alloc (.cells zRp.toArray 39) = w5 at *
  clear Z2 Z3
  have HW : Hid (∀ wx, NewBut w5 wx → Calls Try.prog 34 #[.int .i64 170] wx fun x w' => x = .returned (.agg (eR 170).toArray) ∧ NewBut w5 w') := Lib.hid fun wx hx => (vr_wrong 170 wx).mono fun x w' ⟨q1, q2⟩ => ⟨q1, hx.trans (q2.mono hx.size)⟩
  have HRG : Hid (∀ wx, NewBut w5 wx → wx.rangeAt B 0 S) := Lib.hid fun wx hx => (K05.out.below hx K05.out.lt).whole
  refine region_quiet_tail (C := NewBut w5) 2 mixed (by kernel_rfl) (show Below _ _ _ from (Below.refl _ _).drew) ?_
  simp only [List.take_succ_cons, List.take_zero, List.drop_succ_cons, List.drop_zero]
  repeat (first | (refine wpQuiet_load_row rfl 46 _ rfl B 0 rfl S HRG.out Try.underlying46 rfl HSZ.out ?_) | go_big_quiet_step (fail) | (refine wpQuiet_step (fun K' hK' => ?_); go_simp; first | (refine hK' _ ?_; clear hK' K') | (refine ⟨_, fun _ _ => rfl, hK' _ ?_⟩; clear hK' K') | ((with_reducible refine ⟨_, fun wx hx => HW.out wx hx, hK' _ ?_⟩); clear hK' K')))
  refine wpQuiet_nil ?_
  intro w7 hb7
  have k27 := K25.out.below hb7 K25.out.lt
  have k37 := K35.out.below hb7 K35.out.lt
  have b7 := B5.out.trans (Below.mono hb7 B5.out.size)
  have K27 := Lib.hid k27
  have K38 := Lib.hid (k37.rowOther (show B + 3 ≠ B + 2 by omega) S.toArray)
  have M2 := Lib.hid ((k27.row S (by rw [HSL.out]; rfl)).rowOther (show B + 2 ≠ B + 3 by omega) (eR 170).toArray)
  have M3 := Lib.hid ((k37.rowOther (show B + 3 ≠ B + 2 by omega) S.toArray).row (eR 170) rfl)
  have M4 := Lib.hid (below_setRow (below_setRow b7 (show w.heap.size ≤ B + 2 by omega) S.toArray) (show w.heap.size ≤ B + 3 by omega) (eR 170).toArray)
  clear hb7 k27 k37 b7
  go_wp2_with (first | (refine wpList_store_blk rfl 46 _ _ rfl (B + 2) S rfl rfl K27.out HSZ.out (by rw [HSL.out]; rfl) HSO.out ?_) | (refine wpList_store_blk rfl 39 _ _ rfl (B + 3) (eR 170) rfl rfl K38.out (by rw [size_rep]; rfl) rfl (eR_one 170) ?_))
  refine bodyPost_ret (v := .tuple #[.agg S.toArray, .agg (eR 170).toArray]) (results_cells2 rfl _ _ (B + 2) (B + 3) rfl rfl M2.out M3.out Try.underlying46 rfl HSZ.out Try.underlying39 rfl (by rw [size_rep]; rfl)) rfl ?_
  exact ⟨rfl, M4.out⟩
set_option maxRecDepth 100000 in
set_option maxHeartbeats 2000000 in
theorem vr_ApO0 (s : StU RawV) (v vq : Value) (r : ReqU RawV) (w : World) (hs : StTold w v s) (hq : ReqTold w vq r) (hc : r.client = 0) (hz : r.seq ≠ 0) (hlt : r.seq < s.seqs.getD 0 0) :
    Calls Try.prog 27 #[v, vq] w fun e w' => e = .returned (.tuple #[v, .agg (eR 171).toArray]) ∧ Below w.heap.size w w' := by
  obtain ⟨S, p, c0, rfl, hSl, hS1, hS0, hV, hSq, hSr⟩ := st_cells3 hs
  obtain ⟨Q, rfl, hQl, hQ1, hQc, hQs, hQo⟩ := rq_cells hq
  obtain ⟨B, hB⟩ : ∃ B, w.heap.size = B := ⟨_, rfl⟩
  have k0 := Blk.newAt w B hB 46 (c := S.toArray) S rfl
  have z1 : (w.alloc (.cells S.toArray 46)).heap.size = B + 1 := by simp [hB]
  have k1 := Blk.newAt _ (B + 1) z1 60 (c := Q.toArray) Q rfl
  have z2 : ((w.alloc (.cells S.toArray 46)).alloc (.cells Q.toArray 60)).heap.size = B + 2 := by simp [hB]
  have k2 := Blk.newAt _ (B + 2) z2 46 (c := zS.toArray) zS rfl
  have z3 : (((w.alloc (.cells S.toArray 46)).alloc (.cells Q.toArray 60)).alloc (.cells zS.toArray 46)).heap.size = B + 3 := by simp [hB]
  have k3 := Blk.newAt _ (B + 3) z3 39 (c := zRp.toArray) zRp rfl
  have kb := ((((Below.refl w.heap.size w).alloc (Nat.le_refl _) (.cells S.toArray 46)).alloc (by simp) (.cells Q.toArray 60)).alloc (by simp; omega) (.cells zS.toArray 46)).alloc (by simp; omega) (.cells zRp.toArray 39)
  have K05 := Lib.hid (((k0.alloc (.cells Q.toArray 60)).alloc (.cells zS.toArray 46)).alloc (.cells zRp.toArray 39))
  have K15 := Lib.hid ((k1.alloc (.cells zS.toArray 46)).alloc (.cells zRp.toArray 39))
  have K25 := Lib.hid (k2.alloc (.cells zRp.toArray 39))
  have K35 := Lib.hid k3
  have B5 := Lib.hid kb
  have Z3 := Lib.hid z3
  have Z2 := Lib.hid z2
  have HST := Lib.hid hs
  have HSR := Lib.hid hSr
  have HQL := Lib.hid hQl
  have HQ1 := Lib.hid hQ1
  have HQO := Lib.hid hQo
  have HSL := Lib.hid hSl
  have HSO := Lib.hid hS1
  have HSZ : Hid ((Try.prog.info? 46).map (·.size) = some S.length) := Lib.hid (by rw [size_st, hSl])
  have cl0 := K15.out.cellOf hQc
  have cl1 := K15.out.cellOf hQs
  have cl2 : _ = _ := K05.out.cellOf (hSq 0 (by omega))
  rw [show 1 + 0 = 1 by rfl] at cl2
  generalize s.seqs.getD 0 0 = M at *
  clear k0 k1 k2 k3 kb z1 z2 z3 hS0 hSl hS1 hV hs hq hQl hQ1 hQc hQs hQo hSr hSq
  generalize r.client = C at *
  generalize r.seq = N at *
  subst hc
  have g2 : ¬ (N : Int) = 0 := by omega
  have g3 : ¬ (N : Int) = (M : Int) := by omega
  have g4 : (N : Int) < (M : Int) := by omega
  go_enter Try.func27, Try.ntmps27
  go_wp2_with (first | (refine wpList_alloc_n rfl 46 rfl (B + 2) Z2.out _ (alloc_st _) ?_) | (refine wpList_alloc_n rfl 39 rfl (B + 3) Z3.out _ (alloc_rep _) ?_))
  generalize (((w.alloc (.cells S.toArray 46)).alloc (.cells Q.toArray 60)).alloc (.cells zS.toArray 46)).alloc (.cells zRp.toArray 39) = w5 at *
  clear Z2 Z3
  go_quiet (fail)
  go_wp2_with fail
  go_quiet (fail)
  go_wp2_with fail
  have HW : Hid (∀ wx, NewBut w5 wx → Calls Try.prog 34 #[.int .i64 171] wx fun x w' => x = .returned (.agg (eR 171).toArray) ∧ NewBut w5 w') := Lib.hid fun wx hx => (vr_wrong 171 wx).mono fun x w' ⟨q1, q2⟩ => ⟨q1, hx.trans (q2.mono hx.size)⟩
  have HRG : Hid (∀ wx, NewBut w5 wx → wx.rangeAt B 0 S) := Lib.hid fun wx hx => (K05.out.below hx K05.out.lt).whole
  refine region_quiet_tail (C := NewBut w5) 2 mixed (by kernel_rfl) (show Below _ _ _ from (below_drewN (below_drewN (Below.refl _ _) _) _).drew) ?_
  simp only [List.take_succ_cons, List.take_zero, List.drop_succ_cons, List.drop_zero]
  repeat (first | (refine wpQuiet_load_row rfl 46 _ rfl B 0 rfl S HRG.out Try.underlying46 rfl HSZ.out ?_) | go_big_quiet_step (fail) | (refine wpQuiet_step (fun K' hK' => ?_); go_simp; first | (refine hK' _ ?_; clear hK' K') | (refine ⟨_, fun _ _ => rfl, hK' _ ?_⟩; clear hK' K') | ((with_reducible refine ⟨_, fun wx hx => HW.out wx hx, hK' _ ?_⟩); clear hK' K')))
  refine wpQuiet_nil ?_
  intro w7 hb7
  have k27 := K25.out.below hb7 K25.out.lt
  have k37 := K35.out.below hb7 K35.out.lt
  have b7 := B5.out.trans (Below.mono hb7 B5.out.size)
  have K27 := Lib.hid k27
  have K38 := Lib.hid (k37.rowOther (show B + 3 ≠ B + 2 by omega) S.toArray)
  have M2 := Lib.hid ((k27.row S (by rw [HSL.out]; rfl)).rowOther (show B + 2 ≠ B + 3 by omega) (eR 171).toArray)
  have M3 := Lib.hid ((k37.rowOther (show B + 3 ≠ B + 2 by omega) S.toArray).row (eR 171) rfl)
  have M4 := Lib.hid (below_setRow (below_setRow b7 (show w.heap.size ≤ B + 2 by omega) S.toArray) (show w.heap.size ≤ B + 3 by omega) (eR 171).toArray)
  clear hb7 k27 k37 b7
  go_wp2_with (first | (refine wpList_store_blk rfl 46 _ _ rfl (B + 2) S rfl rfl K27.out HSZ.out (by rw [HSL.out]; rfl) HSO.out ?_) | (refine wpList_store_blk rfl 39 _ _ rfl (B + 3) (eR 171) rfl rfl K38.out (by rw [size_rep]; rfl) rfl (eR_one 171) ?_))
  refine bodyPost_ret (v := .tuple #[.agg S.toArray, .agg (eR 171).toArray]) (results_cells2 rfl _ _ (B + 2) (B + 3) rfl rfl M2.out M3.out Try.underlying46 rfl HSZ.out Try.underlying39 rfl (by rw [size_rep]; rfl)) rfl ?_
  exact ⟨rfl, M4.out⟩
set_option maxRecDepth 100000 in
set_option maxHeartbeats 2000000 in
theorem vr_ApO1 (s : StU RawV) (v vq : Value) (r : ReqU RawV) (w : World) (hs : StTold w v s) (hq : ReqTold w vq r) (hc : r.client = 1) (hz : r.seq ≠ 0) (hlt : r.seq < s.seqs.getD 1 0) :
    Calls Try.prog 27 #[v, vq] w fun e w' => e = .returned (.tuple #[v, .agg (eR 171).toArray]) ∧ Below w.heap.size w w' := by
  obtain ⟨S, p, c0, rfl, hSl, hS1, hS0, hV, hSq, hSr⟩ := st_cells3 hs
  obtain ⟨Q, rfl, hQl, hQ1, hQc, hQs, hQo⟩ := rq_cells hq
  obtain ⟨B, hB⟩ : ∃ B, w.heap.size = B := ⟨_, rfl⟩
  have k0 := Blk.newAt w B hB 46 (c := S.toArray) S rfl
  have z1 : (w.alloc (.cells S.toArray 46)).heap.size = B + 1 := by simp [hB]
  have k1 := Blk.newAt _ (B + 1) z1 60 (c := Q.toArray) Q rfl
  have z2 : ((w.alloc (.cells S.toArray 46)).alloc (.cells Q.toArray 60)).heap.size = B + 2 := by simp [hB]
  have k2 := Blk.newAt _ (B + 2) z2 46 (c := zS.toArray) zS rfl
  have z3 : (((w.alloc (.cells S.toArray 46)).alloc (.cells Q.toArray 60)).alloc (.cells zS.toArray 46)).heap.size = B + 3 := by simp [hB]
  have k3 := Blk.newAt _ (B + 3) z3 39 (c := zRp.toArray) zRp rfl
  have kb := ((((Below.refl w.heap.size w).alloc (Nat.le_refl _) (.cells S.toArray 46)).alloc (by simp) (.cells Q.toArray 60)).alloc (by simp; omega) (.cells zS.toArray 46)).alloc (by simp; omega) (.cells zRp.toArray 39)
  have K05 := Lib.hid (((k0.alloc (.cells Q.toArray 60)).alloc (.cells zS.toArray 46)).alloc (.cells zRp.toArray 39))
  have K15 := Lib.hid ((k1.alloc (.cells zS.toArray 46)).alloc (.cells zRp.toArray 39))
  have K25 := Lib.hid (k2.alloc (.cells zRp.toArray 39))
  have K35 := Lib.hid k3
  have B5 := Lib.hid kb
  have Z3 := Lib.hid z3
  have Z2 := Lib.hid z2
  have HST := Lib.hid hs
  have HSR := Lib.hid hSr
  have HQL := Lib.hid hQl
  have HQ1 := Lib.hid hQ1
  have HQO := Lib.hid hQo
  have HSL := Lib.hid hSl
  have HSO := Lib.hid hS1
  have HSZ : Hid ((Try.prog.info? 46).map (·.size) = some S.length) := Lib.hid (by rw [size_st, hSl])
  have cl0 := K15.out.cellOf hQc
  have cl1 := K15.out.cellOf hQs
  have cl2 : _ = _ := K05.out.cellOf (hSq 1 (by omega))
  rw [show 1 + 1 = 2 by rfl] at cl2
  generalize s.seqs.getD 1 0 = M at *
  clear k0 k1 k2 k3 kb z1 z2 z3 hS0 hSl hS1 hV hs hq hQl hQ1 hQc hQs hQo hSr hSq
  generalize r.client = C at *
  generalize r.seq = N at *
  subst hc
  have g2 : ¬ (N : Int) = 0 := by omega
  have g3 : ¬ (N : Int) = (M : Int) := by omega
  have g4 : (N : Int) < (M : Int) := by omega
  go_enter Try.func27, Try.ntmps27
  go_wp2_with (first | (refine wpList_alloc_n rfl 46 rfl (B + 2) Z2.out _ (alloc_st _) ?_) | (refine wpList_alloc_n rfl 39 rfl (B + 3) Z3.out _ (alloc_rep _) ?_))
  generalize (((w.alloc (.cells S.toArray 46)).alloc (.cells Q.toArray 60)).alloc (.cells zS.toArray 46)).alloc (.cells zRp.toArray 39) = w5 at *
  clear Z2 Z3
  go_quiet (fail)
  go_wp2_with fail
  go_quiet (fail)
  go_wp2_with fail
  have HW : Hid (∀ wx, NewBut w5 wx → Calls Try.prog 34 #[.int .i64 171] wx fun x w' => x = .returned (.agg (eR 171).toArray) ∧ NewBut w5 w') := Lib.hid fun wx hx => (vr_wrong 171 wx).mono fun x w' ⟨q1, q2⟩ => ⟨q1, hx.trans (q2.mono hx.size)⟩
  have HRG : Hid (∀ wx, NewBut w5 wx → wx.rangeAt B 0 S) := Lib.hid fun wx hx => (K05.out.below hx K05.out.lt).whole
  refine region_quiet_tail (C := NewBut w5) 2 mixed (by kernel_rfl) (show Below _ _ _ from (below_drewN (below_drewN (Below.refl _ _) _) _).drew) ?_
  simp only [List.take_succ_cons, List.take_zero, List.drop_succ_cons, List.drop_zero]
  repeat (first | (refine wpQuiet_load_row rfl 46 _ rfl B 0 rfl S HRG.out Try.underlying46 rfl HSZ.out ?_) | go_big_quiet_step (fail) | (refine wpQuiet_step (fun K' hK' => ?_); go_simp; first | (refine hK' _ ?_; clear hK' K') | (refine ⟨_, fun _ _ => rfl, hK' _ ?_⟩; clear hK' K') | ((with_reducible refine ⟨_, fun wx hx => HW.out wx hx, hK' _ ?_⟩); clear hK' K')))
  refine wpQuiet_nil ?_
  intro w7 hb7
  have k27 := K25.out.below hb7 K25.out.lt
  have k37 := K35.out.below hb7 K35.out.lt
  have b7 := B5.out.trans (Below.mono hb7 B5.out.size)
  have K27 := Lib.hid k27
  have K38 := Lib.hid (k37.rowOther (show B + 3 ≠ B + 2 by omega) S.toArray)
  have M2 := Lib.hid ((k27.row S (by rw [HSL.out]; rfl)).rowOther (show B + 2 ≠ B + 3 by omega) (eR 171).toArray)
  have M3 := Lib.hid ((k37.rowOther (show B + 3 ≠ B + 2 by omega) S.toArray).row (eR 171) rfl)
  have M4 := Lib.hid (below_setRow (below_setRow b7 (show w.heap.size ≤ B + 2 by omega) S.toArray) (show w.heap.size ≤ B + 3 by omega) (eR 171).toArray)
  clear hb7 k27 k37 b7
  go_wp2_with (first | (refine wpList_store_blk rfl 46 _ _ rfl (B + 2) S rfl rfl K27.out HSZ.out (by rw [HSL.out]; rfl) HSO.out ?_) | (refine wpList_store_blk rfl 39 _ _ rfl (B + 3) (eR 171) rfl rfl K38.out (by rw [size_rep]; rfl) rfl (eR_one 171) ?_))
  refine bodyPost_ret (v := .tuple #[.agg S.toArray, .agg (eR 171).toArray]) (results_cells2 rfl _ _ (B + 2) (B + 3) rfl rfl M2.out M3.out Try.underlying46 rfl HSZ.out Try.underlying39 rfl (by rw [size_rep]; rfl)) rfl ?_
  exact ⟨rfl, M4.out⟩
set_option maxRecDepth 100000 in
set_option maxHeartbeats 2000000 in
theorem vr_ApO2 (s : StU RawV) (v vq : Value) (r : ReqU RawV) (w : World) (hs : StTold w v s) (hq : ReqTold w vq r) (hc : r.client = 2) (hz : r.seq ≠ 0) (hlt : r.seq < s.seqs.getD 2 0) :
    Calls Try.prog 27 #[v, vq] w fun e w' => e = .returned (.tuple #[v, .agg (eR 171).toArray]) ∧ Below w.heap.size w w' := by
  obtain ⟨S, p, c0, rfl, hSl, hS1, hS0, hV, hSq, hSr⟩ := st_cells3 hs
  obtain ⟨Q, rfl, hQl, hQ1, hQc, hQs, hQo⟩ := rq_cells hq
  obtain ⟨B, hB⟩ : ∃ B, w.heap.size = B := ⟨_, rfl⟩
  have k0 := Blk.newAt w B hB 46 (c := S.toArray) S rfl
  have z1 : (w.alloc (.cells S.toArray 46)).heap.size = B + 1 := by simp [hB]
  have k1 := Blk.newAt _ (B + 1) z1 60 (c := Q.toArray) Q rfl
  have z2 : ((w.alloc (.cells S.toArray 46)).alloc (.cells Q.toArray 60)).heap.size = B + 2 := by simp [hB]
  have k2 := Blk.newAt _ (B + 2) z2 46 (c := zS.toArray) zS rfl
  have z3 : (((w.alloc (.cells S.toArray 46)).alloc (.cells Q.toArray 60)).alloc (.cells zS.toArray 46)).heap.size = B + 3 := by simp [hB]
  have k3 := Blk.newAt _ (B + 3) z3 39 (c := zRp.toArray) zRp rfl
  have kb := ((((Below.refl w.heap.size w).alloc (Nat.le_refl _) (.cells S.toArray 46)).alloc (by simp) (.cells Q.toArray 60)).alloc (by simp; omega) (.cells zS.toArray 46)).alloc (by simp; omega) (.cells zRp.toArray 39)
  have K05 := Lib.hid (((k0.alloc (.cells Q.toArray 60)).alloc (.cells zS.toArray 46)).alloc (.cells zRp.toArray 39))
  have K15 := Lib.hid ((k1.alloc (.cells zS.toArray 46)).alloc (.cells zRp.toArray 39))
  have K25 := Lib.hid (k2.alloc (.cells zRp.toArray 39))
  have K35 := Lib.hid k3
  have B5 := Lib.hid kb
  have Z3 := Lib.hid z3
  have Z2 := Lib.hid z2
  have HST := Lib.hid hs
  have HSR := Lib.hid hSr
  have HQL := Lib.hid hQl
  have HQ1 := Lib.hid hQ1
  have HQO := Lib.hid hQo
  have HSL := Lib.hid hSl
  have HSO := Lib.hid hS1
  have HSZ : Hid ((Try.prog.info? 46).map (·.size) = some S.length) := Lib.hid (by rw [size_st, hSl])
  have cl0 := K15.out.cellOf hQc
  have cl1 := K15.out.cellOf hQs
  have cl2 : _ = _ := K05.out.cellOf (hSq 2 (by omega))
  rw [show 1 + 2 = 3 by rfl] at cl2
  generalize s.seqs.getD 2 0 = M at *
  clear k0 k1 k2 k3 kb z1 z2 z3 hS0 hSl hS1 hV hs hq hQl hQ1 hQc hQs hQo hSr hSq
  generalize r.client = C at *
  generalize r.seq = N at *
  subst hc
  have g2 : ¬ (N : Int) = 0 := by omega
  have g3 : ¬ (N : Int) = (M : Int) := by omega
  have g4 : (N : Int) < (M : Int) := by omega
  go_enter Try.func27, Try.ntmps27
  go_wp2_with (first | (refine wpList_alloc_n rfl 46 rfl (B + 2) Z2.out _ (alloc_st _) ?_) | (refine wpList_alloc_n rfl 39 rfl (B + 3) Z3.out _ (alloc_rep _) ?_))
  generalize (((w.alloc (.cells S.toArray 46)).alloc (.cells Q.toArray 60)).alloc (.cells zS.toArray 46)).alloc (.cells zRp.toArray 39) = w5 at *
  clear Z2 Z3
  go_quiet (fail)
  go_wp2_with fail
  go_quiet (fail)
  go_wp2_with fail
  have HW : Hid (∀ wx, NewBut w5 wx → Calls Try.prog 34 #[.int .i64 171] wx fun x w' => x = .returned (.agg (eR 171).toArray) ∧ NewBut w5 w') := Lib.hid fun wx hx => (vr_wrong 171 wx).mono fun x w' ⟨q1, q2⟩ => ⟨q1, hx.trans (q2.mono hx.size)⟩
  have HRG : Hid (∀ wx, NewBut w5 wx → wx.rangeAt B 0 S) := Lib.hid fun wx hx => (K05.out.below hx K05.out.lt).whole
  refine region_quiet_tail (C := NewBut w5) 2 mixed (by kernel_rfl) (show Below _ _ _ from (below_drewN (below_drewN (Below.refl _ _) _) _).drew) ?_
  simp only [List.take_succ_cons, List.take_zero, List.drop_succ_cons, List.drop_zero]
  repeat (first | (refine wpQuiet_load_row rfl 46 _ rfl B 0 rfl S HRG.out Try.underlying46 rfl HSZ.out ?_) | go_big_quiet_step (fail) | (refine wpQuiet_step (fun K' hK' => ?_); go_simp; first | (refine hK' _ ?_; clear hK' K') | (refine ⟨_, fun _ _ => rfl, hK' _ ?_⟩; clear hK' K') | ((with_reducible refine ⟨_, fun wx hx => HW.out wx hx, hK' _ ?_⟩); clear hK' K')))
  refine wpQuiet_nil ?_
  intro w7 hb7
  have k27 := K25.out.below hb7 K25.out.lt
  have k37 := K35.out.below hb7 K35.out.lt
  have b7 := B5.out.trans (Below.mono hb7 B5.out.size)
  have K27 := Lib.hid k27
  have K38 := Lib.hid (k37.rowOther (show B + 3 ≠ B + 2 by omega) S.toArray)
  have M2 := Lib.hid ((k27.row S (by rw [HSL.out]; rfl)).rowOther (show B + 2 ≠ B + 3 by omega) (eR 171).toArray)
  have M3 := Lib.hid ((k37.rowOther (show B + 3 ≠ B + 2 by omega) S.toArray).row (eR 171) rfl)
  have M4 := Lib.hid (below_setRow (below_setRow b7 (show w.heap.size ≤ B + 2 by omega) S.toArray) (show w.heap.size ≤ B + 3 by omega) (eR 171).toArray)
  clear hb7 k27 k37 b7
  go_wp2_with (first | (refine wpList_store_blk rfl 46 _ _ rfl (B + 2) S rfl rfl K27.out HSZ.out (by rw [HSL.out]; rfl) HSO.out ?_) | (refine wpList_store_blk rfl 39 _ _ rfl (B + 3) (eR 171) rfl rfl K38.out (by rw [size_rep]; rfl) rfl (eR_one 171) ?_))
  refine bodyPost_ret (v := .tuple #[.agg S.toArray, .agg (eR 171).toArray]) (results_cells2 rfl _ _ (B + 2) (B + 3) rfl rfl M2.out M3.out Try.underlying46 rfl HSZ.out Try.underlying39 rfl (by rw [size_rep]; rfl)) rfl ?_
  exact ⟨rfl, M4.out⟩
end Go.Proofs.Ytogonbgelaehhaa
namespace Go.Proofs.Ytogonbgelaehhaa
open Go.RowKit
set_option linter.unusedVariables false

def apS (B c : Nat) (S R : List Value) (i : Nat) (v : Value) : Prop :=
  match i with
  | 0 => v = .agg S.toArray
  | 1 => v = .int .i64 (c : Int)
  | 2 => v = .pointer (some ⟨B, 4, none⟩)
  | 3 => v = .pointer (some ⟨B, 4 + c * 6, none⟩)
  | 4 => v = .agg R.toArray
  | _ => True
set_option maxRecDepth 100000 in
set_option maxHeartbeats 4000000 in
theorem vr_ApS0 (s : StU RawV) (v vq : Value) (r : ReqU RawV) (w : World) (lo : Nat) (hs : StTold (er lo w) v s) (hq : ReqTold (er lo w) vq r) (hc : r.client = 0) (hz : r.seq ≠ 0) (he : r.seq = s.seqs.getD 0 0) :
    Calls Try.prog 27 #[v, vq] w fun e w' => ∃ x, e = .returned (.tuple #[v, .agg x.toArray]) ∧ RepOkV (er lo w') x (s.last.getD 0 (wrongU noV 0)) ∧ Below w.heap.size w w' := by
  obtain ⟨S, p, c0, rfl, hSl, hS1, hS0, hV, hSq, hSr⟩ := st_cells3 hs
  obtain ⟨Q, rfl, hQl, hQ1, hQc, hQs, hQo⟩ := rq_cells hq
  obtain ⟨B, hB⟩ : ∃ B, w.heap.size = B := ⟨_, rfl⟩
  have k0 := Blk.newAt w B hB 46 (c := S.toArray) S rfl
  have z1 : (w.alloc (.cells S.toArray 46)).heap.size = B + 1 := by simp [hB]
  have k1 := Blk.newAt _ (B + 1) z1 60 (c := Q.toArray) Q rfl
  have z2 : ((w.alloc (.cells S.toArray 46)).alloc (.cells Q.toArray 60)).heap.size = B + 2 := by simp [hB]
  have k2 := Blk.newAt _ (B + 2) z2 46 (c := zS.toArray) zS rfl
  have z3 : (((w.alloc (.cells S.toArray 46)).alloc (.cells Q.toArray 60)).alloc (.cells zS.toArray 46)).heap.size = B + 3 := by simp [hB]
  have k3 := Blk.newAt _ (B + 3) z3 39 (c := zRp.toArray) zRp rfl
  have kb := ((((Below.refl w.heap.size w).alloc (Nat.le_refl _) (.cells S.toArray 46)).alloc (by simp) (.cells Q.toArray 60)).alloc (by simp; omega) (.cells zS.toArray 46)).alloc (by simp; omega) (.cells zRp.toArray 39)
  have K05 := Lib.hid (((k0.alloc (.cells Q.toArray 60)).alloc (.cells zS.toArray 46)).alloc (.cells zRp.toArray 39))
  have K15 := Lib.hid ((k1.alloc (.cells zS.toArray 46)).alloc (.cells zRp.toArray 39))
  have K25 := Lib.hid (k2.alloc (.cells zRp.toArray 39))
  have K35 := Lib.hid k3
  have B5 := Lib.hid kb
  have Z3 := Lib.hid z3
  have Z2 := Lib.hid z2
  have HST := Lib.hid hs
  have HSR := Lib.hid hSr
  have HQL := Lib.hid hQl
  have HQ1 := Lib.hid hQ1
  have HQO := Lib.hid hQo
  have HSL := Lib.hid hSl
  have HSO := Lib.hid hS1
  have HSZ : Hid ((Try.prog.info? 46).map (·.size) = some S.length) := Lib.hid (by rw [size_st, hSl])
  have cl0 := K15.out.cellOf hQc
  have cl1 := K15.out.cellOf hQs
  have cl2 : _ = _ := K05.out.cellOf (hSq 0 (by omega))
  rw [show 1 + 0 = 1 by rfl] at cl2
  generalize s.seqs.getD 0 0 = M at *
  obtain ⟨R, hRl, hR1, hRc, hRr⟩ := hSr 0 (by decide)
  have HRL := Lib.hid hRl
  have HR1 := Lib.hid hR1
  have HRC := Lib.hid hRc
  have HRR := Lib.hid hRr
  clear hRl hR1 hRc hRr
  clear k0 k1 k2 k3 kb z1 z2 z3 hS0 hSl hS1 hV hs hq hQl hQ1 hQc hQs hQo hSr hSq
  generalize r.client = C at *
  generalize r.seq = N at *
  subst hc
  have g2 : ¬ (N : Int) = 0 := by omega
  have g3 : (N : Int) = (M : Int) := by omega
  go_enter Try.func27, Try.ntmps27
  go_wp2_with (first | (refine wpList_alloc_n rfl 46 rfl (B + 2) Z2.out _ (alloc_st _) ?_) | (refine wpList_alloc_n rfl 39 rfl (B + 3) Z3.out _ (alloc_rep _) ?_))
  generalize (((w.alloc (.cells S.toArray 46)).alloc (.cells Q.toArray 60)).alloc (.cells zS.toArray 46)).alloc (.cells zRp.toArray 39) = w5 at *
  clear Z2 Z3
  go_quiet (fail)
  go_wp2_with fail
  have HCE : Hid (∀ wx, geC w w5 B S false wx ∨ geC w w5 B S true wx → ∀ j x, R[j]? = some x → wx.cell? ((⟨B, 4, none⟩ : Addr).add j) = some x) := Lib.hid fun wx h j x hx => by
    have hb : Blk wx B 46 S := by rcases h with h | h <;> exact h.1
    rw [Addr.add_mid]
    exact hb.cellOf (HRC.out j x hx)
  refine region_mixT 5 6 (by decide) mixed (by kernel_rfl) (by kernel_rfl) (fun u => #[_, _, _, _, _, _, _, _, _, _, _, _, _, _, _, _, _, _, _, _, _, _, _, _, _, _, _, _, _, _, _, u 0, u 1, u 2, u 3, u 4, _, _, _, _, _, _, _, _, _, _, _, _, _, _, _, _, _, _, _, _, _, _, _, _, _, _, _]) [] (fun _ => undef) rfl (geC w w5 B S) (show geC w w5 B S false _ from ⟨K05.out.below (below_drewN (Below.refl _ _) _).drew K05.out.lt, K25.out.below (below_drewN (Below.refl _ _) _).drew K25.out.lt, K35.out.below (below_drewN (Below.refl _ _) _).drew K35.out.lt, B5.out.trans (((below_drewN (Below.refl w5.heap.size w5) _).drew).mono B5.out.size)⟩) (fun _ i v _ => apS B 0 S R i v) ?mono ?step ?one ?last
  case mono => exact fun b i v W W' h _ _ hb => h
  case step =>
    intro bb u W j o hj hjk hneed ho hC hd
    rcases j with _ | _ | _ | _ | _ | _ | j
    all_goals try (simp only [List.getElem?_cons_zero, List.getElem?_cons_succ, Option.some.injEq] at ho; subst ho)
    · have KW := Lib.hid hC.1
      have HC := Lib.hid hC
      clear hC hd
      go_wp2_with (refine wpList_load_blk rfl 46 _ rfl B rfl KW.out Try.underlying46 rfl HSZ.out ?_)
      exact ⟨_, rfl, rfl, HC.out, Below.refl _ _⟩
    · go_wp2_with fail
      exact ⟨_, rfl, rfl, hC, Below.refl _ _⟩
    · go_wp2_with fail
      exact ⟨_, rfl, rfl, hC, Below.refl _ _⟩
    · have h2 : u 2 = .pointer (some ⟨B, 4, none⟩) := hd ⟨2, .data⟩ (by simp) rfl
      have h1 : u 1 = .int .i64 0 := hd ⟨1, .data⟩ (by simp) rfl
      rw [h2, h1]
      go_wp2_with fail
      exact ⟨_, by first | (simp [upd, h2, h1]; done) | (simp [upd, h2, h1]; rfl), rfl, hC, Below.refl _ _⟩
    · have h3 : u 3 = .pointer (some ⟨B, 4, none⟩) := hd ⟨3, .data⟩ (by simp) rfl
      have HCW := Lib.hid (HCE.out W (by cases bb; exact .inl hC; exact .inr hC))
      rw [h3]
      go_wp2_with (refine wpList_load_addr rfl 39 _ rfl ⟨B, 4, none⟩ rfl R HCW.out Try.underlying39 rfl (by rw [size_rep, HRL.out]) ?_)
      exact ⟨_, by first | (simp [upd, h3]; done) | (simp [upd, h3]; rfl), rfl, hC, Below.refl _ _⟩
    · omega
    · omega
  case one =>
    intro u W o ho hC hd
    simp only [List.getElem?_cons_zero, List.getElem?_cons_succ, Option.some.injEq] at ho
    subst ho
    have h0 : u 0 = .agg S.toArray := hd ⟨0, .data⟩ (by simp) rfl
    obtain ⟨k0, k2, k3, hb⟩ := hC
    rw [if_neg (by decide)] at k2
    have KW := Lib.hid k2
    have M0 := Lib.hid (k0.rowOther (show B ≠ B + 2 by omega) S.toArray)
    have M2 := Lib.hid (k2.row S (by rw [HSL.out]; rfl))
    have M3 := Lib.hid (k3.rowOther (show B + 3 ≠ B + 2 by omega) S.toArray)
    have M4 := Lib.hid (below_setRow hb (show w.heap.size ≤ B + 2 by omega) S.toArray)
    clear hd k0 k2 k3 hb
    rw [h0]
    go_wp2_with (refine wpList_store_blk rfl 46 _ _ rfl (B + 2) S rfl rfl KW.out HSZ.out (by rw [HSL.out]; rfl) HSO.out ?_)
    exact ⟨undef, by first | (simp [upd, h0]; done) | (simp [upd, h0]; rfl), trivial, ⟨M0.out, M2.out, M3.out, M4.out⟩, fun i x _ h => h⟩
  case last =>
    intro u W o ho hC hSS
    simp only [List.getElem?_cons_zero, List.getElem?_cons_succ, Option.some.injEq] at ho
    subst ho
    have h4 : u 4 = .agg R.toArray := hSS 4 (by decide)
    obtain ⟨k0, k2, k3, hb⟩ := hC
    rw [if_pos rfl] at k2
    have K3 := Lib.hid k3
    have M2 := Lib.hid (k2.rowOther (show B + 2 ≠ B + 3 by omega) R.toArray)
    have M3 := Lib.hid (k3.row R (by rw [HRL.out]; rfl))
    have m4 := below_setRow hb (show w.heap.size ≤ B + 3 by omega) R.toArray
    have M4 := Lib.hid m4
    have HRP := Lib.hid (HRR.out.below (er_belowS lo m4))
    clear hSS k0 k2 k3 hb m4
    rw [h4]
    go_wp2_with (refine wpList_store_blk rfl 39 _ _ rfl (B + 3) R rfl rfl K3.out (by rw [size_rep, HRL.out]) (by rw [HRL.out]; rfl) HR1.out ?_)
    refine bodyPost_ret (v := .tuple #[.agg S.toArray, .agg R.toArray]) (results_cells2 rfl _ _ (B + 2) (B + 3) rfl rfl M2.out M3.out Try.underlying46 rfl HSZ.out Try.underlying39 rfl (by rw [size_rep, HRL.out])) rfl ?_
    exact ⟨_, rfl, HRP.out, M4.out⟩
set_option maxRecDepth 100000 in
set_option maxHeartbeats 4000000 in
theorem vr_ApS1 (s : StU RawV) (v vq : Value) (r : ReqU RawV) (w : World) (lo : Nat) (hs : StTold (er lo w) v s) (hq : ReqTold (er lo w) vq r) (hc : r.client = 1) (hz : r.seq ≠ 0) (he : r.seq = s.seqs.getD 1 0) :
    Calls Try.prog 27 #[v, vq] w fun e w' => ∃ x, e = .returned (.tuple #[v, .agg x.toArray]) ∧ RepOkV (er lo w') x (s.last.getD 1 (wrongU noV 0)) ∧ Below w.heap.size w w' := by
  obtain ⟨S, p, c0, rfl, hSl, hS1, hS0, hV, hSq, hSr⟩ := st_cells3 hs
  obtain ⟨Q, rfl, hQl, hQ1, hQc, hQs, hQo⟩ := rq_cells hq
  obtain ⟨B, hB⟩ : ∃ B, w.heap.size = B := ⟨_, rfl⟩
  have k0 := Blk.newAt w B hB 46 (c := S.toArray) S rfl
  have z1 : (w.alloc (.cells S.toArray 46)).heap.size = B + 1 := by simp [hB]
  have k1 := Blk.newAt _ (B + 1) z1 60 (c := Q.toArray) Q rfl
  have z2 : ((w.alloc (.cells S.toArray 46)).alloc (.cells Q.toArray 60)).heap.size = B + 2 := by simp [hB]
  have k2 := Blk.newAt _ (B + 2) z2 46 (c := zS.toArray) zS rfl
  have z3 : (((w.alloc (.cells S.toArray 46)).alloc (.cells Q.toArray 60)).alloc (.cells zS.toArray 46)).heap.size = B + 3 := by simp [hB]
  have k3 := Blk.newAt _ (B + 3) z3 39 (c := zRp.toArray) zRp rfl
  have kb := ((((Below.refl w.heap.size w).alloc (Nat.le_refl _) (.cells S.toArray 46)).alloc (by simp) (.cells Q.toArray 60)).alloc (by simp; omega) (.cells zS.toArray 46)).alloc (by simp; omega) (.cells zRp.toArray 39)
  have K05 := Lib.hid (((k0.alloc (.cells Q.toArray 60)).alloc (.cells zS.toArray 46)).alloc (.cells zRp.toArray 39))
  have K15 := Lib.hid ((k1.alloc (.cells zS.toArray 46)).alloc (.cells zRp.toArray 39))
  have K25 := Lib.hid (k2.alloc (.cells zRp.toArray 39))
  have K35 := Lib.hid k3
  have B5 := Lib.hid kb
  have Z3 := Lib.hid z3
  have Z2 := Lib.hid z2
  have HST := Lib.hid hs
  have HSR := Lib.hid hSr
  have HQL := Lib.hid hQl
  have HQ1 := Lib.hid hQ1
  have HQO := Lib.hid hQo
  have HSL := Lib.hid hSl
  have HSO := Lib.hid hS1
  have HSZ : Hid ((Try.prog.info? 46).map (·.size) = some S.length) := Lib.hid (by rw [size_st, hSl])
  have cl0 := K15.out.cellOf hQc
  have cl1 := K15.out.cellOf hQs
  have cl2 : _ = _ := K05.out.cellOf (hSq 1 (by omega))
  rw [show 1 + 1 = 2 by rfl] at cl2
  generalize s.seqs.getD 1 0 = M at *
  obtain ⟨R, hRl, hR1, hRc, hRr⟩ := hSr 1 (by decide)
  have HRL := Lib.hid hRl
  have HR1 := Lib.hid hR1
  have HRC := Lib.hid hRc
  have HRR := Lib.hid hRr
  clear hRl hR1 hRc hRr
  clear k0 k1 k2 k3 kb z1 z2 z3 hS0 hSl hS1 hV hs hq hQl hQ1 hQc hQs hQo hSr hSq
  generalize r.client = C at *
  generalize r.seq = N at *
  subst hc
  have g2 : ¬ (N : Int) = 0 := by omega
  have g3 : (N : Int) = (M : Int) := by omega
  go_enter Try.func27, Try.ntmps27
  go_wp2_with (first | (refine wpList_alloc_n rfl 46 rfl (B + 2) Z2.out _ (alloc_st _) ?_) | (refine wpList_alloc_n rfl 39 rfl (B + 3) Z3.out _ (alloc_rep _) ?_))
  generalize (((w.alloc (.cells S.toArray 46)).alloc (.cells Q.toArray 60)).alloc (.cells zS.toArray 46)).alloc (.cells zRp.toArray 39) = w5 at *
  clear Z2 Z3
  go_quiet (fail)
  go_wp2_with fail
  have HCE : Hid (∀ wx, geC w w5 B S false wx ∨ geC w w5 B S true wx → ∀ j x, R[j]? = some x → wx.cell? ((⟨B, 10, none⟩ : Addr).add j) = some x) := Lib.hid fun wx h j x hx => by
    have hb : Blk wx B 46 S := by rcases h with h | h <;> exact h.1
    rw [Addr.add_mid]
    exact hb.cellOf (HRC.out j x hx)
  refine region_mixT 5 6 (by decide) mixed (by kernel_rfl) (by kernel_rfl) (fun u => #[_, _, _, _, _, _, _, _, _, _, _, _, _, _, _, _, _, _, _, _, _, _, _, _, _, _, _, _, _, _, _, u 0, u 1, u 2, u 3, u 4, _, _, _, _, _, _, _, _, _, _, _, _, _, _, _, _, _, _, _, _, _, _, _, _, _, _, _]) [] (fun _ => undef) rfl (geC w w5 B S) (show geC w w5 B S false _ from ⟨K05.out.below (below_drewN (Below.refl _ _) _).drew K05.out.lt, K25.out.below (below_drewN (Below.refl _ _) _).drew K25.out.lt, K35.out.below (below_drewN (Below.refl _ _) _).drew K35.out.lt, B5.out.trans (((below_drewN (Below.refl w5.heap.size w5) _).drew).mono B5.out.size)⟩) (fun _ i v _ => apS B 1 S R i v) ?mono ?step ?one ?last
  case mono => exact fun b i v W W' h _ _ hb => h
  case step =>
    intro bb u W j o hj hjk hneed ho hC hd
    rcases j with _ | _ | _ | _ | _ | _ | j
    all_goals try (simp only [List.getElem?_cons_zero, List.getElem?_cons_succ, Option.some.injEq] at ho; subst ho)
    · have KW := Lib.hid hC.1
      have HC := Lib.hid hC
      clear hC hd
      go_wp2_with (refine wpList_load_blk rfl 46 _ rfl B rfl KW.out Try.underlying46 rfl HSZ.out ?_)
      exact ⟨_, rfl, rfl, HC.out, Below.refl _ _⟩
    · go_wp2_with fail
      exact ⟨_, rfl, rfl, hC, Below.refl _ _⟩
    · go_wp2_with fail
      exact ⟨_, rfl, rfl, hC, Below.refl _ _⟩
    · have h2 : u 2 = .pointer (some ⟨B, 4, none⟩) := hd ⟨2, .data⟩ (by simp) rfl
      have h1 : u 1 = .int .i64 1 := hd ⟨1, .data⟩ (by simp) rfl
      rw [h2, h1]
      go_wp2_with fail
      exact ⟨_, by first | (simp [upd, h2, h1]; done) | (simp [upd, h2, h1]; rfl), rfl, hC, Below.refl _ _⟩
    · have h3 : u 3 = .pointer (some ⟨B, 10, none⟩) := hd ⟨3, .data⟩ (by simp) rfl
      have HCW := Lib.hid (HCE.out W (by cases bb; exact .inl hC; exact .inr hC))
      rw [h3]
      go_wp2_with (refine wpList_load_addr rfl 39 _ rfl ⟨B, 10, none⟩ rfl R HCW.out Try.underlying39 rfl (by rw [size_rep, HRL.out]) ?_)
      exact ⟨_, by first | (simp [upd, h3]; done) | (simp [upd, h3]; rfl), rfl, hC, Below.refl _ _⟩
    · omega
    · omega
  case one =>
    intro u W o ho hC hd
    simp only [List.getElem?_cons_zero, List.getElem?_cons_succ, Option.some.injEq] at ho
    subst ho
    have h0 : u 0 = .agg S.toArray := hd ⟨0, .data⟩ (by simp) rfl
    obtain ⟨k0, k2, k3, hb⟩ := hC
    rw [if_neg (by decide)] at k2
    have KW := Lib.hid k2
    have M0 := Lib.hid (k0.rowOther (show B ≠ B + 2 by omega) S.toArray)
    have M2 := Lib.hid (k2.row S (by rw [HSL.out]; rfl))
    have M3 := Lib.hid (k3.rowOther (show B + 3 ≠ B + 2 by omega) S.toArray)
    have M4 := Lib.hid (below_setRow hb (show w.heap.size ≤ B + 2 by omega) S.toArray)
    clear hd k0 k2 k3 hb
    rw [h0]
    go_wp2_with (refine wpList_store_blk rfl 46 _ _ rfl (B + 2) S rfl rfl KW.out HSZ.out (by rw [HSL.out]; rfl) HSO.out ?_)
    exact ⟨undef, by first | (simp [upd, h0]; done) | (simp [upd, h0]; rfl), trivial, ⟨M0.out, M2.out, M3.out, M4.out⟩, fun i x _ h => h⟩
  case last =>
    intro u W o ho hC hSS
    simp only [List.getElem?_cons_zero, List.getElem?_cons_succ, Option.some.injEq] at ho
    subst ho
    have h4 : u 4 = .agg R.toArray := hSS 4 (by decide)
    obtain ⟨k0, k2, k3, hb⟩ := hC
    rw [if_pos rfl] at k2
    have K3 := Lib.hid k3
    have M2 := Lib.hid (k2.rowOther (show B + 2 ≠ B + 3 by omega) R.toArray)
    have M3 := Lib.hid (k3.row R (by rw [HRL.out]; rfl))
    have m4 := below_setRow hb (show w.heap.size ≤ B + 3 by omega) R.toArray
    have M4 := Lib.hid m4
    have HRP := Lib.hid (HRR.out.below (er_belowS lo m4))
    clear hSS k0 k2 k3 hb m4
    rw [h4]
    go_wp2_with (refine wpList_store_blk rfl 39 _ _ rfl (B + 3) R rfl rfl K3.out (by rw [size_rep, HRL.out]) (by rw [HRL.out]; rfl) HR1.out ?_)
    refine bodyPost_ret (v := .tuple #[.agg S.toArray, .agg R.toArray]) (results_cells2 rfl _ _ (B + 2) (B + 3) rfl rfl M2.out M3.out Try.underlying46 rfl HSZ.out Try.underlying39 rfl (by rw [size_rep, HRL.out])) rfl ?_
    exact ⟨_, rfl, HRP.out, M4.out⟩
set_option maxRecDepth 100000 in
set_option maxHeartbeats 4000000 in
theorem vr_ApS2 (s : StU RawV) (v vq : Value) (r : ReqU RawV) (w : World) (lo : Nat) (hs : StTold (er lo w) v s) (hq : ReqTold (er lo w) vq r) (hc : r.client = 2) (hz : r.seq ≠ 0) (he : r.seq = s.seqs.getD 2 0) :
    Calls Try.prog 27 #[v, vq] w fun e w' => ∃ x, e = .returned (.tuple #[v, .agg x.toArray]) ∧ RepOkV (er lo w') x (s.last.getD 2 (wrongU noV 0)) ∧ Below w.heap.size w w' := by
  obtain ⟨S, p, c0, rfl, hSl, hS1, hS0, hV, hSq, hSr⟩ := st_cells3 hs
  obtain ⟨Q, rfl, hQl, hQ1, hQc, hQs, hQo⟩ := rq_cells hq
  obtain ⟨B, hB⟩ : ∃ B, w.heap.size = B := ⟨_, rfl⟩
  have k0 := Blk.newAt w B hB 46 (c := S.toArray) S rfl
  have z1 : (w.alloc (.cells S.toArray 46)).heap.size = B + 1 := by simp [hB]
  have k1 := Blk.newAt _ (B + 1) z1 60 (c := Q.toArray) Q rfl
  have z2 : ((w.alloc (.cells S.toArray 46)).alloc (.cells Q.toArray 60)).heap.size = B + 2 := by simp [hB]
  have k2 := Blk.newAt _ (B + 2) z2 46 (c := zS.toArray) zS rfl
  have z3 : (((w.alloc (.cells S.toArray 46)).alloc (.cells Q.toArray 60)).alloc (.cells zS.toArray 46)).heap.size = B + 3 := by simp [hB]
  have k3 := Blk.newAt _ (B + 3) z3 39 (c := zRp.toArray) zRp rfl
  have kb := ((((Below.refl w.heap.size w).alloc (Nat.le_refl _) (.cells S.toArray 46)).alloc (by simp) (.cells Q.toArray 60)).alloc (by simp; omega) (.cells zS.toArray 46)).alloc (by simp; omega) (.cells zRp.toArray 39)
  have K05 := Lib.hid (((k0.alloc (.cells Q.toArray 60)).alloc (.cells zS.toArray 46)).alloc (.cells zRp.toArray 39))
  have K15 := Lib.hid ((k1.alloc (.cells zS.toArray 46)).alloc (.cells zRp.toArray 39))
  have K25 := Lib.hid (k2.alloc (.cells zRp.toArray 39))
  have K35 := Lib.hid k3
  have B5 := Lib.hid kb
  have Z3 := Lib.hid z3
  have Z2 := Lib.hid z2
  have HST := Lib.hid hs
  have HSR := Lib.hid hSr
  have HQL := Lib.hid hQl
  have HQ1 := Lib.hid hQ1
  have HQO := Lib.hid hQo
  have HSL := Lib.hid hSl
  have HSO := Lib.hid hS1
  have HSZ : Hid ((Try.prog.info? 46).map (·.size) = some S.length) := Lib.hid (by rw [size_st, hSl])
  have cl0 := K15.out.cellOf hQc
  have cl1 := K15.out.cellOf hQs
  have cl2 : _ = _ := K05.out.cellOf (hSq 2 (by omega))
  rw [show 1 + 2 = 3 by rfl] at cl2
  generalize s.seqs.getD 2 0 = M at *
  obtain ⟨R, hRl, hR1, hRc, hRr⟩ := hSr 2 (by decide)
  have HRL := Lib.hid hRl
  have HR1 := Lib.hid hR1
  have HRC := Lib.hid hRc
  have HRR := Lib.hid hRr
  clear hRl hR1 hRc hRr
  clear k0 k1 k2 k3 kb z1 z2 z3 hS0 hSl hS1 hV hs hq hQl hQ1 hQc hQs hQo hSr hSq
  generalize r.client = C at *
  generalize r.seq = N at *
  subst hc
  have g2 : ¬ (N : Int) = 0 := by omega
  have g3 : (N : Int) = (M : Int) := by omega
  go_enter Try.func27, Try.ntmps27
  go_wp2_with (first | (refine wpList_alloc_n rfl 46 rfl (B + 2) Z2.out _ (alloc_st _) ?_) | (refine wpList_alloc_n rfl 39 rfl (B + 3) Z3.out _ (alloc_rep _) ?_))
  generalize (((w.alloc (.cells S.toArray 46)).alloc (.cells Q.toArray 60)).alloc (.cells zS.toArray 46)).alloc (.cells zRp.toArray 39) = w5 at *
  clear Z2 Z3
  go_quiet (fail)
  go_wp2_with fail
  have HCE : Hid (∀ wx, geC w w5 B S false wx ∨ geC w w5 B S true wx → ∀ j x, R[j]? = some x → wx.cell? ((⟨B, 16, none⟩ : Addr).add j) = some x) := Lib.hid fun wx h j x hx => by
    have hb : Blk wx B 46 S := by rcases h with h | h <;> exact h.1
    rw [Addr.add_mid]
    exact hb.cellOf (HRC.out j x hx)
  refine region_mixT 5 6 (by decide) mixed (by kernel_rfl) (by kernel_rfl) (fun u => #[_, _, _, _, _, _, _, _, _, _, _, _, _, _, _, _, _, _, _, _, _, _, _, _, _, _, _, _, _, _, _, u 0, u 1, u 2, u 3, u 4, _, _, _, _, _, _, _, _, _, _, _, _, _, _, _, _, _, _, _, _, _, _, _, _, _, _, _]) [] (fun _ => undef) rfl (geC w w5 B S) (show geC w w5 B S false _ from ⟨K05.out.below (below_drewN (Below.refl _ _) _).drew K05.out.lt, K25.out.below (below_drewN (Below.refl _ _) _).drew K25.out.lt, K35.out.below (below_drewN (Below.refl _ _) _).drew K35.out.lt, B5.out.trans (((below_drewN (Below.refl w5.heap.size w5) _).drew).mono B5.out.size)⟩) (fun _ i v _ => apS B 2 S R i v) ?mono ?step ?one ?last
  case mono => exact fun b i v W W' h _ _ hb => h
  case step =>
    intro bb u W j o hj hjk hneed ho hC hd
    rcases j with _ | _ | _ | _ | _ | _ | j
    all_goals try (simp only [List.getElem?_cons_zero, List.getElem?_cons_succ, Option.some.injEq] at ho; subst ho)
    · have KW := Lib.hid hC.1
      have HC := Lib.hid hC
      clear hC hd
      go_wp2_with (refine wpList_load_blk rfl 46 _ rfl B rfl KW.out Try.underlying46 rfl HSZ.out ?_)
      exact ⟨_, rfl, rfl, HC.out, Below.refl _ _⟩
    · go_wp2_with fail
      exact ⟨_, rfl, rfl, hC, Below.refl _ _⟩
    · go_wp2_with fail
      exact ⟨_, rfl, rfl, hC, Below.refl _ _⟩
    · have h2 : u 2 = .pointer (some ⟨B, 4, none⟩) := hd ⟨2, .data⟩ (by simp) rfl
      have h1 : u 1 = .int .i64 2 := hd ⟨1, .data⟩ (by simp) rfl
      rw [h2, h1]
      go_wp2_with fail
      exact ⟨_, by first | (simp [upd, h2, h1]; done) | (simp [upd, h2, h1]; rfl), rfl, hC, Below.refl _ _⟩
    · have h3 : u 3 = .pointer (some ⟨B, 16, none⟩) := hd ⟨3, .data⟩ (by simp) rfl
      have HCW := Lib.hid (HCE.out W (by cases bb; exact .inl hC; exact .inr hC))
      rw [h3]
      go_wp2_with (refine wpList_load_addr rfl 39 _ rfl ⟨B, 16, none⟩ rfl R HCW.out Try.underlying39 rfl (by rw [size_rep, HRL.out]) ?_)
      exact ⟨_, by first | (simp [upd, h3]; done) | (simp [upd, h3]; rfl), rfl, hC, Below.refl _ _⟩
    · omega
    · omega
  case one =>
    intro u W o ho hC hd
    simp only [List.getElem?_cons_zero, List.getElem?_cons_succ, Option.some.injEq] at ho
    subst ho
    have h0 : u 0 = .agg S.toArray := hd ⟨0, .data⟩ (by simp) rfl
    obtain ⟨k0, k2, k3, hb⟩ := hC
    rw [if_neg (by decide)] at k2
    have KW := Lib.hid k2
    have M0 := Lib.hid (k0.rowOther (show B ≠ B + 2 by omega) S.toArray)
    have M2 := Lib.hid (k2.row S (by rw [HSL.out]; rfl))
    have M3 := Lib.hid (k3.rowOther (show B + 3 ≠ B + 2 by omega) S.toArray)
    have M4 := Lib.hid (below_setRow hb (show w.heap.size ≤ B + 2 by omega) S.toArray)
    clear hd k0 k2 k3 hb
    rw [h0]
    go_wp2_with (refine wpList_store_blk rfl 46 _ _ rfl (B + 2) S rfl rfl KW.out HSZ.out (by rw [HSL.out]; rfl) HSO.out ?_)
    exact ⟨undef, by first | (simp [upd, h0]; done) | (simp [upd, h0]; rfl), trivial, ⟨M0.out, M2.out, M3.out, M4.out⟩, fun i x _ h => h⟩
  case last =>
    intro u W o ho hC hSS
    simp only [List.getElem?_cons_zero, List.getElem?_cons_succ, Option.some.injEq] at ho
    subst ho
    have h4 : u 4 = .agg R.toArray := hSS 4 (by decide)
    obtain ⟨k0, k2, k3, hb⟩ := hC
    rw [if_pos rfl] at k2
    have K3 := Lib.hid k3
    have M2 := Lib.hid (k2.rowOther (show B + 2 ≠ B + 3 by omega) R.toArray)
    have M3 := Lib.hid (k3.row R (by rw [HRL.out]; rfl))
    have m4 := below_setRow hb (show w.heap.size ≤ B + 3 by omega) R.toArray
    have M4 := Lib.hid m4
    have HRP := Lib.hid (HRR.out.below (er_belowS lo m4))
    clear hSS k0 k2 k3 hb m4
    rw [h4]
    go_wp2_with (refine wpList_store_blk rfl 39 _ _ rfl (B + 3) R rfl rfl K3.out (by rw [size_rep, HRL.out]) (by rw [HRL.out]; rfl) HR1.out ?_)
    refine bodyPost_ret (v := .tuple #[.agg S.toArray, .agg R.toArray]) (results_cells2 rfl _ _ (B + 2) (B + 3) rfl rfl M2.out M3.out Try.underlying46 rfl HSZ.out Try.underlying39 rfl (by rw [size_rep, HRL.out])) rfl ?_
    exact ⟨_, rfl, HRP.out, M4.out⟩
end Go.Proofs.Ytogonbgelaehhaa
namespace Go.Proofs.Ytogonbgelaehhaa
open Go.RowKit
set_option linter.unusedVariables false

theorem below_then {a b c : World} (k : Below b.heap.size b c) (h : Below a.heap.size a b) : Below a.heap.size a c := h.trans (k.mono h.size)
theorem OpTold.below {w w' : World} {v : Value} {kind : Int} {id : Nat} {a : RawV} (h : OpTold w v kind id a) (hb : Below w.heap.size w w') : OpTold w' v kind id a := by
  obtain ⟨q, e, h1⟩ := h
  exact ⟨q, e, h1.below hb⟩
/-- a client's number and reply are set in a state's cells -/
def updS (c : Nat) (S : List Value) (N : Nat) (X : List Value) : List Value := (S.set (1 + c) (.int .u32 (N : Int))).take (4 + c * 6) ++ (X ++ (S.set (1 + c) (.int .u32 (N : Int))).drop (4 + c * 6 + 6))
theorem st_upd {w : World} {S X : List Value} {s : StU RawV} {x : RepU RawV} {c N : Nat} (hc : c < 3) (h : StTold w (.agg S.toArray) s) (hx : RepOkV w X x) (hN : N < 4294967296) :
    StTold w (.agg (updS c S N X).toArray) ⟨s.vers, s.seqs.set c N, s.last.set c x⟩ ∧ (updS c S N X).length = 22 ∧ (updS c S N X).toArray.all (·.oneCell') = true := by
  obtain ⟨vv, s0, s1, s2, r0, r1, r2, x0, x1, x2, e, hV, hq, hl, ⟨b0, b1, b2⟩, h0, h1, h2⟩ := h
  have e' : S = cellsS vv s0 s1 s2 r0 r1 r2 := by
    have := congrArg (fun v => match v with | Value.agg c => c.toList | _ => []) e
    simpa using this
  subst e'
  obtain ⟨p, c0, rfl⟩ := hV.isSlice
  have k0 := h0.row
  have k1 := h1.row
  have k2 := h2.row
  have kx := hx.row
  obtain ⟨_, _, _, _, _, _, _, _, e0⟩ := k0
  obtain ⟨_, _, _, _, _, _, _, _, e1⟩ := k1
  obtain ⟨_, _, _, _, _, _, _, _, e2⟩ := k2
  obtain ⟨_, _, _, _, _, _, _, _, ex⟩ := kx
  have key : ∃ t0 t1 t2 q0 q1 q2 y0 y1 y2, updS c (cellsS (.slice p s.vers.length c0) s0 s1 s2 r0 r1 r2) N X = cellsS (.slice p s.vers.length c0) t0 t1 t2 q0 q1 q2 ∧ s.seqs.set c N = [t0, t1, t2] ∧ s.last.set c x = [y0, y1, y2] ∧ (t0 < 4294967296 ∧ t1 < 4294967296 ∧ t2 < 4294967296) ∧ RepOkV w q0 y0 ∧ RepOkV w q1 y1 ∧ RepOkV w q2 y2 := by
    rw [hq, hl]
    have : c = 0 ∨ c = 1 ∨ c = 2 := by omega
    rcases this with rfl | rfl | rfl
    · exact ⟨N, s1, s2, X, r1, r2, x, x1, x2, by rw [e0, e1, e2, ex]; rfl, rfl, rfl, ⟨hN, b1, b2⟩, hx, h1, h2⟩
    · exact ⟨s0, N, s2, r0, X, r2, x0, x, x2, by rw [e0, e1, e2, ex]; rfl, rfl, rfl, ⟨b0, hN, b2⟩, h0, hx, h2⟩
    · exact ⟨s0, s1, N, r0, r1, X, x0, x1, x, by rw [e0, e1, e2, ex]; rfl, rfl, rfl, ⟨b0, b1, hN⟩, h0, h1, hx⟩
  obtain ⟨t0, t1, t2, q0, q1, q2, y0, y1, y2, eu, g1, g2, g3, g4, g5, g6⟩ := key
  have := cellsS_one (vv := .slice p s.vers.length c0) (s0 := t0) (s1 := t1) (s2 := t2) ⟨_, _, _, rfl⟩ g4 g5 g6
  rw [eu]
  exact ⟨⟨_, t0, t1, t2, q0, q1, q2, y0, y1, y2, rfl, hV, g1, g2, g3, g4, g5, g6⟩, this.2, this.1⟩
def ApRet (lo : Nat) (s : StU RawV) (x : RepU RawV) (w : World) (e : Ending) (w' : World) : Prop :=
  ∃ v' r, e = .returned (.tuple #[v', .agg r.toArray]) ∧ StTold (er lo w') v' s ∧ RepOkV (er lo w') r x ∧ Below w.heap.size w w'
def apC (w : World) (lo B D : Nat) (S X : List Value) (s : StU RawV) (x : RepU RawV) (b : Bool) (W : World) : Prop :=
  Blk W D 46 S ∧ Blk W (D + 1) 39 X ∧ Blk W (B + 2) 46 (if b then S else zS) ∧ Blk W (B + 3) 39 zRp ∧ Below w.heap.size w W ∧ StTold (er lo W) (.agg S.toArray) s ∧ RepOkV (er lo W) X x
theorem er_drew (lo : Nat) (w : World) : er lo w.drew = (er lo w).drew := rfl
theorem apC.drew {w : World} {lo B D : Nat} {S X : List Value} {s : StU RawV} {x : RepU RawV} {b : Bool} {W : World} (h : apC w lo B D S X s x b W) : apC w lo B D S X s x b W.drew := by
  obtain ⟨k0, k1, k2, k3, hb, ht, hr⟩ := h
  exact ⟨k0, k1, k2, k3, hb.drew, by rw [er_drew]; exact ht.below (Below.refl _ _).drew, by rw [er_drew]; exact hr.below (Below.refl _ _).drew⟩
def apT (U X : List Value) (i : Nat) (v : Value) : Prop :=
  match i with
  | 0 => v = .agg U.toArray
  | 1 => v = .agg X.toArray
  | _ => True
theorem upd_cut (c : Nat) (S X : List Value) (N : Nat) (hS : S.length = 22) (hc : c < 3) : S.set (1 + c) (.int .u32 (N : Int)) = (S.set (1 + c) (.int .u32 (N : Int))).take (4 + c * 6) ++ (((S.set (1 + c) (.int .u32 (N : Int))).drop (4 + c * 6)).take 6 ++ (S.set (1 + c) (.int .u32 (N : Int))).drop (4 + c * 6 + 6)) := by
  generalize 4 + c * 6 = n
  generalize S.set (1 + c) (.int .u32 (N : Int)) = L
  rw [← List.drop_drop (i := 6) (j := n), List.take_append_drop, List.take_append_drop]
set_option maxRecDepth 100000 in
set_option maxHeartbeats 1000000 in
theorem vr_ApD0 (s : StU RawV) (v vq : Value) (r : ReqU RawV) (w : World) (lo : Nat) (hlo : lo ≤ w.heap.size) (hs : StTold (er lo w) v s) (hq : ReqTold (er lo w) vq r) (hl : s.vers.length ≤ 1000000) (hid : r.id < 4294967296) (hsq : r.seq < 4294967296) (ha : r.ver.ok) (hn : r.ver.bl.length ≤ 1000 ∧ r.ver.ns.length ≤ 1000 ∧ r.ver.zs.length ≤ 1000) (hc : r.client = 0) (hz : r.seq ≠ 0) (hgt : s.seqs.getD 0 0 < r.seq) :
    Calls Try.prog 27 #[v, vq] w (ApRet lo ⟨(doR s.vers r.kind r.id r.ver).1, s.seqs.set 0 r.seq, s.last.set 0 (doR s.vers r.kind r.id r.ver).2⟩ (doR s.vers r.kind r.id r.ver).2 w) := by
  obtain ⟨S, p, c0, rfl, hSl, hS1, hS0, hV, hSq, hSr⟩ := st_cells3 hs
  obtain ⟨Q, rfl, hQl, hQ1, hQc, hQs, hQo⟩ := rq_cells hq
  obtain ⟨B, hB⟩ : ∃ B, w.heap.size = B := ⟨_, rfl⟩
  have k0 := Blk.newAt w B hB 46 (c := S.toArray) S rfl
  have z1 : (w.alloc (.cells S.toArray 46)).heap.size = B + 1 := by simp [hB]
  have k1 := Blk.newAt _ (B + 1) z1 60 (c := Q.toArray) Q rfl
  have z2 : ((w.alloc (.cells S.toArray 46)).alloc (.cells Q.toArray 60)).heap.size = B + 2 := by simp [hB]
  have k2 := Blk.newAt _ (B + 2) z2 46 (c := zS.toArray) zS rfl
  have z3 : (((w.alloc (.cells S.toArray 46)).alloc (.cells Q.toArray 60)).alloc (.cells zS.toArray 46)).heap.size = B + 3 := by simp [hB]
  have k3 := Blk.newAt _ (B + 3) z3 39 (c := zRp.toArray) zRp rfl
  have kb := ((((Below.refl w.heap.size w).alloc (Nat.le_refl _) (.cells S.toArray 46)).alloc (by simp) (.cells Q.toArray 60)).alloc (by simp; omega) (.cells zS.toArray 46)).alloc (by simp; omega) (.cells zRp.toArray 39)
  have K05 := Lib.hid (((k0.alloc (.cells Q.toArray 60)).alloc (.cells zS.toArray 46)).alloc (.cells zRp.toArray 39))
  have K15 := Lib.hid ((k1.alloc (.cells zS.toArray 46)).alloc (.cells zRp.toArray 39))
  have K25 := Lib.hid (k2.alloc (.cells zRp.toArray 39))
  have K35 := Lib.hid k3
  have B5 := Lib.hid kb
  have Z3 := Lib.hid z3
  have Z2 := Lib.hid z2
  have HST := Lib.hid hs
  have HSR := Lib.hid hSr
  have HQL := Lib.hid hQl
  have HQ1 := Lib.hid hQ1
  have HQO := Lib.hid hQo
  have HSL := Lib.hid hSl
  have HSO := Lib.hid hS1
  have HSZ : Hid ((Try.prog.info? 46).map (·.size) = some S.length) := Lib.hid (by rw [size_st, hSl])
  have cl0 := K15.out.cellOf hQc
  have cl1 := K15.out.cellOf hQs
  have cl2 : _ = _ := K05.out.cellOf (hSq 0 (by omega))
  rw [show 1 + 0 = 1 by rfl] at cl2
  generalize s.seqs.getD 0 0 = M at *
  have HDO : Hid (∀ wx, Below w.heap.size w wx → Calls Try.prog 22 #[.agg S.toArray, .agg (Q.drop 2).toArray] wx (DoRet lo s (doR s.vers r.kind r.id r.ver).1 (doR s.vers r.kind r.id r.ver).2 wx)) := Lib.hid fun wx hb => vr_Do s _ _ r.kind r.id r.ver wx lo (Nat.le_trans hlo hb.size) (HST.out.below (er_belowS lo hb)) (HQO.out.below (er_belowS lo hb)) hl hid ha hn
  have HLC : Hid (∀ wx, Blk wx (B + 1) 60 Q → ∀ j x, (Q.drop 2)[j]? = some x → wx.cell? ((⟨B + 1, 2, none⟩ : Addr).add j) = some x) := Lib.hid fun wx h j x hx => by
    rw [List.getElem?_drop] at hx
    rw [Addr.add_mid]
    exact h.cellOf hx
  have HDL : Hid ((Try.prog.info? 30).map (·.size) = some (Q.drop 2).length) := Lib.hid (by rw [size_op, List.length_drop, HQL.out])
  have HLO := Lib.hid hlo
  have HSQ := Lib.hid hsq
  have HQS := Lib.hid hQs
  generalize doR s.vers r.kind r.id r.ver = RES at *
  clear hl hid ha hn hlo hsq HQO
  clear k0 k1 k2 k3 kb z1 z2 z3 hS0 hSl hS1 hV hs hq hQl hQ1 hQc hQs hQo hSr hSq
  generalize r.client = C at *
  generalize r.seq = N at *
  subst hc
  have g2 : ¬ (N : Int) = 0 := by omega
  have g3 : ¬ (N : Int) = (M : Int) := by omega
  have g4 : ¬ (N : Int) < (M : Int) := by omega
  go_enter Try.func27, Try.ntmps27
  go_wp2_with (first | (refine wpList_alloc_n rfl 46 rfl (B + 2) Z2.out _ (alloc_st _) ?_) | (refine wpList_alloc_n rfl 39 rfl (B + 3) Z3.out _ (alloc_rep _) ?_))
  generalize (((w.alloc (.cells S.toArray 46)).alloc (.cells Q.toArray 60)).alloc (.cells zS.toArray 46)).alloc (.cells zRp.toArray 39) = w5 at *
  clear Z2 Z3
  go_quiet (fail)
  go_wp2_with fail
  go_quiet (fail)
  have B8 : ∀ a b, Below w5.heap.size w5 ((w5.drewN a).drewN b) := fun a b => below_drewN (below_drewN (Below.refl _ _) _) _
  generalize hw8 : World.drewN (World.drewN w5 _) _ = w8
  have h58 : Below w5.heap.size w5 w8 := by rw [← hw8]; exact B8 _ _
  have K08 := Lib.hid (K05.out.below h58 K05.out.lt)
  have K18 := Lib.hid (K15.out.below h58 K15.out.lt)
  have H58 := Lib.hid h58
  clear hw8 B8 h58
  go_wp2_with (first | (refine wpList_load_blk rfl 46 _ rfl B rfl K08.out Try.underlying46 rfl HSZ.out ?_) | (refine wpList_load_addr rfl 30 _ rfl ⟨B + 1, 2, none⟩ rfl (Q.drop 2) (HLC.out _ K18.out) Try.underlying30 rfl HDL.out ?_))
  refine (HDO.out _ (B5.out.trans (H58.out.mono B5.out.size))).mono ?_
  rintro e w6 ⟨v', X, rfl, hst, hrx, hb6⟩
  have h56 : Below w5.heap.size w5 w6 := below_then hb6 H58.out
  have hw6 : Below w.heap.size w w6 := B5.out.trans (h56.mono B5.out.size)
  have hBD : B + 3 < w6.heap.size := Nat.lt_of_lt_of_le K35.out.lt h56.size
  obtain ⟨T, _, _, rfl, hTl, hT1, _, _⟩ := st_cells hst
  have hXl := hrx.len
  have hX1 : X.toArray.all (·.oneCell') = true := by
    have k := hrx.row
    obtain ⟨_, _, _, _, _, _, _, _, e⟩ := k
    rw [e]
    simp [cellsR, Value.oneCell']
  obtain ⟨D, hD⟩ : ∃ D, w6.heap.size = D := ⟨_, rfl⟩
  have a0 := Blk.newAt w6 D hD 46 (c := zS.toArray) zS rfl
  have y1 : (w6.alloc (.cells zS.toArray 46)).heap.size = D + 1 := by simp [hD]
  have a1 := Blk.newAt _ (D + 1) y1 39 (c := zRp.toArray) zRp rfl
  have ab := ((Below.refl w6.heap.size w6).alloc (Nat.le_refl _) (.cells zS.toArray 46)).alloc (by simp) (.cells zRp.toArray 39)
  have a0' := a0.alloc (.cells zRp.toArray 39)
  have b0 := (a0'.row T (by rw [hTl]; rfl)).rowOther (show D ≠ D + 1 by omega) X.toArray
  have b1 := (a1.rowOther (show D + 1 ≠ D by omega) T.toArray).row X (by rw [hXl]; rfl)
  have bb := below_setRow (below_setRow ab (show w6.heap.size ≤ D by omega) T.toArray) (show w6.heap.size ≤ D + 1 by omega) X.toArray
  have c1 := ((K15.out.below h56 K15.out.lt).below bb (K15.out.below h56 K15.out.lt).lt).cellOf HQS.out
  have A0 := Lib.hid a0'
  have A1 := Lib.hid (a1.rowOther (show D + 1 ≠ D by omega) T.toArray)
  have HDS := Lib.hid hD
  have Y1 := Lib.hid y1
  have P0 := Lib.hid b0
  have P1 := Lib.hid b1
  have P2 := Lib.hid ((K25.out.below h56 K25.out.lt).below bb (by rw [hD]; omega))
  have P3 := Lib.hid ((K35.out.below h56 K35.out.lt).below bb (by rw [hD]; omega))
  have PB := Lib.hid bb
  have HW6 := Lib.hid hw6
  have HSTT := Lib.hid hst
  have HRX := Lib.hid hrx
  have HTL := Lib.hid hTl
  have HT1 := Lib.hid hT1
  have HXL := Lib.hid hXl
  have HX1 := Lib.hid hX1
  have HBD := Lib.hid hBD
  have cd : ((((w6.alloc (.cells zS.toArray 46)).alloc (.cells zRp.toArray 39)).setRow D T.toArray).setRow (D + 1) X.toArray).cell? ⟨D, 1, none⟩ = some (T.getD 1 undef) := b0.cellOf (by rw [List.getD_eq_getElem?_getD, List.getElem?_eq_getElem (by rw [hTl]; decide)]; rfl)
  have fd := b0.free 1
  generalize T.getD 1 undef = y at cd
  have e0 := b0.set 1 (.int .u32 (N : Int))
  have e1 := b1.other (a := ⟨D, 1, none⟩) (show D ≠ D + 1 by omega) (.int .u32 (N : Int))
  have hcut := upd_cut 0 T X N hTl (by decide)
  rw [show 1 + 0 = 1 by rfl] at hcut
  rw [hcut] at e0
  have be := (below_setRow (below_setRow ab (show w6.heap.size ≤ D by omega) T.toArray) (show w6.heap.size ≤ D + 1 by omega) X.toArray).setCell (p := ⟨D, 1, none⟩) (show w6.heap.size ≤ D by omega) (.int .u32 (N : Int))
  have l1 : 4 = ((T.set 1 (.int .u32 (N : Int))).take (4 + 0 * 6)).length := by rw [List.length_take, List.length_set, hTl]; rfl
  have l2 : (((T.set 1 (.int .u32 (N : Int))).drop (4 + 0 * 6)).take 6).length = X.length := by rw [List.length_take, List.length_drop, List.length_set, hTl, hXl]; rfl
  have E0 := Lib.hid e0
  have E1 := Lib.hid e1
  have BE := Lib.hid be
  have L1 := Lib.hid l1
  have L2 := Lib.hid l2
  clear hst hrx hb6 h56 hw6 hBD hTl hT1 hXl hX1 hD a0 y1 a1 ab a0' b0 b1 bb e0 e1 be hcut l1 l2
  go_upto_region 9 with (first | (refine wpList_alloc_n rfl 46 rfl D HDS.out _ (alloc_st _) ?_) | (refine wpList_alloc_n rfl 39 rfl (D + 1) Y1.out _ (alloc_rep _) ?_) | (refine wpList_store_blk rfl 46 _ _ rfl D T rfl rfl A0.out (by rw [size_st, HTL.out]) (by rw [HTL.out]; rfl) HT1.out ?_) | (refine wpList_store_blk rfl 39 _ _ rfl (D + 1) X rfl rfl A1.out (by rw [size_rep, HXL.out]) (by rw [HXL.out]; rfl) HX1.out ?_))
  go_upto_region 10 with (fail)
  go_wp2_with (first | (refine wpList_load_blk rfl 39 _ rfl (D + 1) rfl E1.out Try.underlying39 rfl (by rw [size_rep, HXL.out]) ?_) | (refine wpList_store_part rfl 39 _ _ rfl D 4 rfl X rfl _ _ _ E0.out L1.out L2.out (by rw [size_rep, HXL.out]) HX1.out ?_; intro w9 k9 b9 e9; have K9 := Lib.hid k9; have BN9 := Lib.hid b9; have E9 := Lib.hid e9; clear k9 b9 e9))
  have B69 : Below w6.heap.size w6 w9 := BE.out.trans (BN9.out.mono (by rw [HDS.out]; exact Nat.le_refl _))
  have hup := st_upd (c := 0) (N := N) (by decide) (HSTT.out.below (er_belowS lo B69)) (HRX.out.below (er_belowS lo B69)) HSQ.out
  have k9 : Blk w9 D 46 (updS 0 T N X) := K9.out
  have k91 : Blk w9 (D + 1) 39 X := by rw [E9.out]; exact setCells_otherB (by omega) _ _ _ E1.out
  have k92 : Blk w9 (B + 2) 46 zS := by
    have h0 : w9.heap[B + 2]? = _ := BN9.out.block (B + 2) (by have := HBD.out; have := HDS.out; omega)
    unfold Blk
    rw [h0, Below.heap_setCell _ _ _ _ (by have := HBD.out; have := HDS.out; simp; omega)]
    exact P2.out
  have k93 : Blk w9 (B + 3) 39 zRp := by
    have h0 : w9.heap[B + 3]? = _ := BN9.out.block (B + 3) (by have := HBD.out; have := HDS.out; omega)
    unfold Blk
    rw [h0, Below.heap_setCell _ _ _ _ (by have := HBD.out; have := HDS.out; simp; omega)]
    exact P3.out
  have C0 : Hid (apC w lo B D (updS 0 T N X) X ⟨RES.1, s.seqs.set 0 N, s.last.set 0 RES.2⟩ RES.2 false w9) := Lib.hid ⟨k9, k91, k92, k93, HW6.out.trans (B69.mono HW6.out.size), hup.1, HRX.out.below (er_belowS lo B69)⟩
  have HUL := Lib.hid hup.2.1
  have HU1 := Lib.hid hup.2.2
  have hBD2 : B + 3 < D := by have := HBD.out; have := HDS.out; omega
  have hloB : lo ≤ B := by rw [← hB]; exact HLO.out
  generalize updS 0 T N X = U at *
  clear B69 hup k9 k91 k92 k93 K9 BN9 E9 E0 E1 BE L1 L2 P0 P1 P2 P3 PB A0 A1 HSTT
  refine region_mixT 2 3 (by decide) mixed (by kernel_rfl) (by kernel_rfl) (fun u => #[_, _, _, _, _, _, _, _, _, _, _, _, _, _, _, _, _, _, _, _, _, _, _, _, _, _, _, _, _, _, _, _, _, _, _, _, _, _, _, _, _, _, _, _, _, _, _, _, _, _, _, _, _, _, _, _, _, _, _, _, _, u 0, u 1]) [] (fun _ => undef) rfl (apC w lo B D U X ⟨RES.1, s.seqs.set 0 N, s.last.set 0 RES.2⟩ RES.2) (show apC _ _ _ _ _ _ _ _ _ _ from C0.out.drew) (fun _ i v _ => apT U X i v) ?mono ?step ?one ?last
  case mono => exact fun b i v W W' h _ _ hb => h
  case step =>
    intro bb u W j o hj hjk hneed ho hC hd
    rcases j with _ | _ | _ | j
    all_goals try (simp only [List.getElem?_cons_zero, List.getElem?_cons_succ, Option.some.injEq] at ho; subst ho)
    · have KW := Lib.hid hC.1
      have HC := Lib.hid hC
      clear hC hd
      go_wp2_with (refine wpList_load_blk rfl 46 _ rfl D rfl KW.out Try.underlying46 rfl (by rw [size_st, HUL.out]) ?_)
      exact ⟨_, rfl, rfl, HC.out, Below.refl _ _⟩
    · have KW := Lib.hid hC.2.1
      have HC := Lib.hid hC
      clear hC hd
      go_wp2_with (refine wpList_load_blk rfl 39 _ rfl (D + 1) rfl KW.out Try.underlying39 rfl (by rw [size_rep, HXL.out]) ?_)
      exact ⟨_, rfl, rfl, HC.out, Below.refl _ _⟩
    · omega
    · omega
  case one =>
    intro u W o ho hC hd
    simp only [List.getElem?_cons_zero, List.getElem?_cons_succ, Option.some.injEq] at ho
    subst ho
    have h0 : u 0 = .agg U.toArray := hd ⟨0, .data⟩ (by simp) rfl
    obtain ⟨k0, k1, k2, k3, hb, ht, hr⟩ := hC
    rw [if_neg (by decide)] at k2
    have KW := Lib.hid k2
    have he := er_setRow lo k2 (by decide) (show lo ≤ B + 2 by omega) U.toArray
    have MM : Hid (apC w lo B D U X ⟨RES.1, s.seqs.set 0 N, s.last.set 0 RES.2⟩ RES.2 true (W.setRow (B + 2) U.toArray)) := Lib.hid ⟨k0.rowOther (show D ≠ B + 2 by omega) _, k1.rowOther (show D + 1 ≠ B + 2 by omega) _, k2.row U (by rw [HUL.out]; rfl), k3.rowOther (show B + 3 ≠ B + 2 by omega) _, below_setRow hb (show w.heap.size ≤ B + 2 by omega) _, by rw [he]; exact ht, by rw [he]; exact hr⟩
    clear hd k0 k1 k2 k3 hb ht hr he
    rw [h0]
    go_wp2_with (refine wpList_store_blk rfl 46 _ _ rfl (B + 2) U rfl rfl KW.out (by rw [size_st, HUL.out]) (by rw [HUL.out]; rfl) HU1.out ?_)
    exact ⟨undef, by first | (simp [upd, h0]; done) | (simp [upd, h0]; rfl), trivial, MM.out, fun i x _ h => h⟩
  case last =>
    intro u W o ho hC hSS
    simp only [List.getElem?_cons_zero, List.getElem?_cons_succ, Option.some.injEq] at ho
    subst ho
    have h1 : u 1 = .agg X.toArray := hSS 1 (by decide)
    obtain ⟨k0, k1, k2, k3, hb, ht, hr⟩ := hC
    rw [if_pos rfl] at k2
    have K3 := Lib.hid k3
    have he := er_setRow lo k3 (by decide) (show lo ≤ B + 3 by omega) X.toArray
    have M2 := Lib.hid (k2.rowOther (show B + 2 ≠ B + 3 by omega) X.toArray)
    have M3 := Lib.hid (k3.row X (by rw [HXL.out]; rfl))
    have M4 := Lib.hid (below_setRow hb (show w.heap.size ≤ B + 3 by omega) X.toArray)
    rw [← he] at ht hr
    have M5 := Lib.hid ht
    have M6 := Lib.hid hr
    clear hSS k0 k1 k2 k3 hb ht hr he
    rw [h1]
    go_wp2_with (refine wpList_store_blk rfl 39 _ _ rfl (B + 3) X rfl rfl K3.out (by rw [size_rep, HXL.out]) (by rw [HXL.out]; rfl) HX1.out ?_)
    refine bodyPost_ret (v := .tuple #[.agg U.toArray, .agg X.toArray]) (results_cells2 rfl _ _ (B + 2) (B + 3) rfl rfl M2.out M3.out Try.underlying46 rfl (by rw [size_st, HUL.out]) Try.underlying39 rfl (by rw [size_rep, HXL.out])) rfl ?_
    exact ⟨_, _, rfl, M5.out, M6.out, M4.out⟩
set_option maxRecDepth 100000 in
set_option maxHeartbeats 1000000 in
theorem vr_ApD1 (s : StU RawV) (v vq : Value) (r : ReqU RawV) (w : World) (lo : Nat) (hlo : lo ≤ w.heap.size) (hs : StTold (er lo w) v s) (hq : ReqTold (er lo w) vq r) (hl : s.vers.length ≤ 1000000) (hid : r.id < 4294967296) (hsq : r.seq < 4294967296) (ha : r.ver.ok) (hn : r.ver.bl.length ≤ 1000 ∧ r.ver.ns.length ≤ 1000 ∧ r.ver.zs.length ≤ 1000) (hc : r.client = 1) (hz : r.seq ≠ 0) (hgt : s.seqs.getD 1 0 < r.seq) :
    Calls Try.prog 27 #[v, vq] w (ApRet lo ⟨(doR s.vers r.kind r.id r.ver).1, s.seqs.set 1 r.seq, s.last.set 1 (doR s.vers r.kind r.id r.ver).2⟩ (doR s.vers r.kind r.id r.ver).2 w) := by
  obtain ⟨S, p, c0, rfl, hSl, hS1, hS0, hV, hSq, hSr⟩ := st_cells3 hs
  obtain ⟨Q, rfl, hQl, hQ1, hQc, hQs, hQo⟩ := rq_cells hq
  obtain ⟨B, hB⟩ : ∃ B, w.heap.size = B := ⟨_, rfl⟩
  have k0 := Blk.newAt w B hB 46 (c := S.toArray) S rfl
  have z1 : (w.alloc (.cells S.toArray 46)).heap.size = B + 1 := by simp [hB]
  have k1 := Blk.newAt _ (B + 1) z1 60 (c := Q.toArray) Q rfl
  have z2 : ((w.alloc (.cells S.toArray 46)).alloc (.cells Q.toArray 60)).heap.size = B + 2 := by simp [hB]
  have k2 := Blk.newAt _ (B + 2) z2 46 (c := zS.toArray) zS rfl
  have z3 : (((w.alloc (.cells S.toArray 46)).alloc (.cells Q.toArray 60)).alloc (.cells zS.toArray 46)).heap.size = B + 3 := by simp [hB]
  have k3 := Blk.newAt _ (B + 3) z3 39 (c := zRp.toArray) zRp rfl
  have kb := ((((Below.refl w.heap.size w).alloc (Nat.le_refl _) (.cells S.toArray 46)).alloc (by simp) (.cells Q.toArray 60)).alloc (by simp; omega) (.cells zS.toArray 46)).alloc (by simp; omega) (.cells zRp.toArray 39)
  have K05 := Lib.hid (((k0.alloc (.cells Q.toArray 60)).alloc (.cells zS.toArray 46)).alloc (.cells zRp.toArray 39))
  have K15 := Lib.hid ((k1.alloc (.cells zS.toArray 46)).alloc (.cells zRp.toArray 39))
  have K25 := Lib.hid (k2.alloc (.cells zRp.toArray 39))
  have K35 := Lib.hid k3
  have B5 := Lib.hid kb
  have Z3 := Lib.hid z3
  have Z2 := Lib.hid z2
  have HST := Lib.hid hs
  have HSR := Lib.hid hSr
  have HQL := Lib.hid hQl
  have HQ1 := Lib.hid hQ1
  have HQO := Lib.hid hQo
  have HSL := Lib.hid hSl
  have HSO := Lib.hid hS1
  have HSZ : Hid ((Try.prog.info? 46).map (·.size) = some S.length) := Lib.hid (by rw [size_st, hSl])
  have cl0 := K15.out.cellOf hQc
  have cl1 := K15.out.cellOf hQs
  have cl2 : _ = _ := K05.out.cellOf (hSq 1 (by omega))
  rw [show 1 + 1 = 2 by rfl] at cl2
  generalize s.seqs.getD 1 0 = M at *
  have HDO : Hid (∀ wx, Below w.heap.size w wx → Calls Try.prog 22 #[.agg S.toArray, .agg (Q.drop 2).toArray] wx (DoRet lo s (doR s.vers r.kind r.id r.ver).1 (doR s.vers r.kind r.id r.ver).2 wx)) := Lib.hid fun wx hb => vr_Do s _ _ r.kind r.id r.ver wx lo (Nat.le_trans hlo hb.size) (HST.out.below (er_belowS lo hb)) (HQO.out.below (er_belowS lo hb)) hl hid ha hn
  have HLC : Hid (∀ wx, Blk wx (B + 1) 60 Q → ∀ j x, (Q.drop 2)[j]? = some x → wx.cell? ((⟨B + 1, 2, none⟩ : Addr).add j) = some x) := Lib.hid fun wx h j x hx => by
    rw [List.getElem?_drop] at hx
    rw [Addr.add_mid]
    exact h.cellOf hx
  have HDL : Hid ((Try.prog.info? 30).map (·.size) = some (Q.drop 2).length) := Lib.hid (by rw [size_op, List.length_drop, HQL.out])
  have HLO := Lib.hid hlo
  have HSQ := Lib.hid hsq
  have HQS := Lib.hid hQs
  generalize doR s.vers r.kind r.id r.ver = RES at *
  clear hl hid ha hn hlo hsq HQO
  clear k0 k1 k2 k3 kb z1 z2 z3 hS0 hSl hS1 hV hs hq hQl hQ1 hQc hQs hQo hSr hSq
  generalize r.client = C at *
  generalize r.seq = N at *
  subst hc
  have g2 : ¬ (N : Int) = 0 := by omega
  have g3 : ¬ (N : Int) = (M : Int) := by omega
  have g4 : ¬ (N : Int) < (M : Int) := by omega
  go_enter Try.func27, Try.ntmps27
  go_wp2_with (first | (refine wpList_alloc_n rfl 46 rfl (B + 2) Z2.out _ (alloc_st _) ?_) | (refine wpList_alloc_n rfl 39 rfl (B + 3) Z3.out _ (alloc_rep _) ?_))
  generalize (((w.alloc (.cells S.toArray 46)).alloc (.cells Q.toArray 60)).alloc (.cells zS.toArray 46)).alloc (.cells zRp.toArray 39) = w5 at *
  clear Z2 Z3
  go_quiet (fail)
  go_wp2_with fail
  go_quiet (fail)
  have B8 : ∀ a b, Below w5.heap.size w5 ((w5.drewN a).drewN b) := fun a b => below_drewN (below_drewN (Below.refl _ _) _) _
  generalize hw8 : World.drewN (World.drewN w5 _) _ = w8
  have h58 : Below w5.heap.size w5 w8 := by rw [← hw8]; exact B8 _ _
  have K08 := Lib.hid (K05.out.below h58 K05.out.lt)
  have K18 := Lib.hid (K15.out.below h58 K15.out.lt)
  have H58 := Lib.hid h58
  clear hw8 B8 h58
  go_wp2_with (first | (refine wpList_load_blk rfl 46 _ rfl B rfl K08.out Try.underlying46 rfl HSZ.out ?_) | (refine wpList_load_addr rfl 30 _ rfl ⟨B + 1, 2, none⟩ rfl (Q.drop 2) (HLC.out _ K18.out) Try.underlying30 rfl HDL.out ?_))
  refine (HDO.out _ (B5.out.trans (H58.out.mono B5.out.size))).mono ?_
  rintro e w6 ⟨v', X, rfl, hst, hrx, hb6⟩
  have h56 : Below w5.heap.size w5 w6 := below_then hb6 H58.out
  have hw6 : Below w.heap.size w w6 := B5.out.trans (h56.mono B5.out.size)
  have hBD : B + 3 < w6.heap.size := Nat.lt_of_lt_of_le K35.out.lt h56.size
  obtain ⟨T, _, _, rfl, hTl, hT1, _, _⟩ := st_cells hst
  have hXl := hrx.len
  have hX1 : X.toArray.all (·.oneCell') = true := by
    have k := hrx.row
    obtain ⟨_, _, _, _, _, _, _, _, e⟩ := k
    rw [e]
    simp [cellsR, Value.oneCell']
  obtain ⟨D, hD⟩ : ∃ D, w6.heap.size = D := ⟨_, rfl⟩
  have a0 := Blk.newAt w6 D hD 46 (c := zS.toArray) zS rfl
  have y1 : (w6.alloc (.cells zS.toArray 46)).heap.size = D + 1 := by simp [hD]
  have a1 := Blk.newAt _ (D + 1) y1 39 (c := zRp.toArray) zRp rfl
  have ab := ((Below.refl w6.heap.size w6).alloc (Nat.le_refl _) (.cells zS.toArray 46)).alloc (by simp) (.cells zRp.toArray 39)
  have a0' := a0.alloc (.cells zRp.toArray 39)
  have b0 := (a0'.row T (by rw [hTl]; rfl)).rowOther (show D ≠ D + 1 by omega) X.toArray
  have b1 := (a1.rowOther (show D + 1 ≠ D by omega) T.toArray).row X (by rw [hXl]; rfl)
  have bb := below_setRow (below_setRow ab (show w6.heap.size ≤ D by omega) T.toArray) (show w6.heap.size ≤ D + 1 by omega) X.toArray
  have c1 := ((K15.out.below h56 K15.out.lt).below bb (K15.out.below h56 K15.out.lt).lt).cellOf HQS.out
  have A0 := Lib.hid a0'
  have A1 := Lib.hid (a1.rowOther (show D + 1 ≠ D by omega) T.toArray)
  have HDS := Lib.hid hD
  have Y1 := Lib.hid y1
  have P0 := Lib.hid b0
  have P1 := Lib.hid b1
  have P2 := Lib.hid ((K25.out.below h56 K25.out.lt).below bb (by rw [hD]; omega))
  have P3 := Lib.hid ((K35.out.below h56 K35.out.lt).below bb (by rw [hD]; omega))
  have PB := Lib.hid bb
  have HW6 := Lib.hid hw6
  have HSTT := Lib.hid hst
  have HRX := Lib.hid hrx
  have HTL := Lib.hid hTl
  have HT1 := Lib.hid hT1
  have HXL := Lib.hid hXl
  have HX1 := Lib.hid hX1
  have HBD := Lib.hid hBD
  have cd : ((((w6.alloc (.cells zS.toArray 46)).alloc (.cells zRp.toArray 39)).setRow D T.toArray).setRow (D + 1) X.toArray).cell? ⟨D, 2, none⟩ = some (T.getD 2 undef) := b0.cellOf (by rw [List.getD_eq_getElem?_getD, List.getElem?_eq_getElem (by rw [hTl]; decide)]; rfl)
  have fd := b0.free 2
  generalize T.getD 2 undef = y at cd
  have e0 := b0.set 2 (.int .u32 (N : Int))
  have e1 := b1.other (a := ⟨D, 2, none⟩) (show D ≠ D + 1 by omega) (.int .u32 (N : Int))
  have hcut := upd_cut 1 T X N hTl (by decide)
  rw [show 1 + 1 = 2 by rfl] at hcut
  rw [hcut] at e0
  have be := (below_setRow (below_setRow ab (show w6.heap.size ≤ D by omega) T.toArray) (show w6.heap.size ≤ D + 1 by omega) X.toArray).setCell (p := ⟨D, 2, none⟩) (show w6.heap.size ≤ D by omega) (.int .u32 (N : Int))
  have l1 : 10 = ((T.set 2 (.int .u32 (N : Int))).take (4 + 1 * 6)).length := by rw [List.length_take, List.length_set, hTl]; rfl
  have l2 : (((T.set 2 (.int .u32 (N : Int))).drop (4 + 1 * 6)).take 6).length = X.length := by rw [List.length_take, List.length_drop, List.length_set, hTl, hXl]; rfl
  have E0 := Lib.hid e0
  have E1 := Lib.hid e1
  have BE := Lib.hid be
  have L1 := Lib.hid l1
  have L2 := Lib.hid l2
  clear hst hrx hb6 h56 hw6 hBD hTl hT1 hXl hX1 hD a0 y1 a1 ab a0' b0 b1 bb e0 e1 be hcut l1 l2
  go_upto_region 9 with (first | (refine wpList_alloc_n rfl 46 rfl D HDS.out _ (alloc_st _) ?_) | (refine wpList_alloc_n rfl 39 rfl (D + 1) Y1.out _ (alloc_rep _) ?_) | (refine wpList_store_blk rfl 46 _ _ rfl D T rfl rfl A0.out (by rw [size_st, HTL.out]) (by rw [HTL.out]; rfl) HT1.out ?_) | (refine wpList_store_blk rfl 39 _ _ rfl (D + 1) X rfl rfl A1.out (by rw [size_rep, HXL.out]) (by rw [HXL.out]; rfl) HX1.out ?_))
  go_upto_region 10 with (fail)
  go_wp2_with (first | (refine wpList_load_blk rfl 39 _ rfl (D + 1) rfl E1.out Try.underlying39 rfl (by rw [size_rep, HXL.out]) ?_) | (refine wpList_store_part rfl 39 _ _ rfl D 10 rfl X rfl _ _ _ E0.out L1.out L2.out (by rw [size_rep, HXL.out]) HX1.out ?_; intro w9 k9 b9 e9; have K9 := Lib.hid k9; have BN9 := Lib.hid b9; have E9 := Lib.hid e9; clear k9 b9 e9))
  have B69 : Below w6.heap.size w6 w9 := BE.out.trans (BN9.out.mono (by rw [HDS.out]; exact Nat.le_refl _))
  have hup := st_upd (c := 1) (N := N) (by decide) (HSTT.out.below (er_belowS lo B69)) (HRX.out.below (er_belowS lo B69)) HSQ.out
  have k9 : Blk w9 D 46 (updS 1 T N X) := K9.out
  have k91 : Blk w9 (D + 1) 39 X := by rw [E9.out]; exact setCells_otherB (by omega) _ _ _ E1.out
  have k92 : Blk w9 (B + 2) 46 zS := by
    have h0 : w9.heap[B + 2]? = _ := BN9.out.block (B + 2) (by have := HBD.out; have := HDS.out; omega)
    unfold Blk
    rw [h0, Below.heap_setCell _ _ _ _ (by have := HBD.out; have := HDS.out; simp; omega)]
    exact P2.out
  have k93 : Blk w9 (B + 3) 39 zRp := by
    have h0 : w9.heap[B + 3]? = _ := BN9.out.block (B + 3) (by have := HBD.out; have := HDS.out; omega)
    unfold Blk
    rw [h0, Below.heap_setCell _ _ _ _ (by have := HBD.out; have := HDS.out; simp; omega)]
    exact P3.out
  have C0 : Hid (apC w lo B D (updS 1 T N X) X ⟨RES.1, s.seqs.set 1 N, s.last.set 1 RES.2⟩ RES.2 false w9) := Lib.hid ⟨k9, k91, k92, k93, HW6.out.trans (B69.mono HW6.out.size), hup.1, HRX.out.below (er_belowS lo B69)⟩
  have HUL := Lib.hid hup.2.1
  have HU1 := Lib.hid hup.2.2
  have hBD2 : B + 3 < D := by have := HBD.out; have := HDS.out; omega
  have hloB : lo ≤ B := by rw [← hB]; exact HLO.out
  generalize updS 1 T N X = U at *
  clear B69 hup k9 k91 k92 k93 K9 BN9 E9 E0 E1 BE L1 L2 P0 P1 P2 P3 PB A0 A1 HSTT
  refine region_mixT 2 3 (by decide) mixed (by kernel_rfl) (by kernel_rfl) (fun u => #[_, _, _, _, _, _, _, _, _, _, _, _, _, _, _, _, _, _, _, _, _, _, _, _, _, _, _, _, _, _, _, _, _, _, _, _, _, _, _, _, _, _, _, _, _, _, _, _, _, _, _, _, _, _, _, _, _, _, _, _, _, u 0, u 1]) [] (fun _ => undef) rfl (apC w lo B D U X ⟨RES.1, s.seqs.set 1 N, s.last.set 1 RES.2⟩ RES.2) (show apC _ _ _ _ _ _ _ _ _ _ from C0.out.drew) (fun _ i v _ => apT U X i v) ?mono ?step ?one ?last
  case mono => exact fun b i v W W' h _ _ hb => h
  case step =>
    intro bb u W j o hj hjk hneed ho hC hd
    rcases j with _ | _ | _ | j
    all_goals try (simp only [List.getElem?_cons_zero, List.getElem?_cons_succ, Option.some.injEq] at ho; subst ho)
    · have KW := Lib.hid hC.1
      have HC := Lib.hid hC
      clear hC hd
      go_wp2_with (refine wpList_load_blk rfl 46 _ rfl D rfl KW.out Try.underlying46 rfl (by rw [size_st, HUL.out]) ?_)
      exact ⟨_, rfl, rfl, HC.out, Below.refl _ _⟩
    · have KW := Lib.hid hC.2.1
      have HC := Lib.hid hC
      clear hC hd
      go_wp2_with (refine wpList_load_blk rfl 39 _ rfl (D + 1) rfl KW.out Try.underlying39 rfl (by rw [size_rep, HXL.out]) ?_)
      exact ⟨_, rfl, rfl, HC.out, Below.refl _ _⟩
    · omega
    · omega
  case one =>
    intro u W o ho hC hd
    simp only [List.getElem?_cons_zero, List.getElem?_cons_succ, Option.some.injEq] at ho
    subst ho
    have h0 : u 0 = .agg U.toArray := hd ⟨0, .data⟩ (by simp) rfl
    obtain ⟨k0, k1, k2, k3, hb, ht, hr⟩ := hC
    rw [if_neg (by decide)] at k2
    have KW := Lib.hid k2
    have he := er_setRow lo k2 (by decide) (show lo ≤ B + 2 by omega) U.toArray
    have MM : Hid (apC w lo B D U X ⟨RES.1, s.seqs.set 1 N, s.last.set 1 RES.2⟩ RES.2 true (W.setRow (B + 2) U.toArray)) := Lib.hid ⟨k0.rowOther (show D ≠ B + 2 by omega) _, k1.rowOther (show D + 1 ≠ B + 2 by omega) _, k2.row U (by rw [HUL.out]; rfl), k3.rowOther (show B + 3 ≠ B + 2 by omega) _, below_setRow hb (show w.heap.size ≤ B + 2 by omega) _, by rw [he]; exact ht, by rw [he]; exact hr⟩
    clear hd k0 k1 k2 k3 hb ht hr he
    rw [h0]
    go_wp2_with (refine wpList_store_blk rfl 46 _ _ rfl (B + 2) U rfl rfl KW.out (by rw [size_st, HUL.out]) (by rw [HUL.out]; rfl) HU1.out ?_)
    exact ⟨undef, by first | (simp [upd, h0]; done) | (simp [upd, h0]; rfl), trivial, MM.out, fun i x _ h => h⟩
  case last =>
    intro u W o ho hC hSS
    simp only [List.getElem?_cons_zero, List.getElem?_cons_succ, Option.some.injEq] at ho
    subst ho
    have h1 : u 1 = .agg X.toArray := hSS 1 (by decide)
    obtain ⟨k0, k1, k2, k3, hb, ht, hr⟩ := hC
    rw [if_pos rfl] at k2
    have K3 := Lib.hid k3
    have he := er_setRow lo k3 (by decide) (show lo ≤ B + 3 by omega) X.toArray
    have M2 := Lib.hid (k2.rowOther (show B + 2 ≠ B + 3 by omega) X.toArray)
    have M3 := Lib.hid (k3.row X (by rw [HXL.out]; rfl))
    have M4 := Lib.hid (below_setRow hb (show w.heap.size ≤ B + 3 by omega) X.toArray)
    rw [← he] at ht hr
    have M5 := Lib.hid ht
    have M6 := Lib.hid hr
    clear hSS k0 k1 k2 k3 hb ht hr he
    rw [h1]
    go_wp2_with (refine wpList_store_blk rfl 39 _ _ rfl (B + 3) X rfl rfl K3.out (by rw [size_rep, HXL.out]) (by rw [HXL.out]; rfl) HX1.out ?_)
    refine bodyPost_ret (v := .tuple #[.agg U.toArray, .agg X.toArray]) (results_cells2 rfl _ _ (B + 2) (B + 3) rfl rfl M2.out M3.out Try.underlying46 rfl (by rw [size_st, HUL.out]) Try.underlying39 rfl (by rw [size_rep, HXL.out])) rfl ?_
    exact ⟨_, _, rfl, M5.out, M6.out, M4.out⟩
set_option maxRecDepth 100000 in
set_option maxHeartbeats 1000000 in
theorem vr_ApD2 (s : StU RawV) (v vq : Value) (r : ReqU RawV) (w : World) (lo : Nat) (hlo : lo ≤ w.heap.size) (hs : StTold (er lo w) v s) (hq : ReqTold (er lo w) vq r) (hl : s.vers.length ≤ 1000000) (hid : r.id < 4294967296) (hsq : r.seq < 4294967296) (ha : r.ver.ok) (hn : r.ver.bl.length ≤ 1000 ∧ r.ver.ns.length ≤ 1000 ∧ r.ver.zs.length ≤ 1000) (hc : r.client = 2) (hz : r.seq ≠ 0) (hgt : s.seqs.getD 2 0 < r.seq) :
    Calls Try.prog 27 #[v, vq] w (ApRet lo ⟨(doR s.vers r.kind r.id r.ver).1, s.seqs.set 2 r.seq, s.last.set 2 (doR s.vers r.kind r.id r.ver).2⟩ (doR s.vers r.kind r.id r.ver).2 w) := by
  obtain ⟨S, p, c0, rfl, hSl, hS1, hS0, hV, hSq, hSr⟩ := st_cells3 hs
  obtain ⟨Q, rfl, hQl, hQ1, hQc, hQs, hQo⟩ := rq_cells hq
  obtain ⟨B, hB⟩ : ∃ B, w.heap.size = B := ⟨_, rfl⟩
  have k0 := Blk.newAt w B hB 46 (c := S.toArray) S rfl
  have z1 : (w.alloc (.cells S.toArray 46)).heap.size = B + 1 := by simp [hB]
  have k1 := Blk.newAt _ (B + 1) z1 60 (c := Q.toArray) Q rfl
  have z2 : ((w.alloc (.cells S.toArray 46)).alloc (.cells Q.toArray 60)).heap.size = B + 2 := by simp [hB]
  have k2 := Blk.newAt _ (B + 2) z2 46 (c := zS.toArray) zS rfl
  have z3 : (((w.alloc (.cells S.toArray 46)).alloc (.cells Q.toArray 60)).alloc (.cells zS.toArray 46)).heap.size = B + 3 := by simp [hB]
  have k3 := Blk.newAt _ (B + 3) z3 39 (c := zRp.toArray) zRp rfl
  have kb := ((((Below.refl w.heap.size w).alloc (Nat.le_refl _) (.cells S.toArray 46)).alloc (by simp) (.cells Q.toArray 60)).alloc (by simp; omega) (.cells zS.toArray 46)).alloc (by simp; omega) (.cells zRp.toArray 39)
  have K05 := Lib.hid (((k0.alloc (.cells Q.toArray 60)).alloc (.cells zS.toArray 46)).alloc (.cells zRp.toArray 39))
  have K15 := Lib.hid ((k1.alloc (.cells zS.toArray 46)).alloc (.cells zRp.toArray 39))
  have K25 := Lib.hid (k2.alloc (.cells zRp.toArray 39))
  have K35 := Lib.hid k3
  have B5 := Lib.hid kb
  have Z3 := Lib.hid z3
  have Z2 := Lib.hid z2
  have HST := Lib.hid hs
  have HSR := Lib.hid hSr
  have HQL := Lib.hid hQl
  have HQ1 := Lib.hid hQ1
  have HQO := Lib.hid hQo
  have HSL := Lib.hid hSl
  have HSO := Lib.hid hS1
  have HSZ : Hid ((Try.prog.info? 46).map (·.size) = some S.length) := Lib.hid (by rw [size_st, hSl])
  have cl0 := K15.out.cellOf hQc
  have cl1 := K15.out.cellOf hQs
  have cl2 : _ = _ := K05.out.cellOf (hSq 2 (by omega))
  rw [show 1 + 2 = 3 by rfl] at cl2
  generalize s.seqs.getD 2 0 = M at *
  have HDO : Hid (∀ wx, Below w.heap.size w wx → Calls Try.prog 22 #[.agg S.toArray, .agg (Q.drop 2).toArray] wx (DoRet lo s (doR s.vers r.kind r.id r.ver).1 (doR s.vers r.kind r.id r.ver).2 wx)) := Lib.hid fun wx hb => vr_Do s _ _ r.kind r.id r.ver wx lo (Nat.le_trans hlo hb.size) (HST.out.below (er_belowS lo hb)) (HQO.out.below (er_belowS lo hb)) hl hid ha hn
  have HLC : Hid (∀ wx, Blk wx (B + 1) 60 Q → ∀ j x, (Q.drop 2)[j]? = some x → wx.cell? ((⟨B + 1, 2, none⟩ : Addr).add j) = some x) := Lib.hid fun wx h j x hx => by
    rw [List.getElem?_drop] at hx
    rw [Addr.add_mid]
    exact h.cellOf hx
  have HDL : Hid ((Try.prog.info? 30).map (·.size) = some (Q.drop 2).length) := Lib.hid (by rw [size_op, List.length_drop, HQL.out])
  have HLO := Lib.hid hlo
  have HSQ := Lib.hid hsq
  have HQS := Lib.hid hQs
  generalize doR s.vers r.kind r.id r.ver = RES at *
  clear hl hid ha hn hlo hsq HQO
  clear k0 k1 k2 k3 kb z1 z2 z3 hS0 hSl hS1 hV hs hq hQl hQ1 hQc hQs hQo hSr hSq
  generalize r.client = C at *
  generalize r.seq = N at *
  subst hc
  have g2 : ¬ (N : Int) = 0 := by omega
  have g3 : ¬ (N : Int) = (M : Int) := by omega
  have g4 : ¬ (N : Int) < (M : Int) := by omega
  go_enter Try.func27, Try.ntmps27
  go_wp2_with (first | (refine wpList_alloc_n rfl 46 rfl (B + 2) Z2.out _ (alloc_st _) ?_) | (refine wpList_alloc_n rfl 39 rfl (B + 3) Z3.out _ (alloc_rep _) ?_))
  generalize (((w.alloc (.cells S.toArray 46)).alloc (.cells Q.toArray 60)).alloc (.cells zS.toArray 46)).alloc (.cells zRp.toArray 39) = w5 at *
  clear Z2 Z3
  go_quiet (fail)
  go_wp2_with fail
  go_quiet (fail)
  have B8 : ∀ a b, Below w5.heap.size w5 ((w5.drewN a).drewN b) := fun a b => below_drewN (below_drewN (Below.refl _ _) _) _
  generalize hw8 : World.drewN (World.drewN w5 _) _ = w8
  have h58 : Below w5.heap.size w5 w8 := by rw [← hw8]; exact B8 _ _
  have K08 := Lib.hid (K05.out.below h58 K05.out.lt)
  have K18 := Lib.hid (K15.out.below h58 K15.out.lt)
  have H58 := Lib.hid h58
  clear hw8 B8 h58
  go_wp2_with (first | (refine wpList_load_blk rfl 46 _ rfl B rfl K08.out Try.underlying46 rfl HSZ.out ?_) | (refine wpList_load_addr rfl 30 _ rfl ⟨B + 1, 2, none⟩ rfl (Q.drop 2) (HLC.out _ K18.out) Try.underlying30 rfl HDL.out ?_))
  refine (HDO.out _ (B5.out.trans (H58.out.mono B5.out.size))).mono ?_
  rintro e w6 ⟨v', X, rfl, hst, hrx, hb6⟩
  have h56 : Below w5.heap.size w5 w6 := below_then hb6 H58.out
  have hw6 : Below w.heap.size w w6 := B5.out.trans (h56.mono B5.out.size)
  have hBD : B + 3 < w6.heap.size := Nat.lt_of_lt_of_le K35.out.lt h56.size
  obtain ⟨T, _, _, rfl, hTl, hT1, _, _⟩ := st_cells hst
  have hXl := hrx.len
  have hX1 : X.toArray.all (·.oneCell') = true := by
    have k := hrx.row
    obtain ⟨_, _, _, _, _, _, _, _, e⟩ := k
    rw [e]
    simp [cellsR, Value.oneCell']
  obtain ⟨D, hD⟩ : ∃ D, w6.heap.size = D := ⟨_, rfl⟩
  have a0 := Blk.newAt w6 D hD 46 (c := zS.toArray) zS rfl
  have y1 : (w6.alloc (.cells zS.toArray 46)).heap.size = D + 1 := by simp [hD]
  have a1 := Blk.newAt _ (D + 1) y1 39 (c := zRp.toArray) zRp rfl
  have ab := ((Below.refl w6.heap.size w6).alloc (Nat.le_refl _) (.cells zS.toArray 46)).alloc (by simp) (.cells zRp.toArray 39)
  have a0' := a0.alloc (.cells zRp.toArray 39)
  have b0 := (a0'.row T (by rw [hTl]; rfl)).rowOther (show D ≠ D + 1 by omega) X.toArray
  have b1 := (a1.rowOther (show D + 1 ≠ D by omega) T.toArray).row X (by rw [hXl]; rfl)
  have bb := below_setRow (below_setRow ab (show w6.heap.size ≤ D by omega) T.toArray) (show w6.heap.size ≤ D + 1 by omega) X.toArray
  have c1 := ((K15.out.below h56 K15.out.lt).below bb (K15.out.below h56 K15.out.lt).lt).cellOf HQS.out
  have A0 := Lib.hid a0'
  have A1 := Lib.hid (a1.rowOther (show D + 1 ≠ D by omega) T.toArray)
  have HDS := Lib.hid hD
  have Y1 := Lib.hid y1
  have P0 := Lib.hid b0
  have P1 := Lib.hid b1
  have P2 := Lib.hid ((K25.out.below h56 K25.out.lt).below bb (by rw [hD]; omega))
  have P3 := Lib.hid ((K35.out.below h56 K35.out.lt).below bb (by rw [hD]; omega))
  have PB := Lib.hid bb
  have HW6 := Lib.hid hw6
  have HSTT := Lib.hid hst
  have HRX := Lib.hid hrx
  have HTL := Lib.hid hTl
  have HT1 := Lib.hid hT1
  have HXL := Lib.hid hXl
  have HX1 := Lib.hid hX1
  have HBD := Lib.hid hBD
  have cd : ((((w6.alloc (.cells zS.toArray 46)).alloc (.cells zRp.toArray 39)).setRow D T.toArray).setRow (D + 1) X.toArray).cell? ⟨D, 3, none⟩ = some (T.getD 3 undef) := b0.cellOf (by rw [List.getD_eq_getElem?_getD, List.getElem?_eq_getElem (by rw [hTl]; decide)]; rfl)
  have fd := b0.free 3
  generalize T.getD 3 undef = y at cd
  have e0 := b0.set 3 (.int .u32 (N : Int))
  have e1 := b1.other (a := ⟨D, 3, none⟩) (show D ≠ D + 1 by omega) (.int .u32 (N : Int))
  have hcut := upd_cut 2 T X N hTl (by decide)
  rw [show 1 + 2 = 3 by rfl] at hcut
  rw [hcut] at e0
  have be := (below_setRow (below_setRow ab (show w6.heap.size ≤ D by omega) T.toArray) (show w6.heap.size ≤ D + 1 by omega) X.toArray).setCell (p := ⟨D, 3, none⟩) (show w6.heap.size ≤ D by omega) (.int .u32 (N : Int))
  have l1 : 16 = ((T.set 3 (.int .u32 (N : Int))).take (4 + 2 * 6)).length := by rw [List.length_take, List.length_set, hTl]; rfl
  have l2 : (((T.set 3 (.int .u32 (N : Int))).drop (4 + 2 * 6)).take 6).length = X.length := by rw [List.length_take, List.length_drop, List.length_set, hTl, hXl]; rfl
  have E0 := Lib.hid e0
  have E1 := Lib.hid e1
  have BE := Lib.hid be
  have L1 := Lib.hid l1
  have L2 := Lib.hid l2
  clear hst hrx hb6 h56 hw6 hBD hTl hT1 hXl hX1 hD a0 y1 a1 ab a0' b0 b1 bb e0 e1 be hcut l1 l2
  go_upto_region 9 with (first | (refine wpList_alloc_n rfl 46 rfl D HDS.out _ (alloc_st _) ?_) | (refine wpList_alloc_n rfl 39 rfl (D + 1) Y1.out _ (alloc_rep _) ?_) | (refine wpList_store_blk rfl 46 _ _ rfl D T rfl rfl A0.out (by rw [size_st, HTL.out]) (by rw [HTL.out]; rfl) HT1.out ?_) | (refine wpList_store_blk rfl 39 _ _ rfl (D + 1) X rfl rfl A1.out (by rw [size_rep, HXL.out]) (by rw [HXL.out]; rfl) HX1.out ?_))
  go_upto_region 10 with (fail)
  go_wp2_with (first | (refine wpList_load_blk rfl 39 _ rfl (D + 1) rfl E1.out Try.underlying39 rfl (by rw [size_rep, HXL.out]) ?_) | (refine wpList_store_part rfl 39 _ _ rfl D 16 rfl X rfl _ _ _ E0.out L1.out L2.out (by rw [size_rep, HXL.out]) HX1.out ?_; intro w9 k9 b9 e9; have K9 := Lib.hid k9; have BN9 := Lib.hid b9; have E9 := Lib.hid e9; clear k9 b9 e9))
  have B69 : Below w6.heap.size w6 w9 := BE.out.trans (BN9.out.mono (by rw [HDS.out]; exact Nat.le_refl _))
  have hup := st_upd (c := 2) (N := N) (by decide) (HSTT.out.below (er_belowS lo B69)) (HRX.out.below (er_belowS lo B69)) HSQ.out
  have k9 : Blk w9 D 46 (updS 2 T N X) := K9.out
  have k91 : Blk w9 (D + 1) 39 X := by rw [E9.out]; exact setCells_otherB (by omega) _ _ _ E1.out
  have k92 : Blk w9 (B + 2) 46 zS := by
    have h0 : w9.heap[B + 2]? = _ := BN9.out.block (B + 2) (by have := HBD.out; have := HDS.out; omega)
    unfold Blk
    rw [h0, Below.heap_setCell _ _ _ _ (by have := HBD.out; have := HDS.out; simp; omega)]
    exact P2.out
  have k93 : Blk w9 (B + 3) 39 zRp := by
    have h0 : w9.heap[B + 3]? = _ := BN9.out.block (B + 3) (by have := HBD.out; have := HDS.out; omega)
    unfold Blk
    rw [h0, Below.heap_setCell _ _ _ _ (by have := HBD.out; have := HDS.out; simp; omega)]
    exact P3.out
  have C0 : Hid (apC w lo B D (updS 2 T N X) X ⟨RES.1, s.seqs.set 2 N, s.last.set 2 RES.2⟩ RES.2 false w9) := Lib.hid ⟨k9, k91, k92, k93, HW6.out.trans (B69.mono HW6.out.size), hup.1, HRX.out.below (er_belowS lo B69)⟩
  have HUL := Lib.hid hup.2.1
  have HU1 := Lib.hid hup.2.2
  have hBD2 : B + 3 < D := by have := HBD.out; have := HDS.out; omega
  have hloB : lo ≤ B := by rw [← hB]; exact HLO.out
  generalize updS 2 T N X = U at *
  clear B69 hup k9 k91 k92 k93 K9 BN9 E9 E0 E1 BE L1 L2 P0 P1 P2 P3 PB A0 A1 HSTT
  refine region_mixT 2 3 (by decide) mixed (by kernel_rfl) (by kernel_rfl) (fun u => #[_, _, _, _, _, _, _, _, _, _, _, _, _, _, _, _, _, _, _, _, _, _, _, _, _, _, _, _, _, _, _, _, _, _, _, _, _, _, _, _, _, _, _, _, _, _, _, _, _, _, _, _, _, _, _, _, _, _, _, _, _, u 0, u 1]) [] (fun _ => undef) rfl (apC w lo B D U X ⟨RES.1, s.seqs.set 2 N, s.last.set 2 RES.2⟩ RES.2) (show apC _ _ _ _ _ _ _ _ _ _ from C0.out.drew) (fun _ i v _ => apT U X i v) ?mono ?step ?one ?last
  case mono => exact fun b i v W W' h _ _ hb => h
  case step =>
    intro bb u W j o hj hjk hneed ho hC hd
    rcases j with _ | _ | _ | j
    all_goals try (simp only [List.getElem?_cons_zero, List.getElem?_cons_succ, Option.some.injEq] at ho; subst ho)
    · have KW := Lib.hid hC.1
      have HC := Lib.hid hC
      clear hC hd
      go_wp2_with (refine wpList_load_blk rfl 46 _ rfl D rfl KW.out Try.underlying46 rfl (by rw [size_st, HUL.out]) ?_)
      exact ⟨_, rfl, rfl, HC.out, Below.refl _ _⟩
    · have KW := Lib.hid hC.2.1
      have HC := Lib.hid hC
      clear hC hd
      go_wp2_with (refine wpList_load_blk rfl 39 _ rfl (D + 1) rfl KW.out Try.underlying39 rfl (by rw [size_rep, HXL.out]) ?_)
      exact ⟨_, rfl, rfl, HC.out, Below.refl _ _⟩
    · omega
    · omega
  case one =>
    intro u W o ho hC hd
    simp only [List.getElem?_cons_zero, List.getElem?_cons_succ, Option.some.injEq] at ho
    subst ho
    have h0 : u 0 = .agg U.toArray := hd ⟨0, .data⟩ (by simp) rfl
    obtain ⟨k0, k1, k2, k3, hb, ht, hr⟩ := hC
    rw [if_neg (by decide)] at k2
    have KW := Lib.hid k2
    have he := er_setRow lo k2 (by decide) (show lo ≤ B + 2 by omega) U.toArray
    have MM : Hid (apC w lo B D U X ⟨RES.1, s.seqs.set 2 N, s.last.set 2 RES.2⟩ RES.2 true (W.setRow (B + 2) U.toArray)) := Lib.hid ⟨k0.rowOther (show D ≠ B + 2 by omega) _, k1.rowOther (show D + 1 ≠ B + 2 by omega) _, k2.row U (by rw [HUL.out]; rfl), k3.rowOther (show B + 3 ≠ B + 2 by omega) _, below_setRow hb (show w.heap.size ≤ B + 2 by omega) _, by rw [he]; exact ht, by rw [he]; exact hr⟩
    clear hd k0 k1 k2 k3 hb ht hr he
    rw [h0]
    go_wp2_with (refine wpList_store_blk rfl 46 _ _ rfl (B + 2) U rfl rfl KW.out (by rw [size_st, HUL.out]) (by rw [HUL.out]; rfl) HU1.out ?_)
    exact ⟨undef, by first | (simp [upd, h0]; done) | (simp [upd, h0]; rfl), trivial, MM.out, fun i x _ h => h⟩
  case last =>
    intro u W o ho hC hSS
    simp only [List.getElem?_cons_zero, List.getElem?_cons_succ, Option.some.injEq] at ho
    subst ho
    have h1 : u 1 = .agg X.toArray := hSS 1 (by decide)
    obtain ⟨k0, k1, k2, k3, hb, ht, hr⟩ := hC
    rw [if_pos rfl] at k2
    have K3 := Lib.hid k3
    have he := er_setRow lo k3 (by decide) (show lo ≤ B + 3 by omega) X.toArray
    have M2 := Lib.hid (k2.rowOther (show B + 2 ≠ B + 3 by omega) X.toArray)
    have M3 := Lib.hid (k3.row X (by rw [HXL.out]; rfl))
    have M4 := Lib.hid (below_setRow hb (show w.heap.size ≤ B + 3 by omega) X.toArray)
    rw [← he] at ht hr
    have M5 := Lib.hid ht
    have M6 := Lib.hid hr
    clear hSS k0 k1 k2 k3 hb ht hr he
    rw [h1]
    go_wp2_with (refine wpList_store_blk rfl 39 _ _ rfl (B + 3) X rfl rfl K3.out (by rw [size_rep, HXL.out]) (by rw [HXL.out]; rfl) HX1.out ?_)
    refine bodyPost_ret (v := .tuple #[.agg U.toArray, .agg X.toArray]) (results_cells2 rfl _ _ (B + 2) (B + 3) rfl rfl M2.out M3.out Try.underlying46 rfl (by rw [size_st, HUL.out]) Try.underlying39 rfl (by rw [size_rep, HXL.out])) rfl ?_
    exact ⟨_, _, rfl, M5.out, M6.out, M4.out⟩
end Go.Proofs.Ytogonbgelaehhaa
namespace Go.Proofs.Ytogonbgelaehhaa
open Go.RowKit
set_option linter.unusedVariables false

abbrev appR (s : StU RawV) (r : ReqU RawV) : StU RawV × RepU RawV := applyU RawV.id mayR noV s r
/-- what is known of a request's numbers and parts -/
def ReqOk (r : ReqU RawV) : Prop := r.id < 4294967296 ∧ r.seq < 4294967296 ∧ r.ver.ok ∧ (r.ver.bl.length ≤ 1000 ∧ r.ver.ns.length ≤ 1000 ∧ r.ver.zs.length ≤ 1000)
theorem ApRet.same {lo : Nat} {s : StU RawV} {v : Value} {r : List Value} {x : RepU RawV} {w w' : World} {e : Ending} (hs : StTold (er lo w) v s) (he : e = .returned (.tuple #[v, .agg r.toArray])) (hr : RepOkV (er lo w') r x) (hb : Below w.heap.size w w') : ApRet lo s x w e w' := ⟨v, r, he, hs.below (er_belowS lo hb), hr, hb⟩
theorem vr_Ap (s : StU RawV) (v vq : Value) (r : ReqU RawV) (w : World) (lo : Nat) (hlo : lo ≤ w.heap.size) (hs : StTold (er lo w) v s) (hq : ReqTold (er lo w) vq r) (hl : s.vers.length ≤ 1000000) (hr : ReqOk r) :
    Calls Try.prog 27 #[v, vq] w (ApRet lo (appR s r).1 (appR s r).2 w) := by
  have hs' := hs.sub (er_sub lo w)
  have hq' := hq.sub (er_sub lo w)
  obtain ⟨hid, hsq, ha, hn⟩ := hr
  by_cases h1 : r.client < 0 ∨ 3 ≤ r.client ∨ r.seq = 0
  · have e : appR s r = (s, ⟨170, [], noV⟩) := by unfold appR applyU; rw [if_pos h1]; rfl
    rw [e]
    by_cases g1 : r.client < 0
    · exact (vr_ApN s v vq r w hs' hq' g1).mono fun _ _ ⟨q1, q2⟩ => ApRet.same hs q1 (eR_told _ 170) q2
    · by_cases g2 : 3 ≤ r.client
      · exact (vr_ApB s v vq r w hs' hq' g2).mono fun _ _ ⟨q1, q2⟩ => ApRet.same hs q1 (eR_told _ 170) q2
      · exact (vr_ApZ s v vq r w hs' hq' r.client.toNat (by omega) (by omega) (by omega)).mono fun _ _ ⟨q1, q2⟩ => ApRet.same hs q1 (eR_told _ 170) q2
  · have hz : r.seq ≠ 0 := by omega
    have hc : r.client = 0 ∨ r.client = 1 ∨ r.client = 2 := by omega
    by_cases h2 : r.seq = s.seqs.getD r.client.toNat 0
    · have e : appR s r = (s, s.last.getD r.client.toNat (wrongU noV 0)) := by unfold appR applyU; rw [if_neg h1, if_pos h2]
      rw [e]
      rcases hc with hc | hc | hc
      · rw [hc] at h2 ⊢
        exact (vr_ApS0 s v vq r w lo hs hq hc hz h2).mono fun _ _ ⟨x, q1, q2, q3⟩ => ApRet.same hs q1 q2 q3
      · rw [hc] at h2 ⊢
        exact (vr_ApS1 s v vq r w lo hs hq hc hz h2).mono fun _ _ ⟨x, q1, q2, q3⟩ => ApRet.same hs q1 q2 q3
      · rw [hc] at h2 ⊢
        exact (vr_ApS2 s v vq r w lo hs hq hc hz h2).mono fun _ _ ⟨x, q1, q2, q3⟩ => ApRet.same hs q1 q2 q3
    · by_cases h3 : r.seq < s.seqs.getD r.client.toNat 0
      · have e : appR s r = (s, ⟨171, [], noV⟩) := by unfold appR applyU; rw [if_neg h1, if_neg h2, if_pos h3]; rfl
        rw [e]
        rcases hc with hc | hc | hc
        · rw [hc] at h3
          exact (vr_ApO0 s v vq r w hs' hq' hc hz h3).mono fun _ _ ⟨q1, q2⟩ => ApRet.same hs q1 (eR_told _ 171) q2
        · rw [hc] at h3
          exact (vr_ApO1 s v vq r w hs' hq' hc hz h3).mono fun _ _ ⟨q1, q2⟩ => ApRet.same hs q1 (eR_told _ 171) q2
        · rw [hc] at h3
          exact (vr_ApO2 s v vq r w hs' hq' hc hz h3).mono fun _ _ ⟨q1, q2⟩ => ApRet.same hs q1 (eR_told _ 171) q2
      · have e : appR s r = (⟨(doR s.vers r.kind r.id r.ver).1, s.seqs.set r.client.toNat r.seq, s.last.set r.client.toNat (doR s.vers r.kind r.id r.ver).2⟩, (doR s.vers r.kind r.id r.ver).2) := by unfold appR applyU; rw [if_neg h1, if_neg h2, if_neg h3]
        rw [e]
        rcases hc with hc | hc | hc
        · rw [hc] at h2 h3 ⊢
          exact vr_ApD0 s v vq r w lo hlo hs hq hl hid hsq ha hn hc hz (by simp at h2 h3 ⊢; omega)
        · rw [hc] at h2 h3 ⊢
          exact vr_ApD1 s v vq r w lo hlo hs hq hl hid hsq ha hn hc hz (by simp at h2 h3 ⊢; omega)
        · rw [hc] at h2 h3 ⊢
          exact vr_ApD2 s v vq r w lo hlo hs hq hl hid hsq ha hn hc hz (by simp at h2 h3 ⊢; omega)
end Go.Proofs.Ytogonbgelaehhaa
namespace Go.Proofs.Ytogonbgelaehhaa
open Go.RowKit
set_option linter.unusedVariables false

/-- rows that tell these replies -/
def TellRs (w : World) (rows : List (List Value)) (l : List (RepU RawV)) : Prop := rows.length = l.length ∧ ∀ i, i < l.length → ∃ r, rows[i]? = some r ∧ RepOkV w r (l.getD i (wrongU noV 0))
theorem TellRs.below {w w' : World} {rows : List (List Value)} {l : List (RepU RawV)} (h : TellRs w rows l) (hb : Below w.heap.size w w') : TellRs w' rows l := by
  refine ⟨h.1, fun i hi => ?_⟩
  obtain ⟨r, h1, h2⟩ := h.2 i hi
  exact ⟨r, h1, h2.below hb⟩
theorem TellRs.sub {w w' : World} {rows : List (List Value)} {l : List (RepU RawV)} (h : TellRs w rows l) (hb : Sub w w') : TellRs w' rows l := by
  refine ⟨h.1, fun i hi => ?_⟩
  obtain ⟨r, h1, h2⟩ := h.2 i hi
  exact ⟨r, h1, h2.sub hb⟩
theorem TellRs.nil (w : World) : TellRs w [] [] := ⟨rfl, fun i h => by simp at h⟩
theorem TellRs.snoc {w : World} {rows : List (List Value)} {l : List (RepU RawV)} {r : List Value} {x : RepU RawV} (h : TellRs w rows l) (hx : RepOkV w r x) : TellRs w (rows ++ [r]) (l ++ [x]) := by
  refine ⟨by rw [List.length_append, List.length_append, h.1]; rfl, fun i hi => ?_⟩
  by_cases hl : i < l.length
  · obtain ⟨q, e1, e2⟩ := h.2 i hl
    refine ⟨q, by rw [List.getElem?_append_left (by rw [h.1]; exact hl)]; exact e1, ?_⟩
    rw [List.getD_eq_getElem?_getD, List.getElem?_append_left hl, ← List.getD_eq_getElem?_getD]
    exact e2
  · rw [List.length_append, List.length_singleton] at hi
    obtain rfl : i = l.length := by omega
    refine ⟨r, by rw [List.getElem?_append_right (by rw [h.1]; exact Nat.le_refl _), h.1]; simp, ?_⟩
    rw [List.getD_eq_getElem?_getD, List.getElem?_append_right (Nat.le_refl _)]
    simpa using hx
/-! ### requests as an argument -/
def noQ : ReqU RawV := ⟨0, 0, 0, 0, noV⟩
def ReqsV (w : World) (v : Value) (l : List (ReqU RawV)) : Prop := ∃ rows, Sl w 8 v rows ∧ rows.length = l.length ∧ ∀ i, i < l.length → ∃ r, rows[i]? = some r ∧ ReqTold w (.agg r.toArray) (l.getD i noQ)
theorem ReqTold.below {w w' : World} {v : Value} {r : ReqU RawV} (h : ReqTold w v r) (hb : Below w.heap.size w w') : ReqTold w' v r := by
  obtain ⟨q, e, h1⟩ := h
  exact ⟨q, e, h1.below hb⟩
theorem ReqsV.below {w w' : World} {v : Value} {l : List (ReqU RawV)} (h : ReqsV w v l) (hb : Below w.heap.size w w') : ReqsV w' v l := by
  obtain ⟨rows, h1, h2, h3⟩ := h
  refine ⟨rows, h1.below hb, h2, fun i hi => ?_⟩
  obtain ⟨r, e1, e2⟩ := h3 i hi
  exact ⟨r, e1, e2.below hb⟩
theorem ReqsV.at {w : World} {p : Option Addr} {n c : Nat} {l : List (ReqU RawV)} (h : ReqsV w (.slice p n c) l) {i : Nat} (hi : i < l.length) :
    ∃ (a : Addr) (r : List Value), p = some a ∧ a.block < w.heap.size ∧ ReqTold w (.agg r.toArray) (l.getD i noQ) ∧ r.length = 8 ∧ ∀ j x, r[j]? = some x → w.cell? ((a.add (i * 8)).add j) = some x := by
  obtain ⟨rows, h1, h0, h2⟩ := h
  obtain ⟨r, e1, e2⟩ := h2 i hi
  obtain ⟨hk, p', c', e, hc⟩ := h1
  cases e
  obtain ⟨a, q1, q2, q3⟩ := hc i r e1
  exact ⟨a, r, q1, q2, e2, hk r (List.mem_of_getElem? e1), fun j x hx => by rw [Deep.add_add]; exact q3 j x hx⟩
/-! ### all requests -/
abbrev allR (l : List (ReqU RawV)) : StU RawV × List (RepU RawV) := allU RawV.id mayR noV (stU0 noV) l
abbrev OkR (s : StU RawV) : Prop := StOk RawV.id mayR s
theorem allR_take {l : List (ReqU RawV)} {j : Nat} (h : j < l.length) : allR (l.take (j + 1)) = ((appR (allR (l.take j)).1 (l.getD j noQ)).1, (allR (l.take j)).2 ++ [(appR (allR (l.take j)).1 (l.getD j noQ)).2]) := by
  have e : l.take (j + 1) = l.take j ++ [l.getD j noQ] := by rw [List.take_succ_eq_append_getElem h, List.getD_eq_getElem?_getD, List.getElem?_eq_getElem h]; rfl
  rw [e]
  exact all_snoc RawV.id mayR noV (stU0 noV) (l.take j) (l.getD j noQ)
theorem allR_ok (l : List (ReqU RawV)) : OkR (allR l).1 := all_ok RawV.id mayR noV (st_ok0 RawV.id mayR noV) l
theorem st0_told (w : World) : StTold w (.agg zS.toArray) (stU0 noV) := ⟨.slice none 0 0, 0, 0, 0, zRp, zRp, zRp, wrongU noV 0, wrongU noV 0, wrongU noV 0, rfl, VsV.nil w, rfl, rfl, ⟨by decide, by decide, by decide⟩, rep_none w 0, rep_none w 0, rep_none w 0⟩
theorem rep_one {w : World} {r : List Value} {x : RepU RawV} (h : RepOkV w r x) : r.toArray.all (·.oneCell') = true ∧ r.length = 6 ∧ ∀ u ∈ r, u.oneCell' = true := by
  have k := h.row
  obtain ⟨_, _, _, _, _, _, _, _, e⟩ := k
  refine ⟨by rw [e]; simp [cellsR, Value.oneCell'], h.len, fun u hu => ?_⟩
  rw [e] at hu
  simp [cellsR] at hu
  rcases hu with rfl | rfl | rfl | rfl | rfl | rfl <;> rfl
theorem build_st0 (w : World) : (Instr.build 46 #[]).run Try.prog w = .ok (.agg zS.toArray) w := by kernel_rfl
theorem zS_one : zS.toArray.all (·.oneCell') = true := by simp [zS, cellsS, zRp, cellsR, Value.oneCell']
theorem info_repV : (Try.prog.info? 39).map (fun i => (i.zero, i.size, i.bytes)) = some (some (.agg zRp.toArray), 6, 112) := by kernel_rfl
end Go.Proofs.Ytogonbgelaehhaa
