/- The program's list, get, remove, on a state in a variable (stage 17). Written by gen/mkuw3.py. -/
import Derived.Test.YtogonbgelaehhaaUWb
import Derived.Test.YtogonbgelaehhaaUWa
import Derived.Deep.Cut
import Derived.Test.YtogonbgelaehhaaHMay
namespace Go.Proofs.Ytogonbgelaehhaa
open Go.RowKit
set_option linter.unusedVariables false

/-- what a deed comes to -/
def DeedRet (base b : Nat) (vv : Value) (s : StU RawV) (L' : List RawV) (x : RepU RawV) (w : World) (e : Ending) (w' : World) : Prop :=
  ∃ r vv', e = .returned (.agg r.toArray) ∧ RepOkV (ew w') r x ∧ StI w' base b vv' ⟨L', s.seqs, s.last⟩ ∧ Turn base w w' (stF b vv) (stF b vv')
theorem rep_ids {w : World} {base : Nat} {v : Value} {l : List Nat} (h : OwnR w base 23 1 v (rowsU .u32 l)) : RepOkV (ew w) (cellsR 0 v 0 (.slice none 0 0) (.slice none 0 0) (.slice none 0 0)) ⟨0, l, noV⟩ := by
  obtain ⟨p, c, e⟩ := h.isSlice
  rw [rowsU_len] at e
  exact ⟨v, _, rfl, ⟨p, c, e⟩, (own_ew h (by decide)).sl, VV.none _⟩
theorem rep_ver {w : World} {r : List Value} {a : RawV} (h : VV w (.agg r.toArray) a) : RepOkV w (.int .i64 0 :: .slice none 0 0 :: r) ⟨0, [], a⟩ := ⟨_, r, rfl, ⟨_, _, rfl⟩, Sl.none 1, h⟩
theorem build_rIds (w : World) (p : Option Addr) (n c : Nat) : (Instr.build 39 #[(1, .slice p n c)]).run Try.prog w = .ok (.agg (cellsR 0 (.slice p n c) 0 (.slice none 0 0) (.slice none 0 0) (.slice none 0 0)).toArray) w := by kernel_rfl
theorem build_rVer (w : World) (id : Nat) (p1 p2 p3 : Option Addr) (n1 n2 n3 c1 c2 c3 : Nat) : (Instr.build 39 #[(2, .agg (cellsV id (.slice p1 n1 c1) (.slice p2 n2 c2) (.slice p3 n3 c3)).toArray)]).run Try.prog w = .ok (.agg (.int .i64 0 :: .slice none 0 0 :: cellsV id (.slice p1 n1 c1) (.slice p2 n2 c2) (.slice p3 n3 c3) : List Value).toArray) w := by kernel_rfl
theorem build_rVer' {w0 : World} {r : List Value} {a : RawV} (h : VV w0 (.agg r.toArray) a) (w : World) : (Instr.build 39 #[(2, .agg r.toArray)]).run Try.prog w = .ok (.agg (.int .i64 0 :: .slice none 0 0 :: r : List Value).toArray) w := by
  obtain ⟨_, _, _, _, _, _, rfl⟩ := h.row
  exact build_rVer _ _ _ _ _ _ _ _ _ _ _
theorem StI.row {W : World} {base b Y : Nat} {vv : Value} {s : StU RawV} {t : TypeId} {vs : List Value} (hI : StI W base b vv s) (kR : Blk W Y t vs) (ht : t ≠ 28) (hl : lfT t = false) (hb : b ≠ Y) (cs : Array Value) : StI (W.setRow Y cs) base b vv s := by
  have hne := hI.ownNe kR ht
  obtain ⟨h0, S, h1, h2⟩ := hI
  exact ⟨h0, S, h1.rowOther hb cs, h2.mono (Lf.row kR hl cs) fun i hi => setRow_other W Y i cs (hne i hi)⟩
theorem deed_end {w W : World} {base b Y : Nat} {vv vv' : Value} {s' : StU RawV} {r : List Value} {x : RepU RawV} (hb : b ≠ Y) (hY : w.heap.size ≤ Y) (hBY : base ≤ Y) (kR : Blk W Y 39 zRp) (hr : RepOkV (ew W) r x) (hI : StI W base b vv' s') (ht : Turn base w W (stF b vv) (stF b vv')) :
    RepOkV (ew (W.setRow Y r.toArray)) r x ∧ StI (W.setRow Y r.toArray) base b vv' s' ∧ Turn base w (W.setRow Y r.toArray) (stF b vv) (stF b vv') ∧ Blk (W.setRow Y r.toArray) Y 39 r ∧ r.length = 6 ∧ r.toArray.all (·.oneCell') = true :=
  ⟨hr.sub (ew_lf (Lf.row kR (by decide) _)), hI.row kR (by decide) (by decide) hb _, ht.row hBY (.inr hY) _, kR.row r (by rw [hr.len]; rfl), hr.len, rep_oneV hr⟩
theorem own_p {p : Option Addr} {n c m d : Nat} : (Value.slice p n c).ownBlock = (Value.slice p m d).ownBlock := by cases p <;> rfl
theorem stF_p {b : Nat} {p : Option Addr} {n c m d : Nat} : stF b (Value.slice p n c) = stF b (Value.slice p m d) := by
  unfold stF
  rw [own_p (p := p) (n := n) (c := c) (m := m) (d := d)]
set_option maxRecDepth 100000 in
set_option maxHeartbeats 2000000 in
theorem u_list (s : StU RawV) (vo : Value) (kind : Int) (id : Nat) (a : RawV) (base b : Nat) (vv : Value) (w : World) (hI : StI w base b vv s) (ho : OpTold w vo kind id a) (hg : StS s) :
    Calls Try.prog 53 #[.pointer (some ⟨b, 0, none⟩), vo] w (DeedRet base b vv s s.vers ⟨0, s.vers.map (·.id), noV⟩ w) := by
  obtain ⟨O, rfl, hOl, hO0, hO1, hO2, hOv⟩ := op_cells ho
  obtain ⟨Y, hY⟩ : ∃ Y, w.heap.size = Y := ⟨_, rfl⟩
  have hlt := hI.lt
  have k0 := Blk.newAt w Y hY 30 (c := O.toArray) O rfl
  have z1 : (w.alloc (.cells O.toArray 30)).heap.size = Y + 1 := by simp [hY]
  have k1 := Blk.newAt _ (Y + 1) z1 39 (c := zRp.toArray) zRp rfl
  have kb := ((Below.refl w.heap.size w).alloc (Nat.le_refl _) (.cells O.toArray 30)).alloc (by simp) (.cells zRp.toArray 39)
  have k0' := k0.alloc (.cells zRp.toArray 39)
  have hI2 := hI.below kb
  have htn : Turn base w ((w.alloc (.cells O.toArray 30)).alloc (.cells zRp.toArray 39)) (stF b vv) (stF b vv) := Turn.of_below kb (by omega)
  have K0 := Lib.hid k0'
  have K1 := Lib.hid k1
  have Z1 := Lib.hid z1
  have HTN := Lib.hid htn
  have HI2 := Lib.hid hI2
  have HOV := Lib.hid (hOv.below kb)
  have HO0 := Lib.hid hO0
  have HO1 := Lib.hid hO1
  have HO2 := Lib.hid hO2
  have HOL := Lib.hid hOl
  have HG := Lib.hid hg
  have hbY : b ≠ Y + 1 := by omega
  have hBY : base ≤ Y + 1 := by omega
  have HZ2 : Hid (base ≤ ((w.alloc (.cells O.toArray 30)).alloc (.cells zRp.toArray 39)).heap.size) := Lib.hid (by simp; omega)
  clear k0 k0' k1 z1 kb hI hI2 htn hOl hO0 hO1 hO2 hOv ho hg
  obtain ⟨p, c, rfl, hcell, hV, hcap⟩ := HI2.out.vers
  have HC := Lib.hid (u_ids s.vers p c _ (by have := HG.out.1.vers.few; omega) hV)
  clear hV
  go_enter Try.func53, Try.ntmps53
  go_wp2_with (refine wpList_alloc_n rfl 39 rfl (Y + 1) Z1.out _ (alloc_rep _) ?_)
  (with_reducible refine HC.out.mono ?_)
  rintro e w5 ⟨v5, rfl, o5, b5⟩
  have kr := K1.out.below b5 K1.out.lt
  obtain ⟨p5, c5, e5⟩ := o5.isSlice
  subst e5
  rw [rowsU_len, List.length_map] at o5 ⊢
  obtain ⟨e1, e2, e3, e4, e5, e6⟩ := deed_end (w := w) hbY (by omega) hBY kr (rep_ids o5) (HI2.out.below b5) (HTN.out.below' b5 HZ2.out)
  have E1 := Lib.hid e1
  have E2 := Lib.hid e2
  have E3 := Lib.hid e3
  have E4 := Lib.hid e4
  have E5 := Lib.hid e5
  have E6 := Lib.hid e6
  clear e1 e2 e3 e4 e5 e6
  have KR := Lib.hid kr
  clear hcell o5 b5 kr
  go_wp2_with (first | (refine wpList_build_at rfl 39 _ rfl (.agg (cellsR 0 (.slice p5 s.vers.length c5) 0 (.slice none 0 0) (.slice none 0 0) (.slice none 0 0)).toArray) (by simp only [List.map_toArray, List.map_cons, List.map_nil]; exact build_rIds _ _ _ _) ?_) | (refine wpList_store_blk rfl 39 _ _ rfl (Y + 1) (cellsR 0 (.slice p5 s.vers.length c5) 0 (.slice none 0 0) (.slice none 0 0) (.slice none 0 0)) rfl rfl KR.out (by rw [size_rep, E5.out]) (by rw [E5.out]; rfl) E6.out ?_))
  refine bodyPost_ret (v := .agg (cellsR 0 (.slice p5 s.vers.length c5) 0 (.slice none 0 0) (.slice none 0 0) (.slice none 0 0)).toArray) (results_cell_blk rfl _ _ (Y + 1) rfl E4.out Try.underlying39 rfl (by rw [size_rep, E5.out])) rfl ?_
  exact ⟨_, _, rfl, E1.out, E2.out, E3.out⟩
set_option maxRecDepth 100000 in
set_option maxHeartbeats 2000000 in
theorem u_get_no (s : StU RawV) (vo : Value) (kind : Int) (id : Nat) (a : RawV) (base b : Nat) (vv : Value) (w : World) (hI : StI w base b vv s) (ho : OpTold w vo kind id a) (hg : StS s) (hf : findV s.vers id = -1) :
    Calls Try.prog 54 #[.pointer (some ⟨b, 0, none⟩), vo] w (DeedRet base b vv s s.vers ⟨3, [], noV⟩ w) := by
  obtain ⟨O, rfl, hOl, hO0, hO1, hO2, hOv⟩ := op_cells ho
  obtain ⟨Y, hY⟩ : ∃ Y, w.heap.size = Y := ⟨_, rfl⟩
  have hlt := hI.lt
  have k0 := Blk.newAt w Y hY 30 (c := O.toArray) O rfl
  have z1 : (w.alloc (.cells O.toArray 30)).heap.size = Y + 1 := by simp [hY]
  have k1 := Blk.newAt _ (Y + 1) z1 39 (c := zRp.toArray) zRp rfl
  have kb := ((Below.refl w.heap.size w).alloc (Nat.le_refl _) (.cells O.toArray 30)).alloc (by simp) (.cells zRp.toArray 39)
  have k0' := k0.alloc (.cells zRp.toArray 39)
  have hI2 := hI.below kb
  have htn : Turn base w ((w.alloc (.cells O.toArray 30)).alloc (.cells zRp.toArray 39)) (stF b vv) (stF b vv) := Turn.of_below kb (by omega)
  have K0 := Lib.hid k0'
  have K1 := Lib.hid k1
  have Z1 := Lib.hid z1
  have HTN := Lib.hid htn
  have HI2 := Lib.hid hI2
  have HOV := Lib.hid (hOv.below kb)
  have HO0 := Lib.hid hO0
  have HO1 := Lib.hid hO1
  have HO2 := Lib.hid hO2
  have HOL := Lib.hid hOl
  have HG := Lib.hid hg
  have hbY : b ≠ Y + 1 := by omega
  have hBY : base ≤ Y + 1 := by omega
  have HZ2 : Hid (base ≤ ((w.alloc (.cells O.toArray 30)).alloc (.cells zRp.toArray 39)).heap.size) := Lib.hid (by simp; omega)
  clear k0 k0' k1 z1 kb hI hI2 htn hOl hO0 hO1 hO2 hOv ho hg
  obtain ⟨p, c, rfl, hcell, hV, hcap⟩ := HI2.out.vers
  have HF := Lib.hid (u_find s.vers p c id b (-1) false _ (by have := HG.out.1.vers.few; omega) hf (by decide) hcell hV)
  have c1 := K0.out.cellOf HO1.out
  clear hV hf hcell
  go_enter Try.func54, Try.ntmps54
  go_wp2_with (refine wpList_alloc_n rfl 39 rfl (Y + 1) Z1.out _ (alloc_rep _) ?_)
  (with_reducible refine HF.out.mono ?_)
  rintro e w5 ⟨rfl, b5⟩
  have hz5 := b5.size
  have t5 := HTN.out.below' b5 HZ2.out
  have i5 := HI2.out.below b5
  have k5 := K1.out.below b5 K1.out.lt
  have T5 := Lib.hid t5
  have I5 := Lib.hid i5
  have K5 := Lib.hid k5
  have HZ5 : Hid (base ≤ w5.heap.size) := Lib.hid (Nat.le_trans HZ2.out hz5)
  clear c1 b5 t5 i5 k5 hz5
  go_wp2_with fail
  refine (u_fault 3 w5).mono ?_
  rintro e w6 ⟨rfl, b6⟩
  have kr := K5.out.below b6 K5.out.lt
  obtain ⟨e1, e2, e3, e4, e5, e6⟩ := deed_end (w := w) hbY (by omega) hBY kr (eR_told (ew w6) 3) (I5.out.below b6) (T5.out.below' b6 HZ5.out)
  have E1 := Lib.hid e1
  have E2 := Lib.hid e2
  have E3 := Lib.hid e3
  have E4 := Lib.hid e4
  have E5 := Lib.hid e5
  have E6 := Lib.hid e6
  clear e1 e2 e3 e4 e5 e6
  have KR := Lib.hid kr
  clear b6 kr
  go_wp2_with (refine wpList_store_blk rfl 39 _ _ rfl (Y + 1) (eR 3) rfl rfl KR.out (by rw [size_rep, E5.out]) (by rw [E5.out]; rfl) E6.out ?_)
  refine bodyPost_ret (v := .agg (eR 3).toArray) (results_cell_blk rfl _ _ (Y + 1) rfl E4.out Try.underlying39 rfl (by rw [size_rep, E5.out])) rfl ?_
  exact ⟨_, _, rfl, E1.out, E2.out, E3.out⟩
set_option maxRecDepth 100000 in
set_option maxHeartbeats 2000000 in
theorem u_remove_no (s : StU RawV) (vo : Value) (kind : Int) (id : Nat) (a : RawV) (base b : Nat) (vv : Value) (w : World) (hI : StI w base b vv s) (ho : OpTold w vo kind id a) (hg : StS s) (hf : findV s.vers id = -1) :
    Calls Try.prog 51 #[.pointer (some ⟨b, 0, none⟩), vo] w (DeedRet base b vv s s.vers ⟨3, [], noV⟩ w) := by
  obtain ⟨O, rfl, hOl, hO0, hO1, hO2, hOv⟩ := op_cells ho
  obtain ⟨Y, hY⟩ : ∃ Y, w.heap.size = Y := ⟨_, rfl⟩
  have hlt := hI.lt
  have k0 := Blk.newAt w Y hY 30 (c := O.toArray) O rfl
  have z1 : (w.alloc (.cells O.toArray 30)).heap.size = Y + 1 := by simp [hY]
  have k1 := Blk.newAt _ (Y + 1) z1 39 (c := zRp.toArray) zRp rfl
  have kb := ((Below.refl w.heap.size w).alloc (Nat.le_refl _) (.cells O.toArray 30)).alloc (by simp) (.cells zRp.toArray 39)
  have k0' := k0.alloc (.cells zRp.toArray 39)
  have hI2 := hI.below kb
  have htn : Turn base w ((w.alloc (.cells O.toArray 30)).alloc (.cells zRp.toArray 39)) (stF b vv) (stF b vv) := Turn.of_below kb (by omega)
  have K0 := Lib.hid k0'
  have K1 := Lib.hid k1
  have Z1 := Lib.hid z1
  have HTN := Lib.hid htn
  have HI2 := Lib.hid hI2
  have HOV := Lib.hid (hOv.below kb)
  have HO0 := Lib.hid hO0
  have HO1 := Lib.hid hO1
  have HO2 := Lib.hid hO2
  have HOL := Lib.hid hOl
  have HG := Lib.hid hg
  have hbY : b ≠ Y + 1 := by omega
  have hBY : base ≤ Y + 1 := by omega
  have HZ2 : Hid (base ≤ ((w.alloc (.cells O.toArray 30)).alloc (.cells zRp.toArray 39)).heap.size) := Lib.hid (by simp; omega)
  clear k0 k0' k1 z1 kb hI hI2 htn hOl hO0 hO1 hO2 hOv ho hg
  obtain ⟨p, c, rfl, hcell, hV, hcap⟩ := HI2.out.vers
  have HF := Lib.hid (u_find s.vers p c id b (-1) false _ (by have := HG.out.1.vers.few; omega) hf (by decide) hcell hV)
  have c1 := K0.out.cellOf HO1.out
  clear hV hf hcell
  go_enter Try.func51, Try.ntmps51
  go_wp2_with (refine wpList_alloc_n rfl 39 rfl (Y + 1) Z1.out _ (alloc_rep _) ?_)
  (with_reducible refine HF.out.mono ?_)
  rintro e w5 ⟨rfl, b5⟩
  have hz5 := b5.size
  have t5 := HTN.out.below' b5 HZ2.out
  have i5 := HI2.out.below b5
  have k5 := K1.out.below b5 K1.out.lt
  have T5 := Lib.hid t5
  have I5 := Lib.hid i5
  have K5 := Lib.hid k5
  have HZ5 : Hid (base ≤ w5.heap.size) := Lib.hid (Nat.le_trans HZ2.out hz5)
  clear c1 b5 t5 i5 k5 hz5
  go_wp2_with fail
  refine (u_fault 3 w5).mono ?_
  rintro e w6 ⟨rfl, b6⟩
  have kr := K5.out.below b6 K5.out.lt
  obtain ⟨e1, e2, e3, e4, e5, e6⟩ := deed_end (w := w) hbY (by omega) hBY kr (eR_told (ew w6) 3) (I5.out.below b6) (T5.out.below' b6 HZ5.out)
  have E1 := Lib.hid e1
  have E2 := Lib.hid e2
  have E3 := Lib.hid e3
  have E4 := Lib.hid e4
  have E5 := Lib.hid e5
  have E6 := Lib.hid e6
  clear e1 e2 e3 e4 e5 e6
  have KR := Lib.hid kr
  clear b6 kr
  go_wp2_with (refine wpList_store_blk rfl 39 _ _ rfl (Y + 1) (eR 3) rfl rfl KR.out (by rw [size_rep, E5.out]) (by rw [E5.out]; rfl) E6.out ?_)
  refine bodyPost_ret (v := .agg (eR 3).toArray) (results_cell_blk rfl _ _ (Y + 1) rfl E4.out Try.underlying39 rfl (by rw [size_rep, E5.out])) rfl ?_
  exact ⟨_, _, rfl, E1.out, E2.out, E3.out⟩
set_option maxRecDepth 100000 in
set_option maxHeartbeats 2000000 in
theorem u_get_yes (s : StU RawV) (vo : Value) (kind : Int) (id : Nat) (a : RawV) (base b : Nat) (vv : Value) (w : World) (hI : StI w base b vv s) (ho : OpTold w vo kind id a) (hg : StS s) (k : Nat) (hf : findV s.vers id = (k : Int)) (hk : k < s.vers.length) :
    Calls Try.prog 54 #[.pointer (some ⟨b, 0, none⟩), vo] w (DeedRet base b vv s s.vers ⟨0, [], s.vers.getD k noV⟩ w) := by
  obtain ⟨O, rfl, hOl, hO0, hO1, hO2, hOv⟩ := op_cells ho
  obtain ⟨Y, hY⟩ : ∃ Y, w.heap.size = Y := ⟨_, rfl⟩
  have hlt := hI.lt
  have k0 := Blk.newAt w Y hY 30 (c := O.toArray) O rfl
  have z1 : (w.alloc (.cells O.toArray 30)).heap.size = Y + 1 := by simp [hY]
  have k1 := Blk.newAt _ (Y + 1) z1 39 (c := zRp.toArray) zRp rfl
  have kb := ((Below.refl w.heap.size w).alloc (Nat.le_refl _) (.cells O.toArray 30)).alloc (by simp) (.cells zRp.toArray 39)
  have k0' := k0.alloc (.cells zRp.toArray 39)
  have hI2 := hI.below kb
  have htn : Turn base w ((w.alloc (.cells O.toArray 30)).alloc (.cells zRp.toArray 39)) (stF b vv) (stF b vv) := Turn.of_below kb (by omega)
  have K0 := Lib.hid k0'
  have K1 := Lib.hid k1
  have Z1 := Lib.hid z1
  have HTN := Lib.hid htn
  have HI2 := Lib.hid hI2
  have HOV := Lib.hid (hOv.below kb)
  have HO0 := Lib.hid hO0
  have HO1 := Lib.hid hO1
  have HO2 := Lib.hid hO2
  have HOL := Lib.hid hOl
  have HG := Lib.hid hg
  have hbY : b ≠ Y + 1 := by omega
  have hBY : base ≤ Y + 1 := by omega
  have HZ2 : Hid (base ≤ ((w.alloc (.cells O.toArray 30)).alloc (.cells zRp.toArray 39)).heap.size) := Lib.hid (by simp; omega)
  clear k0 k0' k1 z1 kb hI hI2 htn hOl hO0 hO1 hO2 hOv ho hg
  obtain ⟨p, c, rfl, hcell, hV, hcap⟩ := HI2.out.vers
  have HF := Lib.hid (u_find s.vers p c id b (k : Int) true _ (by have := HG.out.1.vers.few; omega) hf (by simp) hcell hV)
  have c1 := K0.out.cellOf HO1.out
  have hk8 : k < 8 := by have := HG.out.1.vers.few; omega
  clear hV hf hcell
  go_enter Try.func54, Try.ntmps54
  go_wp2_with (refine wpList_alloc_n rfl 39 rfl (Y + 1) Z1.out _ (alloc_rep _) ?_)
  (with_reducible refine HF.out.mono ?_)
  rintro e w5 ⟨rfl, b5⟩
  have hz5 := b5.size
  have t5 := HTN.out.below' b5 HZ2.out
  have i5 := HI2.out.below b5
  have k5 := K1.out.below b5 K1.out.lt
  obtain ⟨p', c', e', hcell, hV5, hcap5⟩ := i5.vers
  simp only [Value.slice.injEq] at e'
  obtain ⟨rfl, -, rfl⟩ := e'
  have T5 := Lib.hid t5
  have I5 := Lib.hid i5
  have K5 := Lib.hid k5
  have HZ5 : Hid (base ≤ w5.heap.size) := Lib.hid (Nat.le_trans HZ2.out hz5)
  have dk : (k : Int) < (s.vers.length : Int) := by omega
  clear c1 b5 t5 i5 k5 hz5
  obtain ⟨ad, q, rfl, _, hVq, hq4, hcl⟩ := hV5.at hk
  have HCL := Lib.hid hcl
  have HQ := Lib.hid hq4
  have HVQ := Lib.hid hVq
  clear hV5 hcl hq4 hVq
  have hvk := versS HG.out k hk
  unfold VerS at hvk
  have HCV := Lib.hid (u_copyV (s.vers.getD k noV) (.agg q.toArray) w5 HVQ.out hvk.2)
  clear hvk
  go_wp2_with (refine wpList_load_addr rfl 28 _ rfl (ad.add (k * 4)) rfl q HCL.out Try.underlying28 rfl (by rw [size_ver, HQ.out]) ?_)
  (with_reducible refine HCV.out.mono ?_)
  rintro e w6 ⟨r6, rfl, v6, b6⟩
  have kr := K5.out.below b6 K5.out.lt
  have HB6 := Lib.hid (build_rVer' v6)
  obtain ⟨e1, e2, e3, e4, e5, e6⟩ := deed_end (w := w) hbY (by omega) hBY kr (rep_ver v6) (I5.out.below b6) (T5.out.below' b6 HZ5.out)
  have E1 := Lib.hid e1
  have E2 := Lib.hid e2
  have E3 := Lib.hid e3
  have E4 := Lib.hid e4
  have E5 := Lib.hid e5
  have E6 := Lib.hid e6
  clear e1 e2 e3 e4 e5 e6
  have KR := Lib.hid kr
  clear hcell b6 kr v6
  go_wp2_with (first | (refine wpList_build_at rfl 39 _ rfl (.agg (.int .i64 0 :: .slice none 0 0 :: r6 : List Value).toArray) (by simp only [List.map_toArray, List.map_cons, List.map_nil]; exact HB6.out _) ?_) | (refine wpList_store_blk rfl 39 _ _ rfl (Y + 1) (.int .i64 0 :: .slice none 0 0 :: r6) rfl rfl KR.out (by rw [size_rep, E5.out]) (by rw [E5.out]; rfl) E6.out ?_))
  refine bodyPost_ret (v := .agg (.int .i64 0 :: .slice none 0 0 :: r6 : List Value).toArray) (results_cell_blk rfl _ _ (Y + 1) rfl E4.out Try.underlying39 rfl (by rw [size_rep, E5.out])) rfl ?_
  exact ⟨_, _, rfl, E1.out, E2.out, E3.out⟩
set_option maxRecDepth 100000 in
set_option maxHeartbeats 2000000 in
theorem u_remove_yes (s : StU RawV) (vo : Value) (kind : Int) (id : Nat) (a : RawV) (base b : Nat) (vv : Value) (w : World) (hI : StI w base b vv s) (ho : OpTold w vo kind id a) (hg : StS s) (k : Nat) (hf : findV s.vers id = (k : Int)) (hk : k < s.vers.length) :
    Calls Try.prog 51 #[.pointer (some ⟨b, 0, none⟩), vo] w (DeedRet base b vv s (s.vers.take k ++ s.vers.drop (k + 1)) ⟨0, [], noV⟩ w) := by
  obtain ⟨O, rfl, hOl, hO0, hO1, hO2, hOv⟩ := op_cells ho
  obtain ⟨Y, hY⟩ : ∃ Y, w.heap.size = Y := ⟨_, rfl⟩
  have hlt := hI.lt
  have k0 := Blk.newAt w Y hY 30 (c := O.toArray) O rfl
  have z1 : (w.alloc (.cells O.toArray 30)).heap.size = Y + 1 := by simp [hY]
  have k1 := Blk.newAt _ (Y + 1) z1 39 (c := zRp.toArray) zRp rfl
  have kb := ((Below.refl w.heap.size w).alloc (Nat.le_refl _) (.cells O.toArray 30)).alloc (by simp) (.cells zRp.toArray 39)
  have k0' := k0.alloc (.cells zRp.toArray 39)
  have hI2 := hI.below kb
  have htn : Turn base w ((w.alloc (.cells O.toArray 30)).alloc (.cells zRp.toArray 39)) (stF b vv) (stF b vv) := Turn.of_below kb (by omega)
  have K0 := Lib.hid k0'
  have K1 := Lib.hid k1
  have Z1 := Lib.hid z1
  have HTN := Lib.hid htn
  have HI2 := Lib.hid hI2
  have HOV := Lib.hid (hOv.below kb)
  have HO0 := Lib.hid hO0
  have HO1 := Lib.hid hO1
  have HO2 := Lib.hid hO2
  have HOL := Lib.hid hOl
  have HG := Lib.hid hg
  have hbY : b ≠ Y + 1 := by omega
  have hBY : base ≤ Y + 1 := by omega
  have HZ2 : Hid (base ≤ ((w.alloc (.cells O.toArray 30)).alloc (.cells zRp.toArray 39)).heap.size) := Lib.hid (by simp; omega)
  clear k0 k0' k1 z1 kb hI hI2 htn hOl hO0 hO1 hO2 hOv ho hg
  obtain ⟨p, c, rfl, hcell, hV, hcap⟩ := HI2.out.vers
  have HF := Lib.hid (u_find s.vers p c id b (k : Int) true _ (by have := HG.out.1.vers.few; omega) hf (by simp) hcell hV)
  have c1 := K0.out.cellOf HO1.out
  have hk8 : k < 8 := by have := HG.out.1.vers.few; omega
  clear hV hf hcell
  go_enter Try.func51, Try.ntmps51
  go_wp2_with (refine wpList_alloc_n rfl 39 rfl (Y + 1) Z1.out _ (alloc_rep _) ?_)
  (with_reducible refine HF.out.mono ?_)
  rintro e w5 ⟨rfl, b5⟩
  have hz5 := b5.size
  have t5 := HTN.out.below' b5 HZ2.out
  have i5 := HI2.out.below b5
  have k5 := K1.out.below b5 K1.out.lt
  obtain ⟨p', c', e', hcell, hV5, hcap5⟩ := i5.vers
  simp only [Value.slice.injEq] at e'
  obtain ⟨rfl, -, rfl⟩ := e'
  have T5 := Lib.hid t5
  have I5 := Lib.hid i5
  have K5 := Lib.hid k5
  have HZ5 : Hid (base ≤ w5.heap.size) := Lib.hid (Nat.le_trans HZ2.out hz5)
  have dk : (k : Int) < (s.vers.length : Int) := by omega
  clear c1 b5 t5 i5 k5 hz5
  obtain ⟨hb0, S, hbS, hN⟩ := I5.out
  obtain ⟨rows, hO, hT, hRl, hS0⟩ := hN.own
  have hD := u_delete base rows p s.vers.length c k (k + 1) w5 hO hRl.symm (tell_one (hT.sub (ew_sub w5))) (by have := HG.out.1.vers.few; omega) (by omega) (by omega)
  have e1 : ((k + 1 : Nat) : Int) = (k : Int) + 1 := by omega
  rw [e1] at hD
  have HD := Lib.hid hD
  have HOW := Lib.hid hO
  have HTW := Lib.hid hT
  have HBS := Lib.hid hbS
  have HS0 := Lib.hid hS0
  clear hV5 hb0 hbS hN hO hT hRl hS0 hD e1
  go_wp2_with fail
  (with_reducible refine HD.out.mono ?_)
  rintro e w6 ⟨m, c6, rfl, o6, g6⟩
  have hbp : ∀ i, (Value.slice p s.vers.length c).ownBlock = some i → i ≠ b := HOW.out.ne HBS.out (by decide)
  have hbr : ∀ i, (Value.slice p s.vers.length c).ownBlock = some i → i ≠ Y + 1 := HOW.out.ne K5.out (by decide)
  have kb6 := HBS.out.grownP g6 (fun e => hbp b e rfl)
  have kr6 := K5.out.grownP g6 (fun e => hbr (Y + 1) e rfl)
  have l6 : Lf w5 w6 := Lf.grown g6 fun i e _ => by
    obtain ⟨vs, hB⟩ := HOW.out.blkAt i e
    exact ⟨_, vs, hB, by decide⟩
  have l7 : Lf w5 (w6.setCell ⟨b, 0, none⟩ (.slice p m c6)) := l6.trans (Lf.cell (a := ⟨b, 0, none⟩) kb6 (by decide) _)
  have o7 := o6.cellOther kb6 (by decide) 0 (.slice p m c6)
  have kr7 := kr6.other (a := ⟨b, 0, none⟩) hbY (.slice p m c6)
  have i7 := I5.out.set (w' := w6.setCell ⟨b, 0, none⟩ (.slice p m c6)) (vv' := .slice p m c6) (L := s.vers.take k ++ s.vers.drop (k + 1)) l7 (fun S' hS' => by
    exact (hS'.grownP g6 (fun e => hbp b e rfl)).set 0 _) o7 (((HTW.out.take k).app (HTW.out.drop (k + 1))).sub (ew_lf l7))
  have t7 := ((T5.out.grownV (vv' := .slice p m c6) (d := w6) (by rw [own_p (p := p) (n := m) (c := c6) (m := s.vers.length) (d := c)]; exact g6) (.inl own_p) HZ5.out (fun i e => (HOW.out.lt i e).1))).cell (R := b) (o := 0) hlt.1 (.inl (.inl rfl)) (.slice p m c6)
  have cb := kb6.cellOf (j := 0) (x := .slice p s.vers.length c) HS0.out
  have fb := kb6.free 0
  have I7 := Lib.hid i7
  have T7 := Lib.hid t7
  have KR7 := Lib.hid kr7
  clear o6 g6 hbp hbr kb6 kr6 l6 l7 o7 kr7 i7 t7 hcell
  go_upto_region 5 with fail
  generalize w6.setCell ⟨b, 0, none⟩ (.slice p m c6) = w7 at *
  clear cb fb
  obtain ⟨e1, e2, e3, e4, e5, e6⟩ := deed_end (w := w) hbY (by omega) hBY KR7.out (eR_told (ew w7) 0) I7.out T7.out
  have E1 := Lib.hid e1
  have E2 := Lib.hid e2
  have E3 := Lib.hid e3
  have E4 := Lib.hid e4
  have E5 := Lib.hid e5
  have E6 := Lib.hid e6
  clear e1 e2 e3 e4 e5 e6
  go_wp2_with (first | (refine wpList_build_at rfl 39 _ rfl (.agg (eR 0).toArray) (by simp only [List.map_toArray, List.map_nil]; exact build_rep0 _) ?_) | (refine wpList_store_blk rfl 39 _ _ rfl (Y + 1) (eR 0) rfl rfl KR7.out (by rw [size_rep, E5.out]) (by rw [E5.out]; rfl) E6.out ?_))
  refine bodyPost_ret (v := .agg (eR 0).toArray) (results_cell_blk rfl _ _ (Y + 1) rfl E4.out Try.underlying39 rfl (by rw [size_rep, E5.out])) rfl ?_
  exact ⟨_, _, rfl, E1.out, E2.out, E3.out⟩
end Go.Proofs.Ytogonbgelaehhaa
namespace Go.Proofs.Ytogonbgelaehhaa
open Go.RowKit
set_option linter.unusedVariables false

section
variable {P : Program} {ops : Array Oper} {rest : List Oper} {o : Oper} {a : Act} {w : World} {Q : Exit → Act → World → Prop}
theorem wpList_min2U (hgd : o.guard = none) (x y : Operand) (i : TypeId) (ho : o.op = .call { callee := .builtin .min, args := #[x, y], argTypes := #[i, i] })
    (A B N : Int) (hx : a.eval x = .int .u64 A) (hy : a.eval y = .int .u64 B) (hN : (if B < A then B else A) = N)
    (h : wpList P ops Q rest (a.put o.dst (.int .u64 N)) w) : wpList P ops Q (o :: rest) a w := by
  refine wpList_plain hgd fun K hK => ?_
  subst hN
  unfold Oper.wp execOp
  simp only [ho, resolve, invoke, builtin, Sem.run_bind, Sem.run_pure, Result.andThen_ok, List.map_toArray, List.map_cons, List.map_nil, hx, hy, Builtin.min_, Builtin.min2, List.foldlM_cons, List.foldlM_nil]
  exact hK _ _ h
end
def psS (b Y id : Nat) (p : Option Addr) (n c M : Nat) (i : Nat) (v : Value) (W : World) : Prop := match i with
  | 0 => v = .pointer (some ⟨Y, 1, none⟩) | 1 => v = .int .u32 (id : Int) | 2 => v = .int .u64 (id : Int) | 3 => v = .pointer (some ⟨b, 0, none⟩) | 4 => v = .pointer (some ⟨b, 0, none⟩)
  | 5 => v = .pointer (some ⟨b, 0, none⟩) | 6 => v = .slice p n c | 7 => v = .int .i64 (n : Int) | 8 => v = .int .u64 (n : Int) | 9 => v = .int .u64 (M : Int) | 10 => v = .int .i64 (M : Int)
  | _ => True
set_option maxRecDepth 100000 in
set_option maxHeartbeats 4000000 in
theorem u_prune_some (s : StU RawV) (vo : Value) (kind : Int) (id : Nat) (a : RawV) (base b : Nat) (vv : Value) (w : World) (hI : StI w base b vv s) (ho : OpTold w vo kind id a) (hg : StS s) (hid : id < 4294967296) (ad : Addr) (n0 c : Nat) (hvv : vv = .slice (some ad) n0 c) :
    Calls Try.prog 52 #[.pointer (some ⟨b, 0, none⟩), vo] w (DeedRet base b vv s (s.vers.drop (s.vers.length - id)) ⟨0, (s.vers.take (s.vers.length - id)).map (·.id), noV⟩ w) := by
  obtain ⟨O, rfl, hOl, hO0, hO1, hO2, hOv⟩ := op_cells ho
  obtain ⟨Y, hY⟩ : ∃ Y, w.heap.size = Y := ⟨_, rfl⟩
  have hlt := hI.lt
  have k0 := Blk.newAt w Y hY 30 (c := O.toArray) O rfl
  have z1 : (w.alloc (.cells O.toArray 30)).heap.size = Y + 1 := by simp [hY]
  have k1 := Blk.newAt _ (Y + 1) z1 39 (c := zRp.toArray) zRp rfl
  have kb := ((Below.refl w.heap.size w).alloc (Nat.le_refl _) (.cells O.toArray 30)).alloc (by simp) (.cells zRp.toArray 39)
  have k0' := k0.alloc (.cells zRp.toArray 39)
  have hI2 := hI.below kb
  have htn : Turn base w ((w.alloc (.cells O.toArray 30)).alloc (.cells zRp.toArray 39)) (stF b vv) (stF b vv) := Turn.of_below kb (by omega)
  have K0 := Lib.hid k0'
  have K1 := Lib.hid k1
  have Z1 := Lib.hid z1
  have HTN := Lib.hid htn
  have HI2 := Lib.hid hI2
  have HOV := Lib.hid (hOv.below kb)
  have HO0 := Lib.hid hO0
  have HO1 := Lib.hid hO1
  have HO2 := Lib.hid hO2
  have HOL := Lib.hid hOl
  have HG := Lib.hid hg
  have hbY : b ≠ Y + 1 := by omega
  have hBY : base ≤ Y + 1 := by omega
  have HZ2 : Hid (base ≤ ((w.alloc (.cells O.toArray 30)).alloc (.cells zRp.toArray 39)).heap.size) := Lib.hid (by simp; omega)
  clear k0 k0' k1 z1 kb hI hI2 htn hOl hO0 hO1 hO2 hOv ho hg
  obtain ⟨p, cv, rfl, hcell, hV, hcap⟩ := HI2.out.vers
  simp only [Value.slice.injEq] at hvv
  obtain ⟨rfl, -, rfl⟩ := hvv
  have hfew : s.vers.length ≤ 8 := HG.out.1.vers.few
  obtain ⟨N, hN⟩ : ∃ N, s.vers.length = N := ⟨_, rfl⟩
  obtain ⟨M, hM⟩ : ∃ M, min id N = M := ⟨_, rfl⟩
  obtain ⟨G, hGG⟩ : ∃ G, N - id = G := ⟨_, rfl⟩
  have HN := Lib.hid hN
  rw [hN] at hcell hV hcap hfew ⊢
  rw [hGG]
  have hsub : (N : Int) - (M : Int) = (G : Int) := by omega
  have hGN : G ≤ N := by omega
  have hMN : M ≤ N := by omega
  have hmin : (if (N : Int) < (id : Int) then (N : Int) else (id : Int)) = (M : Int) := by split <;> omega
  have HMIN := Lib.hid hmin
  have HCE := Lib.hid hcell
  have HV := Lib.hid hV
  have HSUB := Lib.hid hsub
  clear hN hM hGG hV hcell hmin hsub
  go_enter Try.func52, Try.ntmps52
  go_upto_region 1 with (refine wpList_alloc_n rfl 39 rfl (Y + 1) Z1.out _ (alloc_rep _) ?_)
  have hW2 : Hid (∃ W2, (w.alloc (.cells O.toArray 30)).alloc (.cells zRp.toArray 39) = W2) := Lib.hid ⟨_, rfl⟩
  generalize (w.alloc (.cells O.toArray 30)).alloc (.cells zRp.toArray 39) = w2 at *
  clear Z1 hW2
  refine region_free_last 11 mixed (by kernel_rfl) (by kernel_rfl) (fun u => ((_ :: _ :: _ :: _ :: _ :: _ :: _ :: _ :: u 0 :: u 1 :: u 2 :: u 3 :: u 4 :: u 5 :: u 6 :: u 7 :: u 8 :: u 9 :: u 10 :: _ :: _ :: _ :: _ :: _ :: _ :: _ :: _ :: _ :: _ :: _ :: _ :: _ :: _ :: _ :: _ :: _ :: _ :: _ :: _ :: _ :: _ :: _ :: _ :: _ :: []) : List Value).toArray) [] (fun _ => undef) rfl (NewBut w2) (show Below _ _ _ from (Below.refl _ _).drew) (psS b Y id (some ad) N cv M) ?mono ?step ?last
  case mono =>
    intro i v W W' hv hC hC' hb
    match i with
    | 0 | 1 | 2 | 3 | 4 | 5 | 6 | 7 | 8 | 9 | 10 => exact hv
    | _ + 11 => trivial
  case step =>
    intro u W i o hi ho hC hd
    have hr := Below.refl W.heap.size W
    rcases i with _ | _ | _ | _ | _ | _ | _ | _ | _ | _ | _ | i
    all_goals try (simp only [List.getElem?_cons_zero, List.getElem?_cons_succ, Option.some.injEq] at ho; subst ho)
    · go_wp2_with fail
      exact ⟨_, rfl, rfl, hC, hr⟩
    · have h0 : u 0 = _ := hd ⟨0, .data⟩ (by simp) rfl
      have c0 := (K0.out.below hC K0.out.lt).cellOf HO1.out
      rw [h0]
      go_wp2_with fail
      exact ⟨.int .u32 (id : Int), by simp [upd, h0], rfl, hC, hr⟩
    · have h1 : u 1 = _ := hd ⟨1, .data⟩ (by simp) rfl
      rw [h1]
      go_wp2_with fail
      exact ⟨.int .u64 (id : Int), by simp [upd, h1], rfl, hC, hr⟩
    · go_wp2_with fail
      exact ⟨_, rfl, rfl, hC, hr⟩
    · have h3 : u 3 = _ := hd ⟨3, .data⟩ (by simp) rfl
      rw [h3]
      go_wp2_with fail
      exact ⟨.pointer (some ⟨b, 0, none⟩), by simp [upd, h3], rfl, hC, hr⟩
    · have h3 : u 4 = _ := hd ⟨4, .data⟩ (by simp) rfl
      rw [h3]
      go_wp2_with fail
      exact ⟨.pointer (some ⟨b, 0, none⟩), by simp [upd, h3], rfl, hC, hr⟩
    · have h3 : u 5 = _ := hd ⟨5, .data⟩ (by simp) rfl
      have c0 := (HI2.out.below hC).vers
      obtain ⟨p', c', e', c0, _, _⟩ := c0
      rw [HN.out] at e' c0
      simp only [Value.slice.injEq] at e'
      obtain ⟨e1, -, e2⟩ := e'
      rw [← e1, ← e2] at c0
      rw [h3]
      clear e1 e2
      go_wp2_with fail
      exact ⟨.slice (some ad) N cv, by simp [upd, h3], rfl, hC, hr⟩
    · have h3 : u 6 = _ := hd ⟨6, .data⟩ (by simp) rfl
      rw [h3]
      go_wp2_with fail
      exact ⟨.int .i64 (N : Int), by simp [upd, h3], rfl, hC, hr⟩
    · have h3 : u 7 = _ := hd ⟨7, .data⟩ (by simp) rfl
      rw [h3]
      go_wp2_with fail
      exact ⟨.int .u64 (N : Int), by simp [upd, h3], rfl, hC, hr⟩
    · have h2 : u 2 = _ := hd ⟨2, .data⟩ (by simp) rfl
      have h8 : u 8 = _ := hd ⟨8, .data⟩ (by simp) rfl
      rw [h2, h8]
      go_wp2_with (refine wpList_min2U rfl _ _ 78 rfl (id : Int) (N : Int) (M : Int) rfl rfl HMIN.out ?_)
      exact ⟨.int .u64 (M : Int), by simp [upd, h2, h8], rfl, hC, hr⟩
    · have h9 : u 9 = _ := hd ⟨9, .data⟩ (by simp) rfl
      rw [h9]
      go_wp2_with fail
      exact ⟨.int .i64 (M : Int), by simp [upd, h9], rfl, hC, hr⟩
    · omega
  case last =>
    intro u W o ho hC hS
    simp only [List.getElem?_cons_zero, List.getElem?_cons_succ, Option.some.injEq] at ho
    subst ho
    have h10 : u 10 = .int .i64 (M : Int) := hS 10 (by decide)
    have iW := HI2.out.below hC
    have cW := iW.vers
    obtain ⟨p', c'', e', cW, hVW, _⟩ := cW
    rw [HN.out] at e' cW hVW
    simp only [Value.slice.injEq] at e'
    obtain ⟨e1, -, e2⟩ := e'
    rw [← e1, ← e2] at cW hVW
    have hids := u_ids (s.vers.take G) (some ad) cv W (by rw [List.length_take, HN.out]; omega) (by
      rw [show (s.vers.take G).length = G by rw [List.length_take, HN.out]; omega]
      exact hVW.taken (by rw [HN.out]; exact hGN) cv (by omega))
    rw [show (s.vers.take G).length = G by rw [List.length_take, HN.out]; omega] at hids
    have HIDS := Lib.hid hids
    have hsub := HSUB.out
    have hGc : G ≤ cv := by omega
    have IW := Lib.hid iW
    have HCW := Lib.hid hC
    have kW := K1.out.below hC K1.out.lt
    have KW := Lib.hid kW
    have TW := Lib.hid (HTN.out.below' hC HZ2.out)
    have HZW : Hid (base ≤ W.heap.size) := Lib.hid (Nat.le_trans HZ2.out hC.size)
    rw [h10]
    clear hC hS iW e1 e2 hVW hids kW
    go_wp2_with fail
    (with_reducible refine HIDS.out.mono ?_)
    rintro e w5 ⟨v5, rfl, o5, b5⟩
    have lrep := rep_ids o5
    obtain ⟨p5, c5, e5⟩ := o5.isSlice
    rw [rowsU_len, List.length_map, show (s.vers.take G).length = G by rw [List.length_take, HN.out]; omega] at e5
    subst e5
    obtain ⟨R, hR⟩ : ∃ R, cellsR 0 (.slice p5 G c5) 0 (.slice none 0 0) (.slice none 0 0) (.slice none 0 0) = R := ⟨_, rfl⟩
    have hbd := fun wx => build_rIds wx p5 G c5
    simp only [hR] at lrep hbd
    obtain ⟨Z, hZ⟩ : ∃ Z, w5.heap.size = Z := ⟨_, rfl⟩
    have k0 := Blk.newAt w5 Z hZ 39 (c := zRp.toArray) zRp rfl
    have k6 := k0.row R (by rw [lrep.len]; rfl)
    have b6 : Below w5.heap.size w5 ((w5.alloc (.cells zRp.toArray 39)).setRow Z R.toArray) := below_setRow ((Below.refl _ _).alloc (Nat.le_refl _) _) (by omega) _
    have i6 := (IW.out.below b5).below b6
    have r6 := lrep.sub (ew_lf (Lf.below b6))
    have t6 := (TW.out.below' b5 HZW.out).below' b6 (Nat.le_trans HZW.out b5.size)
    have kr6 := (KW.out.below b5 KW.out.lt).below b6 (by have := (KW.out.below b5 KW.out.lt).lt; exact this)
    have hz6 : base ≤ ((w5.alloc (.cells zRp.toArray 39)).setRow Z R.toArray).heap.size := Nat.le_trans (Nat.le_trans HZW.out b5.size) b6.size
    have hYZ : Y + 1 ≠ Z := by have := (KW.out.below b5 KW.out.lt).lt; omega
    have hbZ : b ≠ Z := by have := (IW.out.below b5).lt; omega
    have HZ5 := Lib.hid hZ
    have HBD := Lib.hid hbd
    have K0Z := Lib.hid k0
    have K6 := Lib.hid k6
    have I6 := Lib.hid i6
    have R6 := Lib.hid r6
    have T6 := Lib.hid t6
    have KR6 := Lib.hid kr6
    have HZ6 := Lib.hid hz6
    have HRL := Lib.hid lrep.len
    have HRO := Lib.hid (rep_oneV lrep)
    clear o5 b5 lrep hR hbd hZ k0 k6 b6 i6 r6 t6 kr6 hz6 cW hsub hcap
    go_upto_region 4 with (first | (refine wpList_build_at rfl 39 _ rfl (.agg R.toArray) (by simp only [List.map_toArray, List.map_cons, List.map_nil]; exact HBD.out _) ?_) | (refine wpList_alloc_n rfl 39 rfl Z HZ5.out _ (alloc_rep _) ?_) | (refine wpList_store_blk rfl 39 _ _ rfl Z R rfl rfl K0Z.out (by rw [size_rep, HRL.out]) (by rw [HRL.out]; rfl) HRO.out ?_))
    clear K0Z HZ5
    generalize (w5.alloc (.cells zRp.toArray 39)).setRow Z R.toArray = w6 at *
    obtain ⟨hb0, S, hbS, hNS⟩ := I6.out
    obtain ⟨rows, hO, hT, hRl, hS0⟩ := hNS.own
    have c6 := hbS.cellOf hS0
    rw [HN.out] at c6 hO hS0
    have hD : Calls Try.prog 57 #[.slice (some ad) N cv, .int .i64 0, .int .i64 (G : Int)] w6 fun e w' => ∃ m c', e = .returned (.slice (some ad) m c') ∧ OwnR w' base 28 4 (.slice (some ad) m c') (rows.drop G) ∧ w6.grownBy w' (Value.slice (some ad) N cv).ownBlock := by
      have := u_delete base rows (some ad) N cv 0 G w6 (by exact hO) (by rw [hRl, HN.out]) (tell_one (hT.sub (ew_sub w6))) (by omega) (Nat.zero_le _) hGN
      rw [List.take_zero, List.nil_append] at this
      exact this
    have HD := Lib.hid hD
    have HOW := Lib.hid hO
    have HTW := Lib.hid hT
    have HBS := Lib.hid hbS
    have HS0 := Lib.hid hS0
    clear hb0 hbS hNS hO hT hRl hS0 hD
    go_wp2_with fail
    (with_reducible refine HD.out.mono ?_)
    rintro e w7 ⟨m, c7, rfl, o7, g7⟩
    have hbp : ∀ i, (Value.slice (some ad) N cv).ownBlock = some i → i ≠ b := HOW.out.ne HBS.out (by decide)
    have hbr : ∀ i, (Value.slice (some ad) N cv).ownBlock = some i → i ≠ Y + 1 := HOW.out.ne KR6.out (by decide)
    have hbz : ∀ i, (Value.slice (some ad) N cv).ownBlock = some i → i ≠ Z := HOW.out.ne K6.out (by decide)
    have kb7 := HBS.out.grownP g7 (fun e => hbp b e rfl)
    have kr7 := KR6.out.grownP g7 (fun e => hbr (Y + 1) e rfl)
    have kz7 := K6.out.grownP g7 (fun e => hbz Z e rfl)
    have l7 : Lf w6 w7 := Lf.grown g7 fun i e _ => by
      obtain ⟨vs, hB⟩ := HOW.out.blkAt i e
      exact ⟨_, vs, hB, by decide⟩
    have l8 : Lf w6 (w7.setCell ⟨b, 0, none⟩ (.slice (some ad) m c7)) := l7.trans (Lf.cell (a := ⟨b, 0, none⟩) kb7 (by decide) _)
    have o8 := o7.cellOther kb7 (by decide) 0 (.slice (some ad) m c7)
    have kr8 := kr7.other (a := ⟨b, 0, none⟩) hbY (.slice (some ad) m c7)
    have kz8 := kz7.other (a := ⟨b, 0, none⟩) hbZ (.slice (some ad) m c7)
    have i8 := I6.out.set (w' := w7.setCell ⟨b, 0, none⟩ (.slice (some ad) m c7)) (vv' := .slice (some ad) m c7) (L := s.vers.drop G) l8 (fun S' hS' => by
      exact (hS'.grownP g7 (fun e => hbp b e rfl)).set 0 _) o8 ((HTW.out.drop G).sub (ew_lf l8))
    have t8 := ((T6.out.grownV (vv' := .slice (some ad) m c7) (d := w7) (by rw [own_p (p := (some ad)) (n := m) (c := c7) (m := N) (d := cv)]; exact g7) (.inl own_p) HZ6.out (fun i e => (HOW.out.lt i e).1))).cell (R := b) (o := 0) hlt.1 (.inl (.inl rfl)) (.slice (some ad) m c7)
    have r8 := R6.out.sub (ew_lf l8)
    have cb := kb7.cellOf HS0.out
    have fb := kb7.free 0
    have I8 := Lib.hid i8
    have T8 := Lib.hid t8
    have KR8 := Lib.hid kr8
    have KZ8 := Lib.hid kz8
    have R8 := Lib.hid r8
    clear o7 g7 hbp hbr hbz kb7 kr7 kz7 l7 l8 o8 kr8 kz8 i8 t8 r8 c6
    go_upto_region 5 with fail
    generalize w7.setCell ⟨b, 0, none⟩ (.slice (some ad) m c7) = w8 at *
    clear cb fb
    obtain ⟨e1, e2, e3, e4, e5, e6⟩ := deed_end (w := w) hbY (by omega) hBY KR8.out R8.out I8.out T8.out
    have E1 := Lib.hid e1
    have E2 := Lib.hid e2
    have E3 := Lib.hid e3
    have E4 := Lib.hid e4
    have E5 := Lib.hid e5
    have E6 := Lib.hid e6
    clear e1 e2 e3 e4 e5 e6
    go_wp2_with (first | (refine wpList_load_blk rfl 39 _ rfl Z rfl KZ8.out Try.underlying39 rfl (by rw [size_rep, HRL.out]) ?_) | (refine wpList_store_blk rfl 39 _ _ rfl (Y + 1) R rfl rfl KR8.out (by rw [size_rep, E5.out]) (by rw [E5.out]; rfl) E6.out ?_))
    refine bodyPost_ret (v := .agg (R).toArray) (results_cell_blk rfl _ _ (Y + 1) rfl E4.out Try.underlying39 rfl (by rw [size_rep, E5.out])) rfl ?_
    exact ⟨_, _, rfl, E1.out, E2.out, E3.out⟩
set_option maxRecDepth 100000 in
set_option maxHeartbeats 4000000 in
theorem u_prune_none (s : StU RawV) (vo : Value) (kind : Int) (id : Nat) (a : RawV) (base b : Nat) (vv : Value) (w : World) (hI : StI w base b vv s) (ho : OpTold w vo kind id a) (hg : StS s) (hid : id < 4294967296) (hvv : vv = .slice none 0 0) (hnil : s.vers = []) :
    Calls Try.prog 52 #[.pointer (some ⟨b, 0, none⟩), vo] w (DeedRet base b vv s (s.vers.drop (s.vers.length - id)) ⟨0, (s.vers.take (s.vers.length - id)).map (·.id), noV⟩ w) := by
  obtain ⟨O, rfl, hOl, hO0, hO1, hO2, hOv⟩ := op_cells ho
  obtain ⟨Y, hY⟩ : ∃ Y, w.heap.size = Y := ⟨_, rfl⟩
  have hlt := hI.lt
  have k0 := Blk.newAt w Y hY 30 (c := O.toArray) O rfl
  have z1 : (w.alloc (.cells O.toArray 30)).heap.size = Y + 1 := by simp [hY]
  have k1 := Blk.newAt _ (Y + 1) z1 39 (c := zRp.toArray) zRp rfl
  have kb := ((Below.refl w.heap.size w).alloc (Nat.le_refl _) (.cells O.toArray 30)).alloc (by simp) (.cells zRp.toArray 39)
  have k0' := k0.alloc (.cells zRp.toArray 39)
  have hI2 := hI.below kb
  have htn : Turn base w ((w.alloc (.cells O.toArray 30)).alloc (.cells zRp.toArray 39)) (stF b vv) (stF b vv) := Turn.of_below kb (by omega)
  have K0 := Lib.hid k0'
  have K1 := Lib.hid k1
  have Z1 := Lib.hid z1
  have HTN := Lib.hid htn
  have HI2 := Lib.hid hI2
  have HOV := Lib.hid (hOv.below kb)
  have HO0 := Lib.hid hO0
  have HO1 := Lib.hid hO1
  have HO2 := Lib.hid hO2
  have HOL := Lib.hid hOl
  have HG := Lib.hid hg
  have hbY : b ≠ Y + 1 := by omega
  have hBY : base ≤ Y + 1 := by omega
  have HZ2 : Hid (base ≤ ((w.alloc (.cells O.toArray 30)).alloc (.cells zRp.toArray 39)).heap.size) := Lib.hid (by simp; omega)
  clear k0 k0' k1 z1 kb hI hI2 htn hOl hO0 hO1 hO2 hOv ho hg
  obtain ⟨p, cv, rfl, hcell, hV, hcap⟩ := HI2.out.vers
  simp only [Value.slice.injEq] at hvv
  obtain ⟨rfl, -, rfl⟩ := hvv
  have hfew : s.vers.length ≤ 8 := HG.out.1.vers.few
  obtain ⟨N, hN⟩ : ∃ N, s.vers.length = N := ⟨_, rfl⟩
  obtain ⟨M, hM⟩ : ∃ M, min id N = M := ⟨_, rfl⟩
  obtain ⟨G, hGG⟩ : ∃ G, N - id = G := ⟨_, rfl⟩
  have HN := Lib.hid hN
  rw [hN] at hcell hV hcap hfew ⊢
  rw [hGG]
  have hsub : (N : Int) - (M : Int) = (G : Int) := by omega
  have hGN : G ≤ N := by omega
  have hMN : M ≤ N := by omega
  have hmin : (if (N : Int) < (id : Int) then (N : Int) else (id : Int)) = (M : Int) := by split <;> omega
  have HMIN := Lib.hid hmin
  have HCE := Lib.hid hcell
  have HV := Lib.hid hV
  have HSUB := Lib.hid hsub
  clear hN hM hGG hV hcell hmin hsub
  go_enter Try.func52, Try.ntmps52
  go_upto_region 1 with (refine wpList_alloc_n rfl 39 rfl (Y + 1) Z1.out _ (alloc_rep _) ?_)
  have hW2 : Hid (∃ W2, (w.alloc (.cells O.toArray 30)).alloc (.cells zRp.toArray 39) = W2) := Lib.hid ⟨_, rfl⟩
  generalize (w.alloc (.cells O.toArray 30)).alloc (.cells zRp.toArray 39) = w2 at *
  clear Z1 hW2
  refine region_free_last 11 mixed (by kernel_rfl) (by kernel_rfl) (fun u => ((_ :: _ :: _ :: _ :: _ :: _ :: _ :: _ :: u 0 :: u 1 :: u 2 :: u 3 :: u 4 :: u 5 :: u 6 :: u 7 :: u 8 :: u 9 :: u 10 :: _ :: _ :: _ :: _ :: _ :: _ :: _ :: _ :: _ :: _ :: _ :: _ :: _ :: _ :: _ :: _ :: _ :: _ :: _ :: _ :: _ :: _ :: _ :: _ :: _ :: []) : List Value).toArray) [] (fun _ => undef) rfl (NewBut w2) (show Below _ _ _ from (Below.refl _ _).drew) (psS b Y id none N 0 M) ?mono ?step ?last
  case mono =>
    intro i v W W' hv hC hC' hb
    match i with
    | 0 | 1 | 2 | 3 | 4 | 5 | 6 | 7 | 8 | 9 | 10 => exact hv
    | _ + 11 => trivial
  case step =>
    intro u W i o hi ho hC hd
    have hr := Below.refl W.heap.size W
    rcases i with _ | _ | _ | _ | _ | _ | _ | _ | _ | _ | _ | i
    all_goals try (simp only [List.getElem?_cons_zero, List.getElem?_cons_succ, Option.some.injEq] at ho; subst ho)
    · go_wp2_with fail
      exact ⟨_, rfl, rfl, hC, hr⟩
    · have h0 : u 0 = _ := hd ⟨0, .data⟩ (by simp) rfl
      have c0 := (K0.out.below hC K0.out.lt).cellOf HO1.out
      rw [h0]
      go_wp2_with fail
      exact ⟨.int .u32 (id : Int), by simp [upd, h0], rfl, hC, hr⟩
    · have h1 : u 1 = _ := hd ⟨1, .data⟩ (by simp) rfl
      rw [h1]
      go_wp2_with fail
      exact ⟨.int .u64 (id : Int), by simp [upd, h1], rfl, hC, hr⟩
    · go_wp2_with fail
      exact ⟨_, rfl, rfl, hC, hr⟩
    · have h3 : u 3 = _ := hd ⟨3, .data⟩ (by simp) rfl
      rw [h3]
      go_wp2_with fail
      exact ⟨.pointer (some ⟨b, 0, none⟩), by simp [upd, h3], rfl, hC, hr⟩
    · have h3 : u 4 = _ := hd ⟨4, .data⟩ (by simp) rfl
      rw [h3]
      go_wp2_with fail
      exact ⟨.pointer (some ⟨b, 0, none⟩), by simp [upd, h3], rfl, hC, hr⟩
    · have h3 : u 5 = _ := hd ⟨5, .data⟩ (by simp) rfl
      have c0 := (HI2.out.below hC).vers
      obtain ⟨p', c', e', c0, _, _⟩ := c0
      rw [HN.out] at e' c0
      simp only [Value.slice.injEq] at e'
      obtain ⟨e1, -, e2⟩ := e'
      rw [← e1, ← e2] at c0
      rw [h3]
      clear e1 e2
      go_wp2_with fail
      exact ⟨.slice none N 0, by simp [upd, h3], rfl, hC, hr⟩
    · have h3 : u 6 = _ := hd ⟨6, .data⟩ (by simp) rfl
      rw [h3]
      go_wp2_with fail
      exact ⟨.int .i64 (N : Int), by simp [upd, h3], rfl, hC, hr⟩
    · have h3 : u 7 = _ := hd ⟨7, .data⟩ (by simp) rfl
      rw [h3]
      go_wp2_with fail
      exact ⟨.int .u64 (N : Int), by simp [upd, h3], rfl, hC, hr⟩
    · have h2 : u 2 = _ := hd ⟨2, .data⟩ (by simp) rfl
      have h8 : u 8 = _ := hd ⟨8, .data⟩ (by simp) rfl
      rw [h2, h8]
      go_wp2_with (refine wpList_min2U rfl _ _ 78 rfl (id : Int) (N : Int) (M : Int) rfl rfl HMIN.out ?_)
      exact ⟨.int .u64 (M : Int), by simp [upd, h2, h8], rfl, hC, hr⟩
    · have h9 : u 9 = _ := hd ⟨9, .data⟩ (by simp) rfl
      rw [h9]
      go_wp2_with fail
      exact ⟨.int .i64 (M : Int), by simp [upd, h9], rfl, hC, hr⟩
    · omega
  case last =>
    intro u W o ho hC hS
    simp only [List.getElem?_cons_zero, List.getElem?_cons_succ, Option.some.injEq] at ho
    subst ho
    have h10 : u 10 = .int .i64 (M : Int) := hS 10 (by decide)
    have iW := HI2.out.below hC
    have cW := iW.vers
    obtain ⟨p', c'', e', cW, hVW, _⟩ := cW
    rw [HN.out] at e' cW hVW
    simp only [Value.slice.injEq] at e'
    obtain ⟨e1, -, e2⟩ := e'
    rw [← e1, ← e2] at cW hVW
    have hids := u_ids (s.vers.take G) none 0 W (by rw [List.length_take, HN.out]; omega) (by
      rw [show (s.vers.take G).length = G by rw [List.length_take, HN.out]; omega]
      have hG0 : G = 0 := by have h1 := HN.out; rw [hnil, List.length_nil] at h1; omega
      rw [hG0, List.take_zero]
      exact VsV.nil W)
    rw [show (s.vers.take G).length = G by rw [List.length_take, HN.out]; omega] at hids
    have hG0 : G = 0 := by have h1 := HN.out; rw [hnil, List.length_nil] at h1; omega
    rw [show Value.slice none G 0 = Value.slice none 0 0 by rw [hG0]] at hids
    clear hG0
    have HIDS := Lib.hid hids
    have hsub := HSUB.out
    have hGc : G ≤ 0 := by omega
    have IW := Lib.hid iW
    have HCW := Lib.hid hC
    have kW := K1.out.below hC K1.out.lt
    have KW := Lib.hid kW
    have TW := Lib.hid (HTN.out.below' hC HZ2.out)
    have HZW : Hid (base ≤ W.heap.size) := Lib.hid (Nat.le_trans HZ2.out hC.size)
    rw [h10]
    clear hC hS iW e1 e2 hVW hids kW
    go_wp2_with fail
    (with_reducible refine HIDS.out.mono ?_)
    rintro e w5 ⟨v5, rfl, o5, b5⟩
    have lrep := rep_ids o5
    obtain ⟨p5, c5, e5⟩ := o5.isSlice
    rw [rowsU_len, List.length_map, show (s.vers.take G).length = G by rw [List.length_take, HN.out]; omega] at e5
    subst e5
    obtain ⟨R, hR⟩ : ∃ R, cellsR 0 (.slice p5 G c5) 0 (.slice none 0 0) (.slice none 0 0) (.slice none 0 0) = R := ⟨_, rfl⟩
    have hbd := fun wx => build_rIds wx p5 G c5
    simp only [hR] at lrep hbd
    obtain ⟨Z, hZ⟩ : ∃ Z, w5.heap.size = Z := ⟨_, rfl⟩
    have k0 := Blk.newAt w5 Z hZ 39 (c := zRp.toArray) zRp rfl
    have k6 := k0.row R (by rw [lrep.len]; rfl)
    have b6 : Below w5.heap.size w5 ((w5.alloc (.cells zRp.toArray 39)).setRow Z R.toArray) := below_setRow ((Below.refl _ _).alloc (Nat.le_refl _) _) (by omega) _
    have i6 := (IW.out.below b5).below b6
    have r6 := lrep.sub (ew_lf (Lf.below b6))
    have t6 := (TW.out.below' b5 HZW.out).below' b6 (Nat.le_trans HZW.out b5.size)
    have kr6 := (KW.out.below b5 KW.out.lt).below b6 (by have := (KW.out.below b5 KW.out.lt).lt; exact this)
    have hz6 : base ≤ ((w5.alloc (.cells zRp.toArray 39)).setRow Z R.toArray).heap.size := Nat.le_trans (Nat.le_trans HZW.out b5.size) b6.size
    have hYZ : Y + 1 ≠ Z := by have := (KW.out.below b5 KW.out.lt).lt; omega
    have hbZ : b ≠ Z := by have := (IW.out.below b5).lt; omega
    have HZ5 := Lib.hid hZ
    have HBD := Lib.hid hbd
    have K0Z := Lib.hid k0
    have K6 := Lib.hid k6
    have I6 := Lib.hid i6
    have R6 := Lib.hid r6
    have T6 := Lib.hid t6
    have KR6 := Lib.hid kr6
    have HZ6 := Lib.hid hz6
    have HRL := Lib.hid lrep.len
    have HRO := Lib.hid (rep_oneV lrep)
    clear o5 b5 lrep hR hbd hZ k0 k6 b6 i6 r6 t6 kr6 hz6 cW hsub hcap
    go_upto_region 4 with (first | (refine wpList_build_at rfl 39 _ rfl (.agg R.toArray) (by simp only [List.map_toArray, List.map_cons, List.map_nil]; exact HBD.out _) ?_) | (refine wpList_alloc_n rfl 39 rfl Z HZ5.out _ (alloc_rep _) ?_) | (refine wpList_store_blk rfl 39 _ _ rfl Z R rfl rfl K0Z.out (by rw [size_rep, HRL.out]) (by rw [HRL.out]; rfl) HRO.out ?_))
    clear K0Z HZ5
    generalize (w5.alloc (.cells zRp.toArray 39)).setRow Z R.toArray = w6 at *
    obtain ⟨hb0, S, hbS, hNS⟩ := I6.out
    obtain ⟨rows, hO, hT, hRl, hS0⟩ := hNS.own
    have c6 := hbS.cellOf hS0
    rw [HN.out] at c6 hO hS0
    have hD : Calls Try.prog 57 #[.slice none N 0, .int .i64 0, .int .i64 (G : Int)] w6 fun e w' => ∃ m c', e = .returned (.slice none m c') ∧ OwnR w' base 28 4 (.slice none m c') (rows.drop G) ∧ w6.grownBy w' (Value.slice none N 0).ownBlock := by
      have := u_delete base rows none N 0 0 G w6 (by exact hO) (by rw [hRl, HN.out]) (tell_one (hT.sub (ew_sub w6))) (by omega) (Nat.zero_le _) hGN
      rw [List.take_zero, List.nil_append] at this
      exact this
    have HD := Lib.hid hD
    have HOW := Lib.hid hO
    have HTW := Lib.hid hT
    have HBS := Lib.hid hbS
    have HS0 := Lib.hid hS0
    clear hb0 hbS hNS hO hT hRl hS0 hD
    go_wp2_with fail
    (with_reducible refine HD.out.mono ?_)
    rintro e w7 ⟨m, c7, rfl, o7, g7⟩
    have hbp : ∀ i, (Value.slice none N 0).ownBlock = some i → i ≠ b := HOW.out.ne HBS.out (by decide)
    have hbr : ∀ i, (Value.slice none N 0).ownBlock = some i → i ≠ Y + 1 := HOW.out.ne KR6.out (by decide)
    have hbz : ∀ i, (Value.slice none N 0).ownBlock = some i → i ≠ Z := HOW.out.ne K6.out (by decide)
    have kb7 := HBS.out.grownP g7 (fun e => hbp b e rfl)
    have kr7 := KR6.out.grownP g7 (fun e => hbr (Y + 1) e rfl)
    have kz7 := K6.out.grownP g7 (fun e => hbz Z e rfl)
    have l7 : Lf w6 w7 := Lf.grown g7 fun i e _ => by
      obtain ⟨vs, hB⟩ := HOW.out.blkAt i e
      exact ⟨_, vs, hB, by decide⟩
    have l8 : Lf w6 (w7.setCell ⟨b, 0, none⟩ (.slice none m c7)) := l7.trans (Lf.cell (a := ⟨b, 0, none⟩) kb7 (by decide) _)
    have o8 := o7.cellOther kb7 (by decide) 0 (.slice none m c7)
    have kr8 := kr7.other (a := ⟨b, 0, none⟩) hbY (.slice none m c7)
    have kz8 := kz7.other (a := ⟨b, 0, none⟩) hbZ (.slice none m c7)
    have i8 := I6.out.set (w' := w7.setCell ⟨b, 0, none⟩ (.slice none m c7)) (vv' := .slice none m c7) (L := s.vers.drop G) l8 (fun S' hS' => by
      exact (hS'.grownP g7 (fun e => hbp b e rfl)).set 0 _) o8 ((HTW.out.drop G).sub (ew_lf l8))
    have t8 := ((T6.out.grownV (vv' := .slice none m c7) (d := w7) (by rw [own_p (p := none) (n := m) (c := c7) (m := N) (d := 0)]; exact g7) (.inl own_p) HZ6.out (fun i e => (HOW.out.lt i e).1))).cell (R := b) (o := 0) hlt.1 (.inl (.inl rfl)) (.slice none m c7)
    have r8 := R6.out.sub (ew_lf l8)
    have cb := kb7.cellOf HS0.out
    have fb := kb7.free 0
    have I8 := Lib.hid i8
    have T8 := Lib.hid t8
    have KR8 := Lib.hid kr8
    have KZ8 := Lib.hid kz8
    have R8 := Lib.hid r8
    clear o7 g7 hbp hbr hbz kb7 kr7 kz7 l7 l8 o8 kr8 kz8 i8 t8 r8 c6
    go_upto_region 5 with fail
    generalize w7.setCell ⟨b, 0, none⟩ (.slice none m c7) = w8 at *
    clear cb fb
    obtain ⟨e1, e2, e3, e4, e5, e6⟩ := deed_end (w := w) hbY (by omega) hBY KR8.out R8.out I8.out T8.out
    have E1 := Lib.hid e1
    have E2 := Lib.hid e2
    have E3 := Lib.hid e3
    have E4 := Lib.hid e4
    have E5 := Lib.hid e5
    have E6 := Lib.hid e6
    clear e1 e2 e3 e4 e5 e6
    go_wp2_with (first | (refine wpList_load_blk rfl 39 _ rfl Z rfl KZ8.out Try.underlying39 rfl (by rw [size_rep, HRL.out]) ?_) | (refine wpList_store_blk rfl 39 _ _ rfl (Y + 1) R rfl rfl KR8.out (by rw [size_rep, E5.out]) (by rw [E5.out]; rfl) E6.out ?_))
    refine bodyPost_ret (v := .agg (R).toArray) (results_cell_blk rfl _ _ (Y + 1) rfl E4.out Try.underlying39 rfl (by rw [size_rep, E5.out])) rfl ?_
    exact ⟨_, _, rfl, E1.out, E2.out, E3.out⟩
end Go.Proofs.Ytogonbgelaehhaa
namespace Go.Proofs.Ytogonbgelaehhaa
open Go.RowKit
set_option linter.unusedVariables false

set_option maxRecDepth 100000 in
set_option maxHeartbeats 4000000 in
theorem u_put_arg (s : StU RawV) (vo : Value) (kind : Int) (id : Nat) (a : RawV) (base b : Nat) (vv : Value) (w : World) (hI : StI w base b vv s) (ho : OpTold w vo kind id a) (hg : StS s) (hva : VerS a) (hm : mayR a = false) :
    Calls Try.prog 50 #[.pointer (some ⟨b, 0, none⟩), vo] w (DeedRet base b vv s s.vers ⟨1, [], noV⟩ w) := by
  obtain ⟨O, rfl, hOl, hO0, hO1, hO2, hOv⟩ := op_cells ho
  obtain ⟨Y, hY⟩ : ∃ Y, w.heap.size = Y := ⟨_, rfl⟩
  have hlt := hI.lt
  have k0 := Blk.newAt w Y hY 30 (c := O.toArray) O rfl
  have z1 : (w.alloc (.cells O.toArray 30)).heap.size = Y + 1 := by simp [hY]
  have k1 := Blk.newAt _ (Y + 1) z1 39 (c := zRp.toArray) zRp rfl
  have kb := ((Below.refl w.heap.size w).alloc (Nat.le_refl _) (.cells O.toArray 30)).alloc (by simp) (.cells zRp.toArray 39)
  have k0' := k0.alloc (.cells zRp.toArray 39)
  have hI2 := hI.below kb
  have htn : Turn base w ((w.alloc (.cells O.toArray 30)).alloc (.cells zRp.toArray 39)) (stF b vv) (stF b vv) := Turn.of_below kb (by omega)
  have K0 := Lib.hid k0'
  have K1 := Lib.hid k1
  have Z1 := Lib.hid z1
  have HTN := Lib.hid htn
  have HI2 := Lib.hid hI2
  have HOV := Lib.hid (hOv.below kb)
  have HO0 := Lib.hid hO0
  have HO1 := Lib.hid hO1
  have HO2 := Lib.hid hO2
  have HOL := Lib.hid hOl
  have HG := Lib.hid hg
  have hbY : b ≠ Y + 1 := by omega
  have hBY : base ≤ Y + 1 := by omega
  have HZ2 : Hid (base ≤ ((w.alloc (.cells O.toArray 30)).alloc (.cells zRp.toArray 39)).heap.size) := Lib.hid (by simp; omega)
  clear k0 k0' k1 z1 kb hI hI2 htn hOl hO0 hO1 hO2 hOv ho hg
  have hvl := hva.2
  have hvo := hva.1
  have hov := HOV.out
  have hq4 : (O.drop 2).length = 4 := by rw [List.length_drop, HOL.out]
  have HM := Lib.hid (h_May a (.agg (O.drop 2).toArray) false _ hm hov hvo.2.2.1 hvl.1 hvl.2.1 hvl.2.2)
  have hcl : ∀ i x, (O.drop 2)[i]? = some x → ((w.alloc (.cells O.toArray 30)).alloc (.cells zRp.toArray 39)).cell? ((⟨Y, 2, none⟩ : Addr).add i) = some x := fun i x hx => by
    rw [Addr.add_mid, K0.out.cell]
    rw [List.getElem?_drop] at hx
    exact hx
  have HCL := Lib.hid hcl
  have HQ4 := Lib.hid hq4
  have HVL := Lib.hid hvl
  clear hva hm hvl hvo hov hq4 hcl
  go_enter Try.func50, Try.ntmps50
  go_wp2_with (first | (refine wpList_alloc_n rfl 39 rfl (Y + 1) Z1.out _ (alloc_rep _) ?_) | (refine wpList_load_addr rfl 28 _ rfl ⟨Y, 2, none⟩ rfl (O.drop 2) HCL.out Try.underlying28 rfl (by rw [size_ver, HQ4.out]) ?_))
  (with_reducible refine HM.out.mono ?_)
  rintro e w3 ⟨rfl, b3⟩
  have hz3 := b3.size
  have t3 := HTN.out.below' b3 HZ2.out
  have i3 := HI2.out.below b3
  have k3 := K1.out.below b3 K1.out.lt
  have k03 := K0.out.below b3 K0.out.lt
  have T3 := Lib.hid t3
  have I3 := Lib.hid i3
  have K3 := Lib.hid k3
  have K03 := Lib.hid k03
  have HZ3 : Hid (base ≤ w3.heap.size) := Lib.hid (Nat.le_trans HZ2.out hz3)
  have HOV3 := Lib.hid (HOV.out.below b3)
  clear b3 t3 i3 k3 k03 hz3 HM HCL
  go_wp2_with fail
  refine (u_fault 1 w3).mono ?_
  rintro e w9 ⟨rfl, b9⟩
  have kr := K3.out.below b9 K3.out.lt
  obtain ⟨e1, e2, e3, e4, e5, e6⟩ := deed_end (w := w) hbY (by omega) hBY kr (eR_told (ew w9) 1) (I3.out.below b9) (T3.out.below' b9 HZ3.out)
  have E1 := Lib.hid e1
  have E2 := Lib.hid e2
  have E3 := Lib.hid e3
  have E4 := Lib.hid e4
  have E5 := Lib.hid e5
  have E6 := Lib.hid e6
  clear e1 e2 e3 e4 e5 e6
  have KR := Lib.hid kr
  clear b9 kr
  go_wp2_with (refine wpList_store_blk rfl 39 _ _ rfl (Y + 1) (eR 1) rfl rfl KR.out (by rw [size_rep, E5.out]) (by rw [E5.out]; rfl) E6.out ?_)
  refine bodyPost_ret (v := .agg (eR 1).toArray) (results_cell_blk rfl _ _ (Y + 1) rfl E4.out Try.underlying39 rfl (by rw [size_rep, E5.out])) rfl ?_
  exact ⟨_, _, rfl, E1.out, E2.out, E3.out⟩
set_option maxRecDepth 100000 in
set_option maxHeartbeats 4000000 in
theorem u_put_twice (s : StU RawV) (vo : Value) (kind : Int) (id : Nat) (a : RawV) (base b : Nat) (vv : Value) (w : World) (hI : StI w base b vv s) (ho : OpTold w vo kind id a) (hg : StS s) (hva : VerS a) (hm : mayR a = true) (k : Nat) (hf : findV s.vers a.id = (k : Int)) :
    Calls Try.prog 50 #[.pointer (some ⟨b, 0, none⟩), vo] w (DeedRet base b vv s s.vers ⟨4, [], noV⟩ w) := by
  obtain ⟨O, rfl, hOl, hO0, hO1, hO2, hOv⟩ := op_cells ho
  obtain ⟨Y, hY⟩ : ∃ Y, w.heap.size = Y := ⟨_, rfl⟩
  have hlt := hI.lt
  have k0 := Blk.newAt w Y hY 30 (c := O.toArray) O rfl
  have z1 : (w.alloc (.cells O.toArray 30)).heap.size = Y + 1 := by simp [hY]
  have k1 := Blk.newAt _ (Y + 1) z1 39 (c := zRp.toArray) zRp rfl
  have kb := ((Below.refl w.heap.size w).alloc (Nat.le_refl _) (.cells O.toArray 30)).alloc (by simp) (.cells zRp.toArray 39)
  have k0' := k0.alloc (.cells zRp.toArray 39)
  have hI2 := hI.below kb
  have htn : Turn base w ((w.alloc (.cells O.toArray 30)).alloc (.cells zRp.toArray 39)) (stF b vv) (stF b vv) := Turn.of_below kb (by omega)
  have K0 := Lib.hid k0'
  have K1 := Lib.hid k1
  have Z1 := Lib.hid z1
  have HTN := Lib.hid htn
  have HI2 := Lib.hid hI2
  have HOV := Lib.hid (hOv.below kb)
  have HO0 := Lib.hid hO0
  have HO1 := Lib.hid hO1
  have HO2 := Lib.hid hO2
  have HOL := Lib.hid hOl
  have HG := Lib.hid hg
  have hbY : b ≠ Y + 1 := by omega
  have hBY : base ≤ Y + 1 := by omega
  have HZ2 : Hid (base ≤ ((w.alloc (.cells O.toArray 30)).alloc (.cells zRp.toArray 39)).heap.size) := Lib.hid (by simp; omega)
  clear k0 k0' k1 z1 kb hI hI2 htn hOl hO0 hO1 hO2 hOv ho hg
  have hvl := hva.2
  have hvo := hva.1
  have hov := HOV.out
  have hq4 : (O.drop 2).length = 4 := by rw [List.length_drop, HOL.out]
  have HM := Lib.hid (h_May a (.agg (O.drop 2).toArray) true _ hm hov hvo.2.2.1 hvl.1 hvl.2.1 hvl.2.2)
  have hcl : ∀ i x, (O.drop 2)[i]? = some x → ((w.alloc (.cells O.toArray 30)).alloc (.cells zRp.toArray 39)).cell? ((⟨Y, 2, none⟩ : Addr).add i) = some x := fun i x hx => by
    rw [Addr.add_mid, K0.out.cell]
    rw [List.getElem?_drop] at hx
    exact hx
  have HCL := Lib.hid hcl
  have HQ4 := Lib.hid hq4
  have HVL := Lib.hid hvl
  clear hva hm hvl hvo hov hq4 hcl
  go_enter Try.func50, Try.ntmps50
  go_wp2_with (first | (refine wpList_alloc_n rfl 39 rfl (Y + 1) Z1.out _ (alloc_rep _) ?_) | (refine wpList_load_addr rfl 28 _ rfl ⟨Y, 2, none⟩ rfl (O.drop 2) HCL.out Try.underlying28 rfl (by rw [size_ver, HQ4.out]) ?_))
  (with_reducible refine HM.out.mono ?_)
  rintro e w3 ⟨rfl, b3⟩
  have hz3 := b3.size
  have t3 := HTN.out.below' b3 HZ2.out
  have i3 := HI2.out.below b3
  have k3 := K1.out.below b3 K1.out.lt
  have k03 := K0.out.below b3 K0.out.lt
  have T3 := Lib.hid t3
  have I3 := Lib.hid i3
  have K3 := Lib.hid k3
  have K03 := Lib.hid k03
  have HZ3 : Hid (base ≤ w3.heap.size) := Lib.hid (Nat.le_trans HZ2.out hz3)
  have HOV3 := Lib.hid (HOV.out.below b3)
  clear b3 t3 i3 k3 k03 hz3 HM HCL
  have v3 := I3.out.vers
  obtain ⟨p, c, rfl, hcell, hV, hcap⟩ := v3
  have HF := Lib.hid (u_find s.vers p c a.id b (k : Int) true w3 (by have := HG.out.1.vers.few; omega) hf (by simp) hcell hV)
  have c2 := K03.out.cellOf HO2.out
  clear hV hf hcell
  go_wp2_with fail
  (with_reducible refine HF.out.mono ?_)
  rintro e w5 ⟨rfl, b5⟩
  have hz5 := b5.size
  have t5 := T3.out.below' b5 HZ3.out
  have i5 := I3.out.below b5
  have k5 := K3.out.below b5 K3.out.lt
  have k05 := K03.out.below b5 K03.out.lt
  have T5 := Lib.hid t5
  have I5 := Lib.hid i5
  have K5 := Lib.hid k5
  have K05 := Lib.hid k05
  have HZ5 : Hid (base ≤ w5.heap.size) := Lib.hid (Nat.le_trans HZ3.out hz5)
  have HOV5 := Lib.hid (HOV3.out.below b5)
  clear c2 b5 t5 i5 k5 k05 hz5 HF
  go_wp2_with fail
  refine (u_fault 4 w5).mono ?_
  rintro e w9 ⟨rfl, b9⟩
  have kr := K5.out.below b9 K5.out.lt
  obtain ⟨e1, e2, e3, e4, e5, e6⟩ := deed_end (w := w) hbY (by omega) hBY kr (eR_told (ew w9) 4) (I5.out.below b9) (T5.out.below' b9 HZ5.out)
  have E1 := Lib.hid e1
  have E2 := Lib.hid e2
  have E3 := Lib.hid e3
  have E4 := Lib.hid e4
  have E5 := Lib.hid e5
  have E6 := Lib.hid e6
  clear e1 e2 e3 e4 e5 e6
  have KR := Lib.hid kr
  clear b9 kr
  go_wp2_with (refine wpList_store_blk rfl 39 _ _ rfl (Y + 1) (eR 4) rfl rfl KR.out (by rw [size_rep, E5.out]) (by rw [E5.out]; rfl) E6.out ?_)
  refine bodyPost_ret (v := .agg (eR 4).toArray) (results_cell_blk rfl _ _ (Y + 1) rfl E4.out Try.underlying39 rfl (by rw [size_rep, E5.out])) rfl ?_
  exact ⟨_, _, rfl, E1.out, E2.out, E3.out⟩
set_option maxRecDepth 100000 in
set_option maxHeartbeats 4000000 in
theorem u_put_full (s : StU RawV) (vo : Value) (kind : Int) (id : Nat) (a : RawV) (base b : Nat) (vv : Value) (w : World) (hI : StI w base b vv s) (ho : OpTold w vo kind id a) (hg : StS s) (hva : VerS a) (hm : mayR a = true) (hf : findV s.vers a.id = -1) (h8 : 8 ≤ s.vers.length) :
    Calls Try.prog 50 #[.pointer (some ⟨b, 0, none⟩), vo] w (DeedRet base b vv s s.vers ⟨2, [], noV⟩ w) := by
  obtain ⟨O, rfl, hOl, hO0, hO1, hO2, hOv⟩ := op_cells ho
  obtain ⟨Y, hY⟩ : ∃ Y, w.heap.size = Y := ⟨_, rfl⟩
  have hlt := hI.lt
  have k0 := Blk.newAt w Y hY 30 (c := O.toArray) O rfl
  have z1 : (w.alloc (.cells O.toArray 30)).heap.size = Y + 1 := by simp [hY]
  have k1 := Blk.newAt _ (Y + 1) z1 39 (c := zRp.toArray) zRp rfl
  have kb := ((Below.refl w.heap.size w).alloc (Nat.le_refl _) (.cells O.toArray 30)).alloc (by simp) (.cells zRp.toArray 39)
  have k0' := k0.alloc (.cells zRp.toArray 39)
  have hI2 := hI.below kb
  have htn : Turn base w ((w.alloc (.cells O.toArray 30)).alloc (.cells zRp.toArray 39)) (stF b vv) (stF b vv) := Turn.of_below kb (by omega)
  have K0 := Lib.hid k0'
  have K1 := Lib.hid k1
  have Z1 := Lib.hid z1
  have HTN := Lib.hid htn
  have HI2 := Lib.hid hI2
  have HOV := Lib.hid (hOv.below kb)
  have HO0 := Lib.hid hO0
  have HO1 := Lib.hid hO1
  have HO2 := Lib.hid hO2
  have HOL := Lib.hid hOl
  have HG := Lib.hid hg
  have hbY : b ≠ Y + 1 := by omega
  have hBY : base ≤ Y + 1 := by omega
  have HZ2 : Hid (base ≤ ((w.alloc (.cells O.toArray 30)).alloc (.cells zRp.toArray 39)).heap.size) := Lib.hid (by simp; omega)
  clear k0 k0' k1 z1 kb hI hI2 htn hOl hO0 hO1 hO2 hOv ho hg
  have hvl := hva.2
  have hvo := hva.1
  have hov := HOV.out
  have hq4 : (O.drop 2).length = 4 := by rw [List.length_drop, HOL.out]
  have HM := Lib.hid (h_May a (.agg (O.drop 2).toArray) true _ hm hov hvo.2.2.1 hvl.1 hvl.2.1 hvl.2.2)
  have hcl : ∀ i x, (O.drop 2)[i]? = some x → ((w.alloc (.cells O.toArray 30)).alloc (.cells zRp.toArray 39)).cell? ((⟨Y, 2, none⟩ : Addr).add i) = some x := fun i x hx => by
    rw [Addr.add_mid, K0.out.cell]
    rw [List.getElem?_drop] at hx
    exact hx
  have HCL := Lib.hid hcl
  have HQ4 := Lib.hid hq4
  have HVL := Lib.hid hvl
  clear hva hm hvl hvo hov hq4 hcl
  go_enter Try.func50, Try.ntmps50
  go_wp2_with (first | (refine wpList_alloc_n rfl 39 rfl (Y + 1) Z1.out _ (alloc_rep _) ?_) | (refine wpList_load_addr rfl 28 _ rfl ⟨Y, 2, none⟩ rfl (O.drop 2) HCL.out Try.underlying28 rfl (by rw [size_ver, HQ4.out]) ?_))
  (with_reducible refine HM.out.mono ?_)
  rintro e w3 ⟨rfl, b3⟩
  have hz3 := b3.size
  have t3 := HTN.out.below' b3 HZ2.out
  have i3 := HI2.out.below b3
  have k3 := K1.out.below b3 K1.out.lt
  have k03 := K0.out.below b3 K0.out.lt
  have T3 := Lib.hid t3
  have I3 := Lib.hid i3
  have K3 := Lib.hid k3
  have K03 := Lib.hid k03
  have HZ3 : Hid (base ≤ w3.heap.size) := Lib.hid (Nat.le_trans HZ2.out hz3)
  have HOV3 := Lib.hid (HOV.out.below b3)
  clear b3 t3 i3 k3 k03 hz3 HM HCL
  have v3 := I3.out.vers
  obtain ⟨p, c, rfl, hcell, hV, hcap⟩ := v3
  have HF := Lib.hid (u_find s.vers p c a.id b (-1) false w3 (by have := HG.out.1.vers.few; omega) hf (by simp) hcell hV)
  have c2 := K03.out.cellOf HO2.out
  clear hV hf hcell
  go_wp2_with fail
  (with_reducible refine HF.out.mono ?_)
  rintro e w5 ⟨rfl, b5⟩
  have hz5 := b5.size
  have t5 := T3.out.below' b5 HZ3.out
  have i5 := I3.out.below b5
  have k5 := K3.out.below b5 K3.out.lt
  have k05 := K03.out.below b5 K03.out.lt
  have T5 := Lib.hid t5
  have I5 := Lib.hid i5
  have K5 := Lib.hid k5
  have K05 := Lib.hid k05
  have HZ5 : Hid (base ≤ w5.heap.size) := Lib.hid (Nat.le_trans HZ3.out hz5)
  have HOV5 := Lib.hid (HOV3.out.below b5)
  clear c2 b5 t5 i5 k5 k05 hz5 HF
  have v5 := I5.out.vers
  obtain ⟨p', c', e', c5, hV5, hcap5⟩ := v5
  simp only [Value.slice.injEq] at e'
  obtain ⟨rfl, -, rfl⟩ := e'
  have d8 : decide ((8 : Int) ≤ (s.vers.length : Int)) = true := by simp; omega
  have d8' : (8 : Int) ≤ (s.vers.length : Int) := by omega
  clear hV5
  go_wp2_with fail
  refine (u_fault 2 w5).mono ?_
  rintro e w9 ⟨rfl, b9⟩
  have kr := K5.out.below b9 K5.out.lt
  obtain ⟨e1, e2, e3, e4, e5, e6⟩ := deed_end (w := w) hbY (by omega) hBY kr (eR_told (ew w9) 2) (I5.out.below b9) (T5.out.below' b9 HZ5.out)
  have E1 := Lib.hid e1
  have E2 := Lib.hid e2
  have E3 := Lib.hid e3
  have E4 := Lib.hid e4
  have E5 := Lib.hid e5
  have E6 := Lib.hid e6
  clear e1 e2 e3 e4 e5 e6
  have KR := Lib.hid kr
  clear b9 kr
  go_wp2_with (refine wpList_store_blk rfl 39 _ _ rfl (Y + 1) (eR 2) rfl rfl KR.out (by rw [size_rep, E5.out]) (by rw [E5.out]; rfl) E6.out ?_)
  refine bodyPost_ret (v := .agg (eR 2).toArray) (results_cell_blk rfl _ _ (Y + 1) rfl E4.out Try.underlying39 rfl (by rw [size_rep, E5.out])) rfl ?_
  exact ⟨_, _, rfl, E1.out, E2.out, E3.out⟩
theorem Turn.grownW {base b : Nat} {a c d : World} {F : Nat → Prop} {vv vv' : Value} (h : Turn base a c F (stF b vv)) (hg : c.grownBy d vv.ownBlock) (hv : vv'.ownBlock = vv.ownBlock ∨ vv'.ownBlock = some c.heap.size) (hc : base ≤ c.heap.size) (hl : ∀ i, vv.ownBlock = some i → base ≤ i) : Turn base a d F (stF b vv') := by
  have h1 := h.grownV (vv' := vv) hg (.inl rfl) hc hl
  refine ⟨h1.b, h1.out, fun i hi => ?_⟩
  rcases hi with rfl | hi
  · exact h.new _ (.inl rfl)
  · rcases hv with hv | hv
    · rw [hv] at hi; exact h.new i (.inr hi)
    · rw [hv] at hi; cases hi; exact .inr h.b.size
def ptG (base : Nat) (vv : Value) (rows : List (List Value)) (a : RawV) (w5 : World) (v : Value) (W : World) : Prop :=
  ∃ (W0 : World) (r : List Value), NewBut w5 W0 ∧ W0.grownBy W vv.ownBlock ∧ (v.ownBlock = vv.ownBlock ∨ v.ownBlock = some W0.heap.size) ∧ OwnR W base 28 4 v (rows ++ [r]) ∧ VV (ew W) (.agg r.toArray) a
def ptS (b Y base : Nat) (vv : Value) (rows : List (List Value)) (q : List Value) (a : RawV) (w5 : World) (i : Nat) (v : Value) (W : World) : Prop := match i with
  | 0 => v = .pointer (some ⟨b, 0, none⟩) | 1 => v = .pointer (some ⟨b, 0, none⟩) | 2 => v = .pointer (some ⟨b, 0, none⟩) | 3 => v = .pointer (some ⟨b, 0, none⟩) | 4 => v = vv
  | 5 => v = .pointer (some ⟨Y, 2, none⟩) | 6 => v = .agg q.toArray | 7 => ∃ r : List Value, v = .agg r.toArray ∧ VV (ew W) (.agg r.toArray) a
  | 8 => ∃ (g : Nat) (r : List Value), w5.heap.size ≤ g ∧ v = .slice (some ⟨g, 0, none⟩) 1 1 ∧ Blk W g 28 r ∧ VV (ew W) (.agg r.toArray) a
  | 9 => ptG base vv rows a w5 v W | 10 => v = .pointer (some ⟨b, 0, none⟩) | 11 => v = .pointer (some ⟨b, 0, none⟩)
  | _ => True
def ptK (w5 : World) (bb : Bool) (W W' : World) : Prop := match bb with
  | true => W' = W
  | false => Lf W W' ∧ ∀ g, w5.heap.size ≤ g → g < W.heap.size → W'.heap[g]? = W.heap[g]?
def ptC (w5 : World) (bb : Bool) (W : World) : Prop := match bb with
  | true => True
  | false => NewBut w5 W
theorem ptS_mono {b Y base : Nat} {vv : Value} {rows : List (List Value)} {q : List Value} {a : RawV} {w5 : World} (bb : Bool) (i : Nat) (v : Value) (W W' : World) (hi : i = 9 → bb = true) (h : ptS b Y base vv rows q a w5 i v W) (hk : ptK w5 bb W W') : ptS b Y base vv rows q a w5 i v W' := by
  cases bb with
  | true =>
    have : W' = W := hk
    rw [this]; exact h
  | false =>
    obtain ⟨hl, hg⟩ := hk
    match i with
    | 0 | 1 | 2 | 3 | 4 | 5 | 6 | 10 | 11 => exact h
    | 7 =>
      obtain ⟨r, h1, h2⟩ := h
      exact ⟨r, h1, h2.sub (ew_lf hl)⟩
    | 8 =>
      obtain ⟨g, r, h1, h2, h3, h4⟩ := h
      exact ⟨g, r, h1, h2, (hg g h1 h3.lt).trans h3, h4.sub (ew_lf hl)⟩
    | 9 => exact absurd (hi rfl) (by decide)
    | _ + 12 => trivial
theorem ptK_below {w5 W W' : World} (hb : Below W.heap.size W W') : ptK w5 false W W' := ⟨Lf.below hb, fun g _ h => hb.block g h⟩
theorem vv_oneV {w : World} {r : List Value} {a : RawV} (h : VV w (.agg r.toArray) a) : r.toArray.all (·.oneCell') = true ∧ ∀ u ∈ r, u.oneCell' = true := by
  obtain ⟨_, _, _, _, _, _, rfl⟩ := h.row
  refine ⟨cellsV_one _ _ _ _ _ _ _ _ _ _, fun u hu => ?_⟩
  simp [cellsV] at hu
  rcases hu with rfl | rfl | rfl | rfl <;> rfl
set_option maxRecDepth 100000 in
set_option maxHeartbeats 4000000 in
theorem u_put_yes (s : StU RawV) (vo : Value) (kind : Int) (id : Nat) (a : RawV) (base b : Nat) (vv : Value) (w : World) (hI : StI w base b vv s) (ho : OpTold w vo kind id a) (hg : StS s) (hva : VerS a) (hm : mayR a = true) (hf : findV s.vers a.id = -1) (h8 : s.vers.length < 8) :
    Calls Try.prog 50 #[.pointer (some ⟨b, 0, none⟩), vo] w (DeedRet base b vv s (s.vers ++ [a]) ⟨0, [], noV⟩ w) := by
  obtain ⟨O, rfl, hOl, hO0, hO1, hO2, hOv⟩ := op_cells ho
  obtain ⟨Y, hY⟩ : ∃ Y, w.heap.size = Y := ⟨_, rfl⟩
  have hlt := hI.lt
  have k0 := Blk.newAt w Y hY 30 (c := O.toArray) O rfl
  have z1 : (w.alloc (.cells O.toArray 30)).heap.size = Y + 1 := by simp [hY]
  have k1 := Blk.newAt _ (Y + 1) z1 39 (c := zRp.toArray) zRp rfl
  have kb := ((Below.refl w.heap.size w).alloc (Nat.le_refl _) (.cells O.toArray 30)).alloc (by simp) (.cells zRp.toArray 39)
  have k0' := k0.alloc (.cells zRp.toArray 39)
  have hI2 := hI.below kb
  have htn : Turn base w ((w.alloc (.cells O.toArray 30)).alloc (.cells zRp.toArray 39)) (stF b vv) (stF b vv) := Turn.of_below kb (by omega)
  have K0 := Lib.hid k0'
  have K1 := Lib.hid k1
  have Z1 := Lib.hid z1
  have HTN := Lib.hid htn
  have HI2 := Lib.hid hI2
  have HOV := Lib.hid (hOv.below kb)
  have HO0 := Lib.hid hO0
  have HO1 := Lib.hid hO1
  have HO2 := Lib.hid hO2
  have HOL := Lib.hid hOl
  have HG := Lib.hid hg
  have hbY : b ≠ Y + 1 := by omega
  have hBY : base ≤ Y + 1 := by omega
  have HZ2 : Hid (base ≤ ((w.alloc (.cells O.toArray 30)).alloc (.cells zRp.toArray 39)).heap.size) := Lib.hid (by simp; omega)
  clear k0 k0' k1 z1 kb hI hI2 htn hOl hO0 hO1 hO2 hOv ho hg
  have hvl := hva.2
  have hvo := hva.1
  have hov := HOV.out
  have hq4 : (O.drop 2).length = 4 := by rw [List.length_drop, HOL.out]
  have HM := Lib.hid (h_May a (.agg (O.drop 2).toArray) true _ hm hov hvo.2.2.1 hvl.1 hvl.2.1 hvl.2.2)
  have hcl : ∀ i x, (O.drop 2)[i]? = some x → ((w.alloc (.cells O.toArray 30)).alloc (.cells zRp.toArray 39)).cell? ((⟨Y, 2, none⟩ : Addr).add i) = some x := fun i x hx => by
    rw [Addr.add_mid, K0.out.cell]
    rw [List.getElem?_drop] at hx
    exact hx
  have HCL := Lib.hid hcl
  have HQ4 := Lib.hid hq4
  have HVL := Lib.hid hvl
  clear hva hm hvl hvo hov hq4 hcl
  go_enter Try.func50, Try.ntmps50
  go_wp2_with (first | (refine wpList_alloc_n rfl 39 rfl (Y + 1) Z1.out _ (alloc_rep _) ?_) | (refine wpList_load_addr rfl 28 _ rfl ⟨Y, 2, none⟩ rfl (O.drop 2) HCL.out Try.underlying28 rfl (by rw [size_ver, HQ4.out]) ?_))
  (with_reducible refine HM.out.mono ?_)
  rintro e w3 ⟨rfl, b3⟩
  have hz3 := b3.size
  have t3 := HTN.out.below' b3 HZ2.out
  have i3 := HI2.out.below b3
  have k3 := K1.out.below b3 K1.out.lt
  have k03 := K0.out.below b3 K0.out.lt
  have T3 := Lib.hid t3
  have I3 := Lib.hid i3
  have K3 := Lib.hid k3
  have K03 := Lib.hid k03
  have HZ3 : Hid (base ≤ w3.heap.size) := Lib.hid (Nat.le_trans HZ2.out hz3)
  have HOV3 := Lib.hid (HOV.out.below b3)
  clear b3 t3 i3 k3 k03 hz3 HM HCL
  have v3 := I3.out.vers
  obtain ⟨p, c, rfl, hcell, hV, hcap⟩ := v3
  have HF := Lib.hid (u_find s.vers p c a.id b (-1) false w3 (by have := HG.out.1.vers.few; omega) hf (by simp) hcell hV)
  have c2 := K03.out.cellOf HO2.out
  clear hV hf hcell
  go_wp2_with fail
  (with_reducible refine HF.out.mono ?_)
  rintro e w5 ⟨rfl, b5⟩
  have hz5 := b5.size
  have t5 := T3.out.below' b5 HZ3.out
  have i5 := I3.out.below b5
  have k5 := K3.out.below b5 K3.out.lt
  have k05 := K03.out.below b5 K03.out.lt
  have T5 := Lib.hid t5
  have I5 := Lib.hid i5
  have K5 := Lib.hid k5
  have K05 := Lib.hid k05
  have HZ5 : Hid (base ≤ w5.heap.size) := Lib.hid (Nat.le_trans HZ3.out hz5)
  have HOV5 := Lib.hid (HOV3.out.below b5)
  clear c2 b5 t5 i5 k5 k05 hz5 HF
  have v5 := I5.out.vers
  obtain ⟨p', c', e', c5, hV5, hcap5⟩ := v5
  simp only [Value.slice.injEq] at e'
  obtain ⟨rfl, -, rfl⟩ := e'
  have d8 : decide ((8 : Int) ≤ (s.vers.length : Int)) = false := by simp; omega
  have d8' : (s.vers.length : Int) < (8 : Int) := by omega
  obtain ⟨hb0, S, hbS, hNS⟩ := I5.out
  obtain ⟨rows, hO, hT, hRl, hS0⟩ := hNS.own
  obtain ⟨i0, hi0, hz0, hz1, hz2⟩ := info_parts2 info_verV
  have HOW := Lib.hid hO
  have HTW := Lib.hid hT
  have HBS := Lib.hid hbS
  have HS0 := Lib.hid hS0
  have HRL := Lib.hid hRl
  have HI0 := Lib.hid hi0
  have HZ0 := Lib.hid hz0
  have HZ1 := Lib.hid hz1
  have HZ2' := Lib.hid hz2
  clear hV5 hb0 hbS hNS hO hT hRl hS0 hi0 hz0 hz1 hz2
  go_upto_region 8 with fail
  refine region_mix 9 12 (by decide) mixed (by kernel_rfl) (by kernel_rfl) (fun u => ((_ :: _ :: _ :: _ :: _ :: _ :: _ :: _ :: _ :: _ :: _ :: _ :: _ :: _ :: _ :: _ :: _ :: _ :: _ :: _ :: _ :: _ :: _ :: _ :: _ :: _ :: _ :: _ :: _ :: u 0 :: u 1 :: u 2 :: u 3 :: u 4 :: u 5 :: u 6 :: u 7 :: u 8 :: u 9 :: u 10 :: u 11 :: _ :: []) : List Value).toArray) [] (fun _ => undef) rfl (ptC w5) (show Below _ _ _ from (Below.refl _ _).drew) (ptK w5) (ptS b Y base (.slice p s.vers.length c) rows (O.drop 2) a w5) ?mono ?step ?one ?last
  case mono => exact ptS_mono
  case step =>
    intro bb u W j o hj hjk hnb ho hC hd
    have hr : ptK w5 bb W W := by
      cases bb with
      | true => rfl
      | false => exact ⟨Lf.refl _, fun _ _ _ => rfl⟩
    rcases j with _ | _ | _ | _ | _ | _ | _ | _ | _ | _ | _ | _ | j
    all_goals try (simp only [List.getElem?_cons_zero, List.getElem?_cons_succ, Option.some.injEq] at ho; subst ho)
    · go_wp2_with fail
      exact ⟨_, rfl, rfl, hC, hr⟩
    · go_wp2_with fail
      exact ⟨_, rfl, rfl, hC, hr⟩
    · have h1 : u 1 = .pointer (some ⟨b, 0, none⟩) := hd ⟨1, .data⟩ (by simp) rfl
      rw [h1]
      go_wp2_with fail
      exact ⟨.pointer (some ⟨b, 0, none⟩), by simp [upd, h1], rfl, hC, hr⟩
    · have h1 : u 2 = .pointer (some ⟨b, 0, none⟩) := hd ⟨2, .data⟩ (by simp) rfl
      rw [h1]
      go_wp2_with fail
      exact ⟨.pointer (some ⟨b, 0, none⟩), by simp [upd, h1], rfl, hC, hr⟩
    · have h1 : u 3 = .pointer (some ⟨b, 0, none⟩) := hd ⟨3, .data⟩ (by simp) rfl
      cases bb with
      | true => exact absurd (hnb rfl) (by rw [show (needK _ 12 (needs _ [9])).contains 4 = true by kernel_rfl]; decide)
      | false =>
        have c0 := (HBS.out.below hC HBS.out.lt).cellOf HS0.out
        rw [h1]
        go_wp2_with fail
        exact ⟨.slice p s.vers.length c, by simp [upd, h1], rfl, hC, hr⟩
    · go_wp2_with fail
      exact ⟨_, rfl, rfl, hC, hr⟩
    · have h1 : u 5 = .pointer (some ⟨Y, 2, none⟩) := hd ⟨5, .data⟩ (by simp) rfl
      cases bb with
      | true => exact absurd (hnb rfl) (by rw [show (needK _ 12 (needs _ [9])).contains 6 = true by kernel_rfl]; decide)
      | false =>
        have hcl : ∀ i x, (O.drop 2)[i]? = some x → W.cell? ((⟨Y, 2, none⟩ : Addr).add i) = some x := fun i x hx => by
          rw [Addr.add_mid, (K05.out.below hC K05.out.lt).cell]
          rw [List.getElem?_drop] at hx
          exact hx
        have HCL := Lib.hid hcl
        clear hcl
        rw [h1]
        go_wp2_with (refine wpList_load_addr rfl 28 _ rfl ⟨Y, 2, none⟩ rfl (O.drop 2) HCL.out Try.underlying28 rfl (by rw [size_ver, HQ4.out]) ?_)
        exact ⟨.agg (O.drop 2).toArray, by simp [upd, h1], rfl, hC, hr⟩
    · have h1 : u 6 = .agg (O.drop 2).toArray := hd ⟨6, .data⟩ (by simp) rfl
      cases bb with
      | true => exact absurd (hnb rfl) (by rw [show (needK _ 12 (needs _ [9])).contains 7 = true by kernel_rfl]; decide)
      | false =>
        have hc := u_copyV a (.agg (O.drop 2).toArray) W (HOV5.out.below hC) HVL.out
        have HC := Lib.hid hc
        have HCW : Hid (NewBut w5 W) := Lib.hid hC
        rw [h1]
        clear hc hC
        go_wp2_with ((with_reducible refine HC.out.mono ?_); rintro e w6 ⟨r6, rfl, v6, b6⟩; have V6 := Lib.hid v6; have B6 := Lib.hid b6; clear v6 b6)
        exact ⟨.agg r6.toArray, by simp [upd, h1], ⟨r6, rfl, V6.out⟩, HCW.out.trans (B6.out.mono HCW.out.size), ptK_below B6.out⟩
    · obtain ⟨r, h7, hV7⟩ : ∃ r : List Value, u 7 = .agg r.toArray ∧ VV (ew W) (.agg r.toArray) a := hd ⟨7, .data⟩ (by simp) rfl
      cases bb with
      | true => exact absurd (hnb rfl) (by rw [show (needK _ 12 (needs _ [9])).contains 8 = true by kernel_rfl]; decide)
      | false =>
        have hb : Below W.heap.size W (W.alloc (.cells r.toArray 28)) := (Below.refl W.heap.size W).alloc (Nat.le_refl _) _
        have h4 := hV7.len
        have HB := Lib.hid hb
        have HV7 := Lib.hid (hV7.sub (ew_lf (Lf.below hb)))
        have HCW : Hid (NewBut w5 W) := Lib.hid hC
        have H4 := Lib.hid h4
        have hsz := HCW.out.size
        rw [h7]
        clear hb hV7 hC h4
        go_wp2_with (refine wpList_buildRow rfl 34 28 _ rfl r i0 (.agg zV.toArray) W.heap.size rfl Try.underlying34 HI0.out HZ0.out (by rw [HZ1.out, H4.out]) (by rw [H4.out]; decide) (by rw [H4.out]; decide) (by simp only [List.map_toArray, List.map_cons, List.map_nil]; rfl) ?_)
        exact ⟨.slice (some ⟨W.heap.size, 0, none⟩) 1 1, by simp [upd, h7], ⟨W.heap.size, r, hsz, rfl, Blk.new' W _ _ rfl, HV7.out⟩, HCW.out.trans (HB.out.mono HCW.out.size), ptK_below HB.out⟩
    · omega
    · have h1 : u 0 = .pointer (some ⟨b, 0, none⟩) := hd ⟨0, .data⟩ (by simp) rfl
      rw [h1]
      go_wp2_with fail
      exact ⟨.pointer (some ⟨b, 0, none⟩), by simp [upd, h1], rfl, hC, hr⟩
    · have h1 : u 10 = .pointer (some ⟨b, 0, none⟩) := hd ⟨10, .data⟩ (by simp) rfl
      rw [h1]
      go_wp2_with fail
      exact ⟨.pointer (some ⟨b, 0, none⟩), by simp [upd, h1], rfl, hC, hr⟩
    · omega
  case one =>
    intro u W o ho hC hd
    simp only [List.getElem?_cons_zero, List.getElem?_cons_succ, Option.some.injEq] at ho
    subst ho
    have h4 : u 4 = .slice p s.vers.length c := hd ⟨4, .data⟩ (by simp) rfl
    obtain ⟨g, r, hg, h8', hB8, hV8⟩ : ∃ (g : Nat) (r : List Value), w5.heap.size ≤ g ∧ u 8 = .slice (some ⟨g, 0, none⟩) 1 1 ∧ Blk W g 28 r ∧ VV (ew W) (.agg r.toArray) a := hd ⟨8, .data⟩ (by simp) rfl
    have hCW : NewBut w5 W := hC
    have hOW := HOW.out.keep hCW
    have hnw := sl_one hB8
    rw [hV8.len] at hnw
    have hone : ∀ q ∈ [r], ∀ u ∈ q, u.oneCell' = true := fun q hq u hu => by
      rw [List.mem_singleton.1 hq] at hu
      exact (vv_oneV hV8).2 u hu
    have hfin : ∀ v' w6, OwnR w6 base 28 4 v' (rows ++ [r]) → W.grownBy w6 (Value.slice p s.vers.length c).ownBlock → (v'.ownBlock = (Value.slice p s.vers.length c).ownBlock ∨ v'.ownBlock = some W.heap.size) → ptG base (.slice p s.vers.length c) rows a w5 v' w6 ∧ ptK w5 false W w6 := fun v' w6 q1 q2 q3 => by
      have hl : Lf W w6 := Lf.grown q2 fun i e hi => by
        obtain ⟨vs, hB⟩ := hOW.blkAt i e
        exact ⟨_, vs, hB, by decide⟩
      refine ⟨⟨W, r, hCW, q2, q3, q1, hV8.sub (ew_lf hl)⟩, hl, fun g hg1 hg2 => q2.block g hg2 fun e => ?_⟩
      have := (HOW.out.lt g e.symm).2
      omega
    have HFIN := Lib.hid hfin
    have HOWW := Lib.hid hOW
    have HNW := Lib.hid hnw
    have HONE := Lib.hid hone
    have HL1 : Hid (rows.length + [r].length ≤ maxLen) := Lib.hid (by rw [HRL.out, List.length_singleton]; unfold maxLen; omega)
    have HL2 : Hid ((rows.length + [r].length) * 80 ≤ 140737488355328) := Lib.hid (by rw [HRL.out, List.length_singleton]; omega)
    have HBW : Hid (base ≤ W.heap.size) := Lib.hid (Nat.le_trans HZ5.out hCW.size)
    rw [h4, h8']
    clear hd hB8 hV8 hCW hC hOW hnw hone hfin
    go_wp2_with (refine wpList_append_rows rfl _ _ 34 rfl base 28 i0 (.agg zV.toArray) 4 80 Try.underlying34 HI0.out HZ0.out HZ1.out HZ2'.out rfl (by decide) (.slice p s.vers.length c) rows rfl HOWW.out (.slice (some ⟨g, 0, none⟩) 1 1) [r] rfl HNW.out HONE.out HL1.out HL2.out HBW.out (.inr ⟨_, _, _, rfl⟩) ?_; intro v' w6 q1 q2 q3; have HF := Lib.hid (HFIN.out v' w6 q1 q2 q3); clear q1 q2 q3)
    exact ⟨v', by first | (simp [upd, h4, h8']; done) | (simp [upd, h4, h8']; rfl), HF.out.1, trivial, HF.out.2⟩
  case last =>
    intro u W o ho hC hS
    simp only [List.getElem?_cons_zero, List.getElem?_cons_succ, Option.some.injEq] at ho
    subst ho
    have h11 : u 11 = .pointer (some ⟨b, 0, none⟩) := hS 11 (by decide)
    obtain ⟨W0, r, hn0, hg, hq, ho9, hv9⟩ : ptG base (.slice p s.vers.length c) rows a w5 (u 9) W := hS 9 (by decide)
    have hOW := HOW.out.keep hn0
    have hbp : ∀ i, (Value.slice p s.vers.length c).ownBlock = some i → i ≠ b := HOW.out.ne HBS.out (by decide)
    have hbr : ∀ i, (Value.slice p s.vers.length c).ownBlock = some i → i ≠ Y + 1 := HOW.out.ne K5.out (by decide)
    have l0 : Lf w5 W := (Lf.below hn0).trans (Lf.grown hg fun i e hi => by
      obtain ⟨vs, hB⟩ := hOW.blkAt i e
      exact ⟨_, vs, hB, by decide⟩)
    have kbW := (HBS.out.below hn0 HBS.out.lt).grownP hg (fun e => hbp b e rfl)
    have krW := (K5.out.below hn0 K5.out.lt).grownP hg (fun e => hbr (Y + 1) e rfl)
    have l8 : Lf w5 (W.setCell ⟨b, 0, none⟩ (u 9)) := l0.trans (Lf.cell (a := ⟨b, 0, none⟩) kbW (by decide) _)
    have o8 := ho9.cellOther kbW (by decide) 0 (u 9)
    have kr8 := krW.other (a := ⟨b, 0, none⟩) hbY (u 9)
    have v8 := hv9.sub (ew_lf (Lf.cell (a := ⟨b, 0, none⟩) kbW (by decide) (u 9)))
    have i8 := I5.out.set (w' := W.setCell ⟨b, 0, none⟩ (u 9)) (vv' := u 9) (L := s.vers ++ [a]) l8 (fun S' hS' => by
      exact ((hS'.below hn0 hS'.lt).grownP hg (fun e => hbp b e rfl)).set 0 _) o8 ((HTW.out.sub (ew_lf l8)).app (TellVs.one v8))
    have t8 := ((T5.out.below' hn0 HZ5.out).grownW hg hq (Nat.le_trans HZ5.out hn0.size) (fun i e => (HOW.out.lt i e).1)).cell (R := b) (o := 0) hlt.1 (.inl (.inl rfl)) (u 9)
    have cb := kbW.cellOf HS0.out
    have fb := kbW.free 0
    obtain ⟨p9, c9, e9⟩ := ho9.isSlice
    rw [List.length_append, List.length_singleton] at e9
    have I8 := Lib.hid i8
    have T8 := Lib.hid t8
    have KR8 := Lib.hid kr8
    generalize u 9 = v9 at *
    subst e9
    rw [h11]
    clear hS hn0 hg hq ho9 hv9 hOW hbp hbr l0 kbW krW l8 o8 kr8 v8 i8 t8 hC
    go_upto_region 9 with fail
    generalize W.setCell ⟨b, 0, none⟩ (.slice p9 (rows.length + 1) c9) = w8 at *
    clear cb fb
    obtain ⟨e1, e2, e3, e4, e5, e6⟩ := deed_end (w := w) hbY (by omega) hBY KR8.out (eR_told (ew w8) 0) I8.out T8.out
    have E1 := Lib.hid e1
    have E2 := Lib.hid e2
    have E3 := Lib.hid e3
    have E4 := Lib.hid e4
    have E5 := Lib.hid e5
    have E6 := Lib.hid e6
    clear e1 e2 e3 e4 e5 e6
    go_wp2_with (first | (refine wpList_build_at rfl 39 _ rfl (.agg (eR 0).toArray) (by simp only [List.map_toArray, List.map_nil]; exact build_rep0 _) ?_) | (refine wpList_store_blk rfl 39 _ _ rfl (Y + 1) (eR 0) rfl rfl KR8.out (by rw [size_rep, E5.out]) (by rw [E5.out]; rfl) E6.out ?_))
    refine bodyPost_ret (v := .agg (eR 0).toArray) (results_cell_blk rfl _ _ (Y + 1) rfl E4.out Try.underlying39 rfl (by rw [size_rep, E5.out])) rfl ?_
    exact ⟨_, _, rfl, E1.out, E2.out, E3.out⟩
end Go.Proofs.Ytogonbgelaehhaa
