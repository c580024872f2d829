/- The program's deeds, and what does one of them (stage 17). Written by gen/mkuw6.py. -/
import Derived.Test.YtogonbgelaehhaaUWc
import Derived.Test.YtogonbgelaehhaaG5
import Derived.Test.YtogonbgelaehhaaG1
import Derived.Test.YtogonbgelaehhaaUPaN
namespace Go.Proofs.Ytogonbgelaehhaa
open Go.RowKit
set_option linter.unusedVariables false

theorem entersV {P : Program} {f : FuncId} {fn : Func} {c : Code} (hf : P.funcs[f]? = some fn) (hname : (fn.name == "runtime.NumGoroutine") = false) (hb : fn.body = some c) : ∀ (args : Array Value) (w : World), (callFunc f args).run P w = .ok (.enter f args) w := fun args w => by
  have h1 : fn.name ≠ "runtime.NumGoroutine" := by simpa using hname
  simp [callFunc, hf, h1, hb]
def dsC : List Value := [.nilFunc, .func (.func 50) #[] #[], .func (.func 51) #[] #[], .func (.func 52) #[] #[], .func (.func 53) #[] #[], .func (.func 54) #[] #[]]
def dsZ : List Value := [.nilFunc, .nilFunc, .nilFunc, .nilFunc, .nilFunc, .nilFunc]
theorem alloc_ds (w : World) : (Instr.alloc 90 true (.tuple #[])).run Try.prog w = .ok (.pointer (some ⟨w.heap.size, 0, none⟩)) (w.alloc (.cells dsZ.toArray 90)) := by kernel_rfl
theorem build_ds (w : World) : (Instr.build 90 #[(1, .func (.func 50) #[] #[]), (2, .func (.func 51) #[] #[]), (3, .func (.func 52) #[] #[]), (4, .func (.func 53) #[] #[]), (5, .func (.func 54) #[] #[])]).run Try.prog w = .ok (.agg dsC.toArray) w := by kernel_rfl
theorem size_ds : (Try.prog.info? 90).map (·.size) = some 6 := by kernel_rfl
theorem index_ds1 (w : World) : (Instr.index 90 (.agg dsC.toArray) (.int .i64 1)).run Try.prog w = .ok (.func (.func 50) #[] #[]) w := by kernel_rfl
theorem enters_ds1 (args : Array Value) (w : World) : (callFunc 50 args).run Try.prog w = .ok (.enter 50 args) w := entersV Try.func50 (by kernel_rfl) rfl args w
theorem index_ds2 (w : World) : (Instr.index 90 (.agg dsC.toArray) (.int .i64 2)).run Try.prog w = .ok (.func (.func 51) #[] #[]) w := by kernel_rfl
theorem enters_ds2 (args : Array Value) (w : World) : (callFunc 51 args).run Try.prog w = .ok (.enter 51 args) w := entersV Try.func51 (by kernel_rfl) rfl args w
theorem index_ds3 (w : World) : (Instr.index 90 (.agg dsC.toArray) (.int .i64 3)).run Try.prog w = .ok (.func (.func 52) #[] #[]) w := by kernel_rfl
theorem enters_ds3 (args : Array Value) (w : World) : (callFunc 52 args).run Try.prog w = .ok (.enter 52 args) w := entersV Try.func52 (by kernel_rfl) rfl args w
theorem index_ds4 (w : World) : (Instr.index 90 (.agg dsC.toArray) (.int .i64 4)).run Try.prog w = .ok (.func (.func 53) #[] #[]) w := by kernel_rfl
theorem enters_ds4 (args : Array Value) (w : World) : (callFunc 53 args).run Try.prog w = .ok (.enter 53 args) w := entersV Try.func53 (by kernel_rfl) rfl args w
theorem index_ds5 (w : World) : (Instr.index 90 (.agg dsC.toArray) (.int .i64 5)).run Try.prog w = .ok (.func (.func 54) #[] #[]) w := by kernel_rfl
theorem enters_ds5 (args : Array Value) (w : World) : (callFunc 54 args).run Try.prog w = .ok (.enter 54 args) w := entersV Try.func54 (by kernel_rfl) rfl args w
set_option maxRecDepth 100000 in
theorem u_deeds (w : World) : Calls Try.prog 45 #[] w fun e w' => e = .returned (.agg dsC.toArray) ∧ Below w.heap.size w w' := by
  have k1 := Blk.new' w 90 (c := dsZ.toArray) dsZ rfl
  have k2 := k1.row dsC rfl
  have kb := below_setRow ((Below.refl w.heap.size w).alloc (Nat.le_refl _) (.cells dsZ.toArray 90)) (Nat.le_refl _) dsC.toArray
  have K1 := Lib.hid k1
  have K2 := Lib.hid k2
  have KB := Lib.hid kb
  clear k1 k2 kb
  go_enter Try.func45, Try.ntmps45
  go_wp2_with (first | (refine wpList_alloc_n rfl 90 rfl w.heap.size rfl _ (alloc_ds _) ?_) | (refine wpList_build_at rfl 90 _ rfl (.agg dsC.toArray) (by simp only [List.map_toArray, List.map_cons, List.map_nil]; exact build_ds _) ?_) | (refine wpList_store_blk rfl 90 _ _ rfl w.heap.size dsC rfl rfl K1.out (by rw [size_ds]; rfl) rfl (by simp [dsC, Value.oneCell']) ?_))
  refine bodyPost_ret (v := .agg dsC.toArray) (results_cell_blk rfl _ _ w.heap.size rfl K2.out Try.underlying90 rfl (by rw [size_ds]; rfl)) rfl ?_
  exact ⟨rfl, KB.out⟩
set_option maxRecDepth 100000 in
set_option maxHeartbeats 2000000 in
theorem u_do_low (s : StU RawV) (vo : Value) (kind : Int) (id : Nat) (a : RawV) (base b : Nat) (vv : Value) (w : World) (hI : StI w base b vv s) (ho : OpTold w vo kind id a) (hg : StS s) (hk : kind < 1) :
    Calls Try.prog 32 #[.pointer (some ⟨b, 0, none⟩), vo] w (DeedRet base b vv s s.vers ⟨180, [], noV⟩ w) := by
  obtain ⟨O, rfl, hOl, hO0, hO1, hO2, hOv⟩ := op_cells ho
  obtain ⟨Y, hY⟩ : ∃ Y, w.heap.size = Y := ⟨_, rfl⟩
  have hlt := hI.lt
  have k0 := Blk.newAt w Y hY 30 (c := O.toArray) O rfl
  have z1 : (w.alloc (.cells O.toArray 30)).heap.size = Y + 1 := by simp [hY]
  have k1 := Blk.newAt _ (Y + 1) z1 39 (c := zRp.toArray) zRp rfl
  have kb := ((Below.refl w.heap.size w).alloc (Nat.le_refl _) (.cells O.toArray 30)).alloc (by simp) (.cells zRp.toArray 39)
  have k0' := k0.alloc (.cells zRp.toArray 39)
  have hI2 := hI.below kb
  have htn : Turn base w ((w.alloc (.cells O.toArray 30)).alloc (.cells zRp.toArray 39)) (stF b vv) (stF b vv) := Turn.of_below kb (by omega)
  have K0 := Lib.hid k0'
  have K1 := Lib.hid k1
  have Z1 := Lib.hid z1
  have HTN := Lib.hid htn
  have HI2 := Lib.hid hI2
  have HOV := Lib.hid (hOv.below kb)
  have HO0 := Lib.hid hO0
  have HO1 := Lib.hid hO1
  have HO2 := Lib.hid hO2
  have HOL := Lib.hid hOl
  have HG := Lib.hid hg
  have hbY : b ≠ Y + 1 := by omega
  have hBY : base ≤ Y + 1 := by omega
  have HZ2 : Hid (base ≤ ((w.alloc (.cells O.toArray 30)).alloc (.cells zRp.toArray 39)).heap.size) := Lib.hid (by simp; omega)
  clear k0 k0' k1 z1 kb hI hI2 htn hOl hO0 hO1 hO2 hOv ho hg
  have c0 := K0.out.cellOf HO0.out
  have d1 : decide (kind < 1) = true := decide_eq_true hk
  go_enter Try.func32, Try.ntmps32
  go_wp2_with (refine wpList_alloc_n rfl 39 rfl (Y + 1) Z1.out _ (alloc_rep _) ?_)
  refine (u_fault 180 _).mono ?_
  rintro e w9 ⟨rfl, b9⟩
  have kr := K1.out.below b9 K1.out.lt
  obtain ⟨e1, e2, e3, e4, e5, e6⟩ := deed_end (w := w) hbY (by omega) hBY kr (eR_told (ew w9) 180) (HI2.out.below b9) (HTN.out.below' b9 HZ2.out)
  have E1 := Lib.hid e1
  have E2 := Lib.hid e2
  have E3 := Lib.hid e3
  have E4 := Lib.hid e4
  have E5 := Lib.hid e5
  have E6 := Lib.hid e6
  clear e1 e2 e3 e4 e5 e6
  have KR := Lib.hid kr
  clear b9 kr c0
  go_wp2_with (refine wpList_store_blk rfl 39 _ _ rfl (Y + 1) (eR 180) rfl rfl KR.out (by rw [size_rep, E5.out]) (by rw [E5.out]; rfl) E6.out ?_)
  refine bodyPost_ret (v := .agg (eR 180).toArray) (results_cell_blk rfl _ _ (Y + 1) rfl E4.out Try.underlying39 rfl (by rw [size_rep, E5.out])) rfl ?_
  exact ⟨_, _, rfl, E1.out, E2.out, E3.out⟩
set_option maxRecDepth 100000 in
set_option maxHeartbeats 2000000 in
theorem u_do_high (s : StU RawV) (vo : Value) (kind : Int) (id : Nat) (a : RawV) (base b : Nat) (vv : Value) (w : World) (hI : StI w base b vv s) (ho : OpTold w vo kind id a) (hg : StS s) (hk : 5 < kind) :
    Calls Try.prog 32 #[.pointer (some ⟨b, 0, none⟩), vo] w (DeedRet base b vv s s.vers ⟨180, [], noV⟩ w) := by
  obtain ⟨O, rfl, hOl, hO0, hO1, hO2, hOv⟩ := op_cells ho
  obtain ⟨Y, hY⟩ : ∃ Y, w.heap.size = Y := ⟨_, rfl⟩
  have hlt := hI.lt
  have k0 := Blk.newAt w Y hY 30 (c := O.toArray) O rfl
  have z1 : (w.alloc (.cells O.toArray 30)).heap.size = Y + 1 := by simp [hY]
  have k1 := Blk.newAt _ (Y + 1) z1 39 (c := zRp.toArray) zRp rfl
  have kb := ((Below.refl w.heap.size w).alloc (Nat.le_refl _) (.cells O.toArray 30)).alloc (by simp) (.cells zRp.toArray 39)
  have k0' := k0.alloc (.cells zRp.toArray 39)
  have hI2 := hI.below kb
  have htn : Turn base w ((w.alloc (.cells O.toArray 30)).alloc (.cells zRp.toArray 39)) (stF b vv) (stF b vv) := Turn.of_below kb (by omega)
  have K0 := Lib.hid k0'
  have K1 := Lib.hid k1
  have Z1 := Lib.hid z1
  have HTN := Lib.hid htn
  have HI2 := Lib.hid hI2
  have HOV := Lib.hid (hOv.below kb)
  have HO0 := Lib.hid hO0
  have HO1 := Lib.hid hO1
  have HO2 := Lib.hid hO2
  have HOL := Lib.hid hOl
  have HG := Lib.hid hg
  have hbY : b ≠ Y + 1 := by omega
  have hBY : base ≤ Y + 1 := by omega
  have HZ2 : Hid (base ≤ ((w.alloc (.cells O.toArray 30)).alloc (.cells zRp.toArray 39)).heap.size) := Lib.hid (by simp; omega)
  clear k0 k0' k1 z1 kb hI hI2 htn hOl hO0 hO1 hO2 hOv ho hg
  have c0 := K0.out.cellOf HO0.out
  have d1 : decide (kind < 1) = false := decide_eq_false (by omega)
  have d2 : decide (5 < kind) = true := decide_eq_true hk
  have d3 : ¬ kind < 1 := by omega
  go_enter Try.func32, Try.ntmps32
  go_wp2_with (refine wpList_alloc_n rfl 39 rfl (Y + 1) Z1.out _ (alloc_rep _) ?_)
  refine (u_fault 180 _).mono ?_
  rintro e w9 ⟨rfl, b9⟩
  have kr := K1.out.below b9 K1.out.lt
  obtain ⟨e1, e2, e3, e4, e5, e6⟩ := deed_end (w := w) hbY (by omega) hBY kr (eR_told (ew w9) 180) (HI2.out.below b9) (HTN.out.below' b9 HZ2.out)
  have E1 := Lib.hid e1
  have E2 := Lib.hid e2
  have E3 := Lib.hid e3
  have E4 := Lib.hid e4
  have E5 := Lib.hid e5
  have E6 := Lib.hid e6
  clear e1 e2 e3 e4 e5 e6
  have KR := Lib.hid kr
  clear b9 kr c0
  go_wp2_with (refine wpList_store_blk rfl 39 _ _ rfl (Y + 1) (eR 180) rfl rfl KR.out (by rw [size_rep, E5.out]) (by rw [E5.out]; rfl) E6.out ?_)
  refine bodyPost_ret (v := .agg (eR 180).toArray) (results_cell_blk rfl _ _ (Y + 1) rfl E4.out Try.underlying39 rfl (by rw [size_rep, E5.out])) rfl ?_
  exact ⟨_, _, rfl, E1.out, E2.out, E3.out⟩
theorem op_one {w : World} {v : Value} {kind : Int} {id : Nat} {a : RawV} (h : OpTold w v kind id a) : ∀ O : List Value, v = .agg O.toArray → O.toArray.all (·.oneCell') = true := by
  obtain ⟨q, rfl, hv⟩ := h
  obtain ⟨_, _, _, _, _, _, rfl⟩ := hv.row
  intro O e
  have := congrArg (fun v => match v with | Value.agg c => c | _ => #[]) e
  simp only at this
  rw [← this]
  simp [cellsO, cellsV, Value.oneCell']
def ddS (b Y : Nat) (kind : Int) (FN : FuncId) (O : List Value) (i : Nat) (v : Value) : Prop := match i with
  | 0 => v = .agg dsC.toArray | 1 => v = .pointer (some ⟨Y, 0, none⟩) | 2 => v = .int .i64 kind | 3 => v = .func (.func FN) #[] #[] | 4 => v = .pointer (some ⟨b, 0, none⟩) | 5 => v = .agg O.toArray
  | _ => True
def ddP (base b Y : Nat) (vv : Value) (w : World) (s' : StU RawV) (x : RepU RawV) (z : List Value × Value) (W : World) : Prop :=
  RepOkV (ew W) z.1 x ∧ StI W base b z.2 s' ∧ Turn base w W (stF b vv) (stF b z.2) ∧ Blk W (Y + 1) 39 zRp
set_option maxRecDepth 100000 in
set_option maxHeartbeats 2000000 in
theorem u_do_with (s : StU RawV) (vo : Value) (kind : Int) (id : Nat) (a : RawV) (base b : Nat) (vv : Value) (w : World) (hI : StI w base b vv s) (ho : OpTold w vo kind id a) (hg : StS s) (hk1 : 1 ≤ kind) (hk5 : kind ≤ 5) (FN : FuncId) (eF : ∀ args w, (callFunc FN args).run Try.prog w = .ok (.enter FN args) w) (hix : ∀ w, (Instr.index 90 (.agg dsC.toArray) (.int .i64 kind)).run Try.prog w = .ok (.func (.func FN) #[] #[]) w)
    (L' : List RawV) (x : RepU RawV) (hD : ∀ W, Below w.heap.size w W → Calls Try.prog FN #[.pointer (some ⟨b, 0, none⟩), vo] W (DeedRet base b vv s L' x W)) :
    Calls Try.prog 32 #[.pointer (some ⟨b, 0, none⟩), vo] w (DeedRet base b vv s L' x w) := by
  have h1c := op_one ho
  obtain ⟨O, rfl, hOl, hO0, hO1, hO2, hOv⟩ := op_cells ho
  have h1c := h1c O rfl
  obtain ⟨Y, hY⟩ : ∃ Y, w.heap.size = Y := ⟨_, rfl⟩
  have hlt := hI.lt
  have k0 := Blk.newAt w Y hY 30 (c := O.toArray) O rfl
  have z1 : (w.alloc (.cells O.toArray 30)).heap.size = Y + 1 := by simp [hY]
  have k1 := Blk.newAt _ (Y + 1) z1 39 (c := zRp.toArray) zRp rfl
  have kb := ((Below.refl w.heap.size w).alloc (Nat.le_refl _) (.cells O.toArray 30)).alloc (by simp) (.cells zRp.toArray 39)
  have k0' := k0.alloc (.cells zRp.toArray 39)
  have hI2 := hI.below kb
  have htn : Turn base w ((w.alloc (.cells O.toArray 30)).alloc (.cells zRp.toArray 39)) (stF b vv) (stF b vv) := Turn.of_below kb (by omega)
  have K0 := Lib.hid k0'
  have K1 := Lib.hid k1
  have Z1 := Lib.hid z1
  have HTN := Lib.hid htn
  have HI2 := Lib.hid hI2
  have HOV := Lib.hid (hOv.below kb)
  have HO0 := Lib.hid hO0
  have HO1 := Lib.hid hO1
  have HO2 := Lib.hid hO2
  have HOL := Lib.hid hOl
  have HG := Lib.hid hg
  have hbY : b ≠ Y + 1 := by omega
  have hBY : base ≤ Y + 1 := by omega
  have HZ2 : Hid (base ≤ ((w.alloc (.cells O.toArray 30)).alloc (.cells zRp.toArray 39)).heap.size) := Lib.hid (by simp; omega)
  clear k0 k0' k1 z1 kb hI hI2 htn hOl hO0 hO1 hO2 hOv ho hg
  have hkb : Below w.heap.size w ((w.alloc (.cells O.toArray 30)).alloc (.cells zRp.toArray 39)) := ((Below.refl w.heap.size w).alloc (Nat.le_refl _) (.cells O.toArray 30)).alloc (by simp) (.cells zRp.toArray 39)
  have HKB := Lib.hid hkb
  have HD := Lib.hid hD
  have c0 := K0.out.cellOf HO0.out
  have d1 : decide (kind < 1) = false := decide_eq_false (by omega)
  have d2 : decide (5 < kind) = false := decide_eq_false (by omega)
  have d3 : ¬ kind < 1 := by omega
  have d4 : ¬ 5 < kind := by omega
  have H1C := Lib.hid h1c
  have HIX := Lib.hid hix
  clear hD hkb h1c hix
  go_enter Try.func32, Try.ntmps32
  go_upto_region 3 with (refine wpList_alloc_n rfl 39 rfl (Y + 1) Z1.out _ (alloc_rep _) ?_)
  generalize (w.alloc (.cells O.toArray 30)).alloc (.cells zRp.toArray 39) = w2 at *
  clear c0 Z1 d1 d2 d3 d4
  refine region_afterM (X := List Value × Value) 6 7 (by decide) mixed (by kernel_rfl) (by kernel_rfl) (by kernel_rfl) (by kernel_rfl) (fun u => ((_ :: _ :: _ :: _ :: _ :: _ :: _ :: _ :: _ :: _ :: _ :: _ :: _ :: _ :: u 0 :: u 1 :: u 2 :: u 3 :: u 4 :: u 5 :: u 6 :: []) : List Value).toArray) [] (fun _ => undef) rfl (NewBut w2) (show Below _ _ _ from (Below.refl _ _).drew) (ddS b Y kind FN O) (fun z => .agg z.1.toArray) (ddP base b Y vv w ⟨L', s.seqs, s.last⟩ x) (fun _ _ _ => True) ?head ?one ?tail ?last
  case head =>
    intro u i o W hC hi ho hd
    rcases i with _ | _ | _ | _ | _ | _ | i
    all_goals try (simp only [List.getElem?_cons_zero, List.getElem?_cons_succ, Option.some.injEq] at ho; subst ho)
    · have HC := Lib.hid (u_deeds W)
      have HCW : Hid (NewBut w2 W) := Lib.hid hC
      clear hC
      go_wp2_with ((with_reducible refine HC.out.mono ?_); rintro e w5 ⟨rfl, b5⟩; have B5 := Lib.hid b5; clear b5)
      exact ⟨HCW.out.trans (B5.out.mono HCW.out.size), _, rfl, rfl⟩
    · go_wp2_with fail
      exact ⟨hC, _, rfl, rfl⟩
    · have h1 : u 1 = _ := hd ⟨1, .data⟩ (by simp) rfl
      have c0 := (K0.out.below hC K0.out.lt).cellOf HO0.out
      rw [h1]
      go_wp2_with fail
      exact ⟨hC, .int .i64 kind, by simp [upd, h1], rfl⟩
    · have h0 : u 0 = _ := hd ⟨0, .data⟩ (by simp) rfl
      have h2 : u 2 = _ := hd ⟨2, .data⟩ (by simp) rfl
      have hix := HIX.out
      rw [h0, h2]
      go_wp2_with fail
      exact ⟨hC, .func (.func FN) #[] #[], by simp [upd, h0, h2], rfl⟩
    · go_wp2_with fail
      exact ⟨hC, _, rfl, rfl⟩
    · have hB := K0.out.below hC K0.out.lt
      have HB := Lib.hid hB
      clear hB
      go_wp2_with (refine wpList_load_blk rfl 30 _ rfl Y rfl HB.out Try.underlying30 rfl (by rw [size_op, HOL.out]) ?_)
      exact ⟨hC, _, rfl, rfl⟩
    · omega
  case one =>
    intro u o W hC ho hS
    simp only [List.getElem?_cons_zero, List.getElem?_cons_succ, Option.some.injEq] at ho
    subst ho
    have h3 : u 3 = _ := hS 3 (by decide)
    have h4 : u 4 = _ := hS 4 (by decide)
    have h5 : u 5 = _ := hS 5 (by decide)
    have HDW := Lib.hid (HD.out W (HKB.out.trans (Below.mono hC HKB.out.size)))
    have kW := K1.out.below hC K1.out.lt
    have hne : ¬ stF b vv (Y + 1) := fun h => by
      rcases h with h | h
      · exact hbY h.symm
      · exact (HI2.out.below hC).ownNe kW (by decide) (Y + 1) h rfl
    have KW := Lib.hid kW
    have HNE := Lib.hid hne
    have TW := Lib.hid (HTN.out.below' hC HZ2.out)
    rw [h3, h4, h5]
    clear hS hC kW hne
    go_wp2_with ((with_reducible refine HDW.out.mono ?_); rintro e w9 ⟨r, vv', rfl, q1, q2, q3⟩; have Q := Lib.hid (show ddP base b Y vv w ⟨L', s.seqs, s.last⟩ x (r, vv') w9 from ⟨q1, q2, TW.out.trans q3, q3.blk KW.out HNE.out⟩); clear q1 q2 q3)
    exact ⟨(r, vv'), by first | (simp [upd, h3, h4, h5]; done) | (simp [upd, h3, h4, h5]; rfl), Q.out⟩
  case tail =>
    intro z u i o W h1 h2
    omega
  case last =>
    intro z u o W ho hp hu hS
    simp only [List.getElem?_cons_zero, List.getElem?_cons_succ, Option.some.injEq] at ho
    subst ho
    obtain ⟨r, vv'⟩ := z
    obtain ⟨q1, q2, q3, q4⟩ := hp
    simp only at q1 q2 q3
    obtain ⟨e1, e2, e3, e4, e5, e6⟩ := deed_end (w := w) hbY (by omega) hBY q4 q1 q2 q3
    have E1 := Lib.hid e1
    have E2 := Lib.hid e2
    have E3 := Lib.hid e3
    have E4 := Lib.hid e4
    have E5 := Lib.hid e5
    have E6 := Lib.hid e6
    clear e1 e2 e3 e4 e5 e6
    have KR := Lib.hid q4
    simp only at hu
    rw [hu]
    clear q1 q2 q3 q4 hS
    go_wp2_with (refine wpList_store_blk rfl 39 _ _ rfl (Y + 1) r rfl rfl KR.out (by rw [size_rep, E5.out]) (by rw [E5.out]; rfl) E6.out ?_)
    refine bodyPost_ret (v := .agg (r).toArray) (results_cell_blk rfl _ _ (Y + 1) rfl E4.out Try.underlying39 rfl (by rw [size_rep, E5.out])) rfl ?_
    exact ⟨_, _, rfl, E1.out, E2.out, E3.out⟩
/-- one contract of do, by doR -/
theorem u_do (s : StU RawV) (vo : Value) (kind : Int) (id : Nat) (a : RawV) (base b : Nat) (vv : Value) (w : World) (hI : StI w base b vv s) (ho : OpTold w vo kind id a) (hg : StS s) (hid : id < 4294967296) (hva : VerS a) :
    Calls Try.prog 32 #[.pointer (some ⟨b, 0, none⟩), vo] w (DeedRet base b vv s (doR s.vers kind id a).1 (doR s.vers kind id a).2 w) := by
  have hIW : ∀ W, Below w.heap.size w W → StI W base b vv s := fun W hb => hI.below hb
  have hoW : ∀ W, Below w.heap.size w W → OpTold W vo kind id a := fun W hb => ho.below hb
  by_cases k1 : kind = 1
  · subst k1
    refine u_do_with s vo 1 id a base b vv w hI ho hg (by decide) (by decide) _ enters_ds1 index_ds1 _ _ fun W hb => ?_
    by_cases hm : mayR a = true
    · rcases findV_cases s.vers a.id with ⟨hf, hh, _⟩ | ⟨k, hk, hf, hh, _⟩
      · by_cases h8 : 8 ≤ s.vers.length
        · have e : doR s.vers 1 id a = (s.vers, ⟨2, [], noV⟩) := by unfold doR doU; rw [if_pos rfl, if_pos hm, hh, if_neg (by decide), if_pos h8]; rfl
          rw [e]
          exact u_put_full s vo 1 id a base b vv W (hIW W hb) (hoW W hb) hg hva hm hf h8
        · have e : doR s.vers 1 id a = (s.vers ++ [a], ⟨0, [], noV⟩) := by unfold doR doU; rw [if_pos rfl, if_pos hm, hh, if_neg (by decide), if_neg h8]
          rw [e]
          exact u_put_yes s vo 1 id a base b vv W (hIW W hb) (hoW W hb) hg hva hm hf (by omega)
      · have e : doR s.vers 1 id a = (s.vers, ⟨4, [], noV⟩) := by unfold doR doU; rw [if_pos rfl, if_pos hm, hh, if_pos rfl]; rfl
        rw [e]
        exact u_put_twice s vo 1 id a base b vv W (hIW W hb) (hoW W hb) hg hva hm k hf
    · have hm' : mayR a = false := by simpa using hm
      have e : doR s.vers 1 id a = (s.vers, ⟨1, [], noV⟩) := by unfold doR doU; rw [if_pos rfl, if_neg hm]; rfl
      rw [e]
      exact u_put_arg s vo 1 id a base b vv W (hIW W hb) (hoW W hb) hg hva hm'
  by_cases k2 : kind = 2
  · subst k2
    refine u_do_with s vo 2 id a base b vv w hI ho hg (by decide) (by decide) _ enters_ds2 index_ds2 _ _ fun W hb => ?_
    rcases findV_cases s.vers id with ⟨hf, hh, _⟩ | ⟨k, hk, hf, hh, hE, _⟩
    · have e : doR s.vers 2 id a = (s.vers, ⟨3, [], noV⟩) := by unfold doR doU; rw [if_neg k1, if_pos rfl, hh, if_neg (by decide)]; rfl
      rw [e]
      exact u_remove_no s vo 2 id a base b vv W (hIW W hb) (hoW W hb) hg hf
    · have e : doR s.vers 2 id a = (s.vers.take k ++ s.vers.drop (k + 1), ⟨0, [], noV⟩) := by unfold doR doU; rw [if_neg k1, if_pos rfl, hh, if_pos rfl, hE]
      rw [e]
      exact u_remove_yes s vo 2 id a base b vv W (hIW W hb) (hoW W hb) hg k hf hk
  by_cases k3 : kind = 3
  · subst k3
    have e : doR s.vers 3 id a = (s.vers.drop (s.vers.length - id), ⟨0, (s.vers.take (s.vers.length - id)).map (·.id), noV⟩) := by unfold doR doU; rw [if_neg k1, if_neg k2, if_pos rfl]
    rw [e]
    refine u_do_with s vo 3 id a base b vv w hI ho hg (by decide) (by decide) _ enters_ds3 index_ds3 _ _ fun W hb => ?_
    obtain ⟨p, c, hvv, _, hV, _⟩ := (hIW W hb).vers
    rcases hV.cases with ⟨h1, h2, h3, h4⟩ | ⟨⟨ad, h1⟩, _⟩
    · exact u_prune_none s vo 3 id a base b vv W (hIW W hb) (hoW W hb) hg hid (by rw [hvv, h1, h2, h3]) h4
    · exact u_prune_some s vo 3 id a base b vv W (hIW W hb) (hoW W hb) hg hid ad _ c (by rw [hvv, h1])
  by_cases k4 : kind = 4
  · subst k4
    have e : doR s.vers 4 id a = (s.vers, ⟨0, s.vers.map (·.id), noV⟩) := by unfold doR doU; rw [if_neg k1, if_neg k2, if_neg k3, if_pos rfl]
    rw [e]
    exact u_do_with s vo 4 id a base b vv w hI ho hg (by decide) (by decide) _ enters_ds4 index_ds4 _ _ fun W hb => u_list s vo 4 id a base b vv W (hIW W hb) (hoW W hb) hg
  by_cases k5 : kind = 5
  · subst k5
    refine u_do_with s vo 5 id a base b vv w hI ho hg (by decide) (by decide) _ enters_ds5 index_ds5 _ _ fun W hb => ?_
    rcases findV_cases s.vers id with ⟨hf, hh, hF⟩ | ⟨k, hk, hf, hh, _, hF⟩
    · have e : doR s.vers 5 id a = (s.vers, ⟨3, [], noV⟩) := by unfold doR doU; rw [if_neg k1, if_neg k2, if_neg k3, if_neg k4, if_pos rfl, hF]; rfl
      rw [e]
      exact u_get_no s vo 5 id a base b vv W (hIW W hb) (hoW W hb) hg hf
    · have e : doR s.vers 5 id a = (s.vers, ⟨0, [], s.vers.getD k noV⟩) := by unfold doR doU; rw [if_neg k1, if_neg k2, if_neg k3, if_neg k4, if_pos rfl, hF]
      rw [e]
      exact u_get_yes s vo 5 id a base b vv W (hIW W hb) (hoW W hb) hg k hf hk
  · have e : doR s.vers kind id a = (s.vers, ⟨180, [], noV⟩) := by unfold doR doU; rw [if_neg k1, if_neg k2, if_neg k3, if_neg k4, if_neg k5]; rfl
    rw [e]
    by_cases hk : kind < 1
    · exact u_do_low s vo kind id a base b vv w hI ho hg hk
    · exact u_do_high s vo kind id a base b vv w hI ho hg (by omega)
end Go.Proofs.Ytogonbgelaehhaa
namespace Go.Proofs.Ytogonbgelaehhaa
open Go.RowKit
set_option linter.unusedVariables false

theorem StI.seq {w : World} {base b : Nat} {vv : Value} {s : StU RawV} (h : StI w base b vv s) {c : Nat} (hc : c < 3) : w.cell? ⟨b, 1 + c, none⟩ = some (.int .u32 ((s.seqs.getD c 0 : Nat) : Int)) ∧ s.seqs.getD c 0 < 4294967296 := by
  obtain ⟨h0, S, h1, rows, s0, s1, s2, r0, r1, r2, x0, x1, x2, e, _, _, h3, h4, ⟨b0, b1, b2⟩, _⟩ := h
  have : c = 0 ∨ c = 1 ∨ c = 2 := by omega
  rw [h1.cell, e, h3]
  rcases this with rfl | rfl | rfl
  · exact ⟨rfl, b0⟩
  · exact ⟨rfl, b1⟩
  · exact ⟨rfl, b2⟩
theorem StI.seqSet {w : World} {base b : Nat} {vv : Value} {s : StU RawV} (h : StI w base b vv s) {c N : Nat} (hc : c < 3) (hN : N < 4294967296) : StI (w.setCell ⟨b, 1 + c, none⟩ (.int .u32 (N : Int))) base b vv ⟨s.vers, s.seqs.set c N, s.last⟩ := by
  obtain ⟨h0, S, h1, rows, s0, s1, s2, r0, r1, r2, x0, x1, x2, e, ho, ht, h3, h4, ⟨b0, b1, b2⟩, h5, h6, h7⟩ := h
  have hs := ew_lf (Lf.cell (a := ⟨b, 1 + c, none⟩) h1 (by decide) (.int .u32 (N : Int)))
  have ho' := ho.cellOther h1 (by decide) (1 + c) (.int .u32 (N : Int))
  have h1' := h1.set (1 + c) (.int .u32 (N : Int))
  refine ⟨h0, _, h1', ?_⟩
  have : c = 0 ∨ c = 1 ∨ c = 2 := by omega
  rcases this with rfl | rfl | rfl
  · exact ⟨rows, N, s1, s2, r0, r1, r2, x0, x1, x2, by rw [e]; rfl, ho', ht.sub hs, by rw [h3]; rfl, h4, ⟨hN, b1, b2⟩, h5.sub hs, h6.sub hs, h7.sub hs⟩
  · exact ⟨rows, s0, N, s2, r0, r1, r2, x0, x1, x2, by rw [e]; rfl, ho', ht.sub hs, by rw [h3]; rfl, h4, ⟨b0, hN, b2⟩, h5.sub hs, h6.sub hs, h7.sub hs⟩
  · exact ⟨rows, s0, s1, N, r0, r1, r2, x0, x1, x2, by rw [e]; rfl, ho', ht.sub hs, by rw [h3]; rfl, h4, ⟨b0, b1, hN⟩, h5.sub hs, h6.sub hs, h7.sub hs⟩
/-- a client's reply, in its place -/
theorem StI.cut {w : World} {base b : Nat} {vv : Value} {s : StU RawV} (h : StI w base b vv s) {c : Nat} (hc : c < 3) : ∃ X R Z : List Value, Blk w b 42 (X ++ (R ++ Z)) ∧ 4 + c * 6 = X.length ∧ R.length = 6 ∧ RepOkV (ew w) R (s.last.getD c (wrongU noV 0)) ∧ (∀ i, vv.ownBlock = some i → i ≠ b) ∧
    ∀ (w' : World) (R' : List Value) (x : RepU RawV), Blk w' b 42 (X ++ (R' ++ Z)) → w.grownBy w' (some b) → RepOkV (ew w) R' x → StI w' base b vv ⟨s.vers, s.seqs, s.last.set c x⟩ ∧ RepOkV (ew w') R' x := by
  obtain ⟨h0, S, h1, rows, s0, s1, s2, r0, r1, r2, x0, x1, x2, e, ho, ht, h3, h4, hbd, h5, h6, h7⟩ := h
  have hne := ho.ne h1 (by decide)
  have key : ∀ (w' : World), w.grownBy w' (some b) → Sub (ew w) (ew w') ∧ OwnR w' base 28 4 vv rows := fun w' hg =>
    ⟨ew_lf (Lf.grown hg fun i ei _ => by cases ei; exact ⟨_, _, h1, by decide⟩), ho.grownO hg fun i ei e' => by cases e'; exact hne b ei rfl⟩
  have e' : S = [vv, .int .u32 (s0 : Int), .int .u32 (s1 : Int), .int .u32 (s2 : Int)] ++ (r0 ++ (r1 ++ r2)) := by rw [e]; simp [cellsS, List.append_assoc]
  have : c = 0 ∨ c = 1 ∨ c = 2 := by omega
  rw [h4]
  rcases this with rfl | rfl | rfl
  · refine ⟨[vv, .int .u32 (s0 : Int), .int .u32 (s1 : Int), .int .u32 (s2 : Int)], r0, r1 ++ r2, by rw [← e']; exact h1, rfl, h5.len, h5, hne, fun w' R' x hB hg hx => ?_⟩
    obtain ⟨hs, ho'⟩ := key w' hg
    exact ⟨⟨h0, _, hB, rows, s0, s1, s2, R', r1, r2, x, x1, x2, by simp [cellsS, List.append_assoc], ho', ht.sub hs, h3, rfl, hbd, hx.sub hs, h6.sub hs, h7.sub hs⟩, hx.sub hs⟩
  · refine ⟨[vv, .int .u32 (s0 : Int), .int .u32 (s1 : Int), .int .u32 (s2 : Int)] ++ r0, r1, r2, by rw [List.append_assoc, ← e']; exact h1, by rw [List.length_append, h5.len]; rfl, h6.len, h6, hne, fun w' R' x hB hg hx => ?_⟩
    obtain ⟨hs, ho'⟩ := key w' hg
    exact ⟨⟨h0, _, hB, rows, s0, s1, s2, r0, R', r2, x0, x, x2, by simp [cellsS, List.append_assoc], ho', ht.sub hs, h3, rfl, hbd, h5.sub hs, hx.sub hs, h7.sub hs⟩, hx.sub hs⟩
  · refine ⟨[vv, .int .u32 (s0 : Int), .int .u32 (s1 : Int), .int .u32 (s2 : Int)] ++ r0 ++ r1, r2, [], by rw [List.append_nil, List.append_assoc, List.append_assoc, ← e']; exact h1, by rw [List.length_append, List.length_append, h5.len, h6.len]; rfl, h7.len, h7, hne, fun w' R' x hB hg hx => ?_⟩
    obtain ⟨hs, ho'⟩ := key w' hg
    exact ⟨⟨h0, _, hB, rows, s0, s1, s2, r0, r1, R', x0, x1, x, by simp [cellsS, List.append_assoc], ho', ht.sub hs, h3, rfl, hbd, h5.sub hs, h6.sub hs, hx.sub hs⟩, hx.sub hs⟩
theorem StI.rep {w : World} {base b : Nat} {vv : Value} {s : StU RawV} (h : StI w base b vv s) {c : Nat} (hc : c < 3) : ∃ R : List Value, RepOkV (ew w) R (s.last.getD c (wrongU noV 0)) ∧ ∀ i x, R[i]? = some x → w.cell? ((⟨b, 4 + c * 6, none⟩ : Addr).add i) = some x := by
  obtain ⟨X, R, Z, hB, hX, hR, hr, _⟩ := h.cut hc
  refine ⟨R, hr, fun i x hx => ?_⟩
  rw [Addr.add_mid, hB.cell, hX, List.getElem?_append_right (by omega), Nat.add_sub_cancel_left, List.getElem?_append_left (List.getElem?_eq_some_iff.1 hx).1]
  exact hx
end Go.Proofs.Ytogonbgelaehhaa
namespace Go.Proofs.Ytogonbgelaehhaa
open Go.RowKit
set_option linter.unusedVariables false

theorem size_rq : (Try.prog.info? 60).map (·.size) = some 8 := by kernel_rfl
theorem cell_sub {w w' : World} (hb : Below w.heap.size w w') {a : Addr} {x : Value} (h : w.cell? a = some x) : w'.cell? a = some x := by
  unfold World.cell? at h ⊢
  cases ho : w.heap[a.block]? with
  | none => rw [ho] at h; cases h
  | some o => rw [hb.block _ (lt_of_at ho), ho]; rw [ho] at h; exact h
def r8S (b Y c : Nat) (R8 : List Value) (x : RepU RawV) (i : Nat) (v : Value) (W : World) : Prop := match i with
  | 0 => v = .pointer (some ⟨b, 0, none⟩) | 1 => v = .pointer (some ⟨Y, 0, none⟩) | 2 => v = .int .i64 (c : Int) | 3 => v = .pointer (some ⟨b, 0, none⟩) | 4 => v = .pointer (some ⟨b, 4, none⟩)
  | 5 => v = .pointer (some ⟨b, 4 + c * 6, none⟩) | 6 => v = .agg R8.toArray | 7 => ∃ r : List Value, v = .agg r.toArray ∧ RepOkV (ew W) r x
  | _ => True
/-- what a request comes to, on a state in a variable -/
def AppRet (base b : Nat) (vv : Value) (s' : StU RawV) (x : RepU RawV) (w : World) (e : Ending) (w' : World) : Prop :=
  ∃ r vv', e = .returned (.agg r.toArray) ∧ RepOkV (ew w') r x ∧ StI w' base b vv' s' ∧ Turn base w w' (stF b vv) (stF b vv')
set_option maxRecDepth 100000 in
set_option maxHeartbeats 2000000 in
theorem u_ap_low (s : StU RawV) (vq : Value) (r : ReqU RawV) (base b : Nat) (vv : Value) (w : World) (hI : StI w base b vv s) (hq : ReqTold w vq r) (hg : StS s) (h : r.client < 0) :
    Calls Try.prog 26 #[.pointer (some ⟨b, 0, none⟩), vq] w (AppRet base b vv s ⟨170, [], noV⟩ w) := by
  obtain ⟨Q, rfl, hQl, hQ1, hQc, hQs, hQo⟩ := rq_cells hq
  obtain ⟨Y, hY⟩ : ∃ Y, w.heap.size = Y := ⟨_, rfl⟩
  have hlt := hI.lt
  have k0 := Blk.newAt w Y hY 60 (c := Q.toArray) Q rfl
  have z1 : (w.alloc (.cells Q.toArray 60)).heap.size = Y + 1 := by simp [hY]
  have k1 := Blk.newAt _ (Y + 1) z1 39 (c := zRp.toArray) zRp rfl
  have kb := ((Below.refl w.heap.size w).alloc (Nat.le_refl _) (.cells Q.toArray 60)).alloc (by simp) (.cells zRp.toArray 39)
  have k0' := k0.alloc (.cells zRp.toArray 39)
  have hI2 := hI.below kb
  have htn : Turn base w ((w.alloc (.cells Q.toArray 60)).alloc (.cells zRp.toArray 39)) (stF b vv) (stF b vv) := Turn.of_below kb (by omega)
  have K0 := Lib.hid k0'
  have K1 := Lib.hid k1
  have Z1 := Lib.hid z1
  have HTN := Lib.hid htn
  have HI2 := Lib.hid hI2
  have HQO := Lib.hid (hQo.below kb)
  have HQC := Lib.hid hQc
  have HQS := Lib.hid hQs
  have HQL := Lib.hid hQl
  have HQ1 := Lib.hid hQ1
  have HG := Lib.hid hg
  have hbY : b ≠ Y + 1 := by omega
  have hBY : base ≤ Y + 1 := by omega
  have HZ2 : Hid (base ≤ ((w.alloc (.cells Q.toArray 60)).alloc (.cells zRp.toArray 39)).heap.size) := Lib.hid (by simp; omega)
  have cq0 := k0'.cellOf hQc
  have cq1 := k0'.cellOf hQs
  clear k0 k0' k1 z1 kb hI hI2 htn hQl hQ1 hQc hQs hQo hq hg
  have d1 : decide (r.client < 0) = true := decide_eq_true h
  go_enter Try.func26, Try.ntmps26
  go_wp2_with (refine wpList_alloc_n rfl 39 rfl (Y + 1) Z1.out _ (alloc_rep _) ?_)
  refine (u_fault 170 _).mono ?_
  rintro e w9 ⟨rfl, b9⟩
  have kr := K1.out.below b9 K1.out.lt
  obtain ⟨e1, e2, e3, e4, e5, e6⟩ := deed_end (w := w) hbY (by omega) hBY kr (eR_told (ew w9) 170) (HI2.out.below b9) (HTN.out.below' b9 HZ2.out)
  have E1 := Lib.hid e1
  have E2 := Lib.hid e2
  have E3 := Lib.hid e3
  have E4 := Lib.hid e4
  have E5 := Lib.hid e5
  have E6 := Lib.hid e6
  clear e1 e2 e3 e4 e5 e6
  have KR := Lib.hid kr
  clear b9 kr cq0 cq1
  go_wp2_with (refine wpList_store_blk rfl 39 _ _ rfl (Y + 1) (eR 170) rfl rfl KR.out (by rw [size_rep, E5.out]) (by rw [E5.out]; rfl) E6.out ?_)
  refine bodyPost_ret (v := .agg (eR 170).toArray) (results_cell_blk rfl _ _ (Y + 1) rfl E4.out Try.underlying39 rfl (by rw [size_rep, E5.out])) rfl ?_
  exact ⟨_, _, rfl, E1.out, E2.out, E3.out⟩
set_option maxRecDepth 100000 in
set_option maxHeartbeats 2000000 in
theorem u_ap_high (s : StU RawV) (vq : Value) (r : ReqU RawV) (base b : Nat) (vv : Value) (w : World) (hI : StI w base b vv s) (hq : ReqTold w vq r) (hg : StS s) (h : 3 ≤ r.client) :
    Calls Try.prog 26 #[.pointer (some ⟨b, 0, none⟩), vq] w (AppRet base b vv s ⟨170, [], noV⟩ w) := by
  obtain ⟨Q, rfl, hQl, hQ1, hQc, hQs, hQo⟩ := rq_cells hq
  obtain ⟨Y, hY⟩ : ∃ Y, w.heap.size = Y := ⟨_, rfl⟩
  have hlt := hI.lt
  have k0 := Blk.newAt w Y hY 60 (c := Q.toArray) Q rfl
  have z1 : (w.alloc (.cells Q.toArray 60)).heap.size = Y + 1 := by simp [hY]
  have k1 := Blk.newAt _ (Y + 1) z1 39 (c := zRp.toArray) zRp rfl
  have kb := ((Below.refl w.heap.size w).alloc (Nat.le_refl _) (.cells Q.toArray 60)).alloc (by simp) (.cells zRp.toArray 39)
  have k0' := k0.alloc (.cells zRp.toArray 39)
  have hI2 := hI.below kb
  have htn : Turn base w ((w.alloc (.cells Q.toArray 60)).alloc (.cells zRp.toArray 39)) (stF b vv) (stF b vv) := Turn.of_below kb (by omega)
  have K0 := Lib.hid k0'
  have K1 := Lib.hid k1
  have Z1 := Lib.hid z1
  have HTN := Lib.hid htn
  have HI2 := Lib.hid hI2
  have HQO := Lib.hid (hQo.below kb)
  have HQC := Lib.hid hQc
  have HQS := Lib.hid hQs
  have HQL := Lib.hid hQl
  have HQ1 := Lib.hid hQ1
  have HG := Lib.hid hg
  have hbY : b ≠ Y + 1 := by omega
  have hBY : base ≤ Y + 1 := by omega
  have HZ2 : Hid (base ≤ ((w.alloc (.cells Q.toArray 60)).alloc (.cells zRp.toArray 39)).heap.size) := Lib.hid (by simp; omega)
  have cq0 := k0'.cellOf hQc
  have cq1 := k0'.cellOf hQs
  clear k0 k0' k1 z1 kb hI hI2 htn hQl hQ1 hQc hQs hQo hq hg
  have d1 : decide (r.client < 0) = false := decide_eq_false (by omega)
  have d2 : decide (3 ≤ r.client) = true := decide_eq_true h
  have d3 : ¬ r.client < 0 := by omega
  go_enter Try.func26, Try.ntmps26
  go_wp2_with (refine wpList_alloc_n rfl 39 rfl (Y + 1) Z1.out _ (alloc_rep _) ?_)
  refine (u_fault 170 _).mono ?_
  rintro e w9 ⟨rfl, b9⟩
  have kr := K1.out.below b9 K1.out.lt
  obtain ⟨e1, e2, e3, e4, e5, e6⟩ := deed_end (w := w) hbY (by omega) hBY kr (eR_told (ew w9) 170) (HI2.out.below b9) (HTN.out.below' b9 HZ2.out)
  have E1 := Lib.hid e1
  have E2 := Lib.hid e2
  have E3 := Lib.hid e3
  have E4 := Lib.hid e4
  have E5 := Lib.hid e5
  have E6 := Lib.hid e6
  clear e1 e2 e3 e4 e5 e6
  have KR := Lib.hid kr
  clear b9 kr cq0 cq1
  go_wp2_with (refine wpList_store_blk rfl 39 _ _ rfl (Y + 1) (eR 170) rfl rfl KR.out (by rw [size_rep, E5.out]) (by rw [E5.out]; rfl) E6.out ?_)
  refine bodyPost_ret (v := .agg (eR 170).toArray) (results_cell_blk rfl _ _ (Y + 1) rfl E4.out Try.underlying39 rfl (by rw [size_rep, E5.out])) rfl ?_
  exact ⟨_, _, rfl, E1.out, E2.out, E3.out⟩
set_option maxRecDepth 100000 in
set_option maxHeartbeats 2000000 in
theorem u_ap_zero (s : StU RawV) (vq : Value) (r : ReqU RawV) (base b : Nat) (vv : Value) (w : World) (hI : StI w base b vv s) (hq : ReqTold w vq r) (hg : StS s) (c : Nat) (hc : r.client = (c : Int)) (h3 : c < 3) (h : r.seq = 0) :
    Calls Try.prog 26 #[.pointer (some ⟨b, 0, none⟩), vq] w (AppRet base b vv s ⟨170, [], noV⟩ w) := by
  obtain ⟨Q, rfl, hQl, hQ1, hQc, hQs, hQo⟩ := rq_cells hq
  obtain ⟨Y, hY⟩ : ∃ Y, w.heap.size = Y := ⟨_, rfl⟩
  have hlt := hI.lt
  have k0 := Blk.newAt w Y hY 60 (c := Q.toArray) Q rfl
  have z1 : (w.alloc (.cells Q.toArray 60)).heap.size = Y + 1 := by simp [hY]
  have k1 := Blk.newAt _ (Y + 1) z1 39 (c := zRp.toArray) zRp rfl
  have kb := ((Below.refl w.heap.size w).alloc (Nat.le_refl _) (.cells Q.toArray 60)).alloc (by simp) (.cells zRp.toArray 39)
  have k0' := k0.alloc (.cells zRp.toArray 39)
  have hI2 := hI.below kb
  have htn : Turn base w ((w.alloc (.cells Q.toArray 60)).alloc (.cells zRp.toArray 39)) (stF b vv) (stF b vv) := Turn.of_below kb (by omega)
  have K0 := Lib.hid k0'
  have K1 := Lib.hid k1
  have Z1 := Lib.hid z1
  have HTN := Lib.hid htn
  have HI2 := Lib.hid hI2
  have HQO := Lib.hid (hQo.below kb)
  have HQC := Lib.hid hQc
  have HQS := Lib.hid hQs
  have HQL := Lib.hid hQl
  have HQ1 := Lib.hid hQ1
  have HG := Lib.hid hg
  have hbY : b ≠ Y + 1 := by omega
  have hBY : base ≤ Y + 1 := by omega
  have HZ2 : Hid (base ≤ ((w.alloc (.cells Q.toArray 60)).alloc (.cells zRp.toArray 39)).heap.size) := Lib.hid (by simp; omega)
  have cq0 := k0'.cellOf hQc
  have cq1 := k0'.cellOf hQs
  clear k0 k0' k1 z1 kb hI hI2 htn hQl hQ1 hQc hQs hQo hq hg
  rw [hc] at cq0
  rw [h] at cq1
  have d1 : decide ((c : Int) < 0) = false := decide_eq_false (by omega)
  have d2 : decide ((3 : Int) ≤ (c : Int)) = false := decide_eq_false (by omega)
  have d3 : ¬ (c : Int) < 0 := by omega
  have d4 : ¬ (3 : Int) ≤ (c : Int) := by omega
  have d5 : (c : Int) < 3 := by omega
  go_enter Try.func26, Try.ntmps26
  go_wp2_with (refine wpList_alloc_n rfl 39 rfl (Y + 1) Z1.out _ (alloc_rep _) ?_)
  refine (u_fault 170 _).mono ?_
  rintro e w9 ⟨rfl, b9⟩
  have kr := K1.out.below b9 K1.out.lt
  obtain ⟨e1, e2, e3, e4, e5, e6⟩ := deed_end (w := w) hbY (by omega) hBY kr (eR_told (ew w9) 170) (HI2.out.below b9) (HTN.out.below' b9 HZ2.out)
  have E1 := Lib.hid e1
  have E2 := Lib.hid e2
  have E3 := Lib.hid e3
  have E4 := Lib.hid e4
  have E5 := Lib.hid e5
  have E6 := Lib.hid e6
  clear e1 e2 e3 e4 e5 e6
  have KR := Lib.hid kr
  clear b9 kr cq0 cq1
  go_wp2_with (refine wpList_store_blk rfl 39 _ _ rfl (Y + 1) (eR 170) rfl rfl KR.out (by rw [size_rep, E5.out]) (by rw [E5.out]; rfl) E6.out ?_)
  refine bodyPost_ret (v := .agg (eR 170).toArray) (results_cell_blk rfl _ _ (Y + 1) rfl E4.out Try.underlying39 rfl (by rw [size_rep, E5.out])) rfl ?_
  exact ⟨_, _, rfl, E1.out, E2.out, E3.out⟩
set_option maxRecDepth 100000 in
set_option maxHeartbeats 4000000 in
theorem u_ap_old (s : StU RawV) (vq : Value) (r : ReqU RawV) (base b : Nat) (vv : Value) (w : World) (hI : StI w base b vv s) (hq : ReqTold w vq r) (hg : StS s) (c : Nat) (hc : r.client = (c : Int)) (h3 : c < 3) (h4 : r.seq ≠ 0) (h5 : r.seq < s.seqs.getD c 0) :
    Calls Try.prog 26 #[.pointer (some ⟨b, 0, none⟩), vq] w (AppRet base b vv s ⟨171, [], noV⟩ w) := by
  obtain ⟨Q, rfl, hQl, hQ1, hQc, hQs, hQo⟩ := rq_cells hq
  obtain ⟨Y, hY⟩ : ∃ Y, w.heap.size = Y := ⟨_, rfl⟩
  have hlt := hI.lt
  have k0 := Blk.newAt w Y hY 60 (c := Q.toArray) Q rfl
  have z1 : (w.alloc (.cells Q.toArray 60)).heap.size = Y + 1 := by simp [hY]
  have k1 := Blk.newAt _ (Y + 1) z1 39 (c := zRp.toArray) zRp rfl
  have kb := ((Below.refl w.heap.size w).alloc (Nat.le_refl _) (.cells Q.toArray 60)).alloc (by simp) (.cells zRp.toArray 39)
  have k0' := k0.alloc (.cells zRp.toArray 39)
  have hI2 := hI.below kb
  have htn : Turn base w ((w.alloc (.cells Q.toArray 60)).alloc (.cells zRp.toArray 39)) (stF b vv) (stF b vv) := Turn.of_below kb (by omega)
  have K0 := Lib.hid k0'
  have K1 := Lib.hid k1
  have Z1 := Lib.hid z1
  have HTN := Lib.hid htn
  have HI2 := Lib.hid hI2
  have HQO := Lib.hid (hQo.below kb)
  have HQC := Lib.hid hQc
  have HQS := Lib.hid hQs
  have HQL := Lib.hid hQl
  have HQ1 := Lib.hid hQ1
  have HG := Lib.hid hg
  have hbY : b ≠ Y + 1 := by omega
  have hBY : base ≤ Y + 1 := by omega
  have HZ2 : Hid (base ≤ ((w.alloc (.cells Q.toArray 60)).alloc (.cells zRp.toArray 39)).heap.size) := Lib.hid (by simp; omega)
  have cq0 := k0'.cellOf hQc
  have cq1 := k0'.cellOf hQs
  clear k0 k0' k1 z1 kb hI hI2 htn hQl hQ1 hQc hQs hQo hq hg
  rw [hc] at cq0
  have hcq := HQC.out
  rw [hc] at hcq
  have HQC := Lib.hid hcq
  have d1 : decide ((c : Int) < 0) = false := decide_eq_false (by omega)
  have d2 : decide ((3 : Int) ≤ (c : Int)) = false := decide_eq_false (by omega)
  have d3 : ¬ (c : Int) < 0 := by omega
  have d4 : ¬ (3 : Int) ≤ (c : Int) := by omega
  have d5 : (c : Int) < 3 := by omega
  have d6 : ((r.seq : Int) == 0) = false := by rw [beq_eq_false_iff_ne]; omega
  have d7 : ¬ (r.seq : Int) = 0 := by omega
  obtain ⟨n, hn⟩ : ∃ n, r.seq = n := ⟨_, rfl⟩
  obtain ⟨l, hl⟩ : ∃ l, s.seqs.getD c 0 = l := ⟨_, rfl⟩
  have cs := (HI2.out.seq h3).1
  have HNN := Lib.hid hn
  have HLL := Lib.hid hl
  rw [hl] at cs
  simp only [hn] at *
  simp only [hl] at h5
  clear hn hl hcq
  have e1 : decide ((n : Int) < (l : Int)) = true := decide_eq_true (by omega)
  have e2 : (n : Int) < (l : Int) := by omega
  go_enter Try.func26, Try.ntmps26
  go_upto_region 3 with (refine wpList_alloc_n rfl 39 rfl (Y + 1) Z1.out _ (alloc_rep _) ?_)
  refine region_drew_tail 7 mixed (by kernel_rfl) ?_
  simp only [List.take_succ_cons, List.take_zero, List.drop_succ_cons, List.drop_zero]
  repeat (first | go_big_quiet_step (fail) | (refine wpQuiet_step (fun K' hK' => ?_); go_simp; first | (refine hK' _ ?_; clear hK' K') | (refine ⟨_, fun _ _ => rfl, hK' _ ?_⟩; clear hK' K')))
  refine wpQuiet_nil ?_
  rintro _ ⟨m1, rfl⟩
  have b3 : Below ((w.alloc (.cells Q.toArray 60)).alloc (.cells zRp.toArray 39)).heap.size ((w.alloc (.cells Q.toArray 60)).alloc (.cells zRp.toArray 39)) (((w.alloc (.cells Q.toArray 60)).alloc (.cells zRp.toArray 39)).drewN m1) := below_drewN (Below.refl _ _) m1
  have I3 := Lib.hid (HI2.out.below b3)
  have T3 := Lib.hid (HTN.out.below' b3 HZ2.out)
  have K03 := Lib.hid (K0.out.below b3 K0.out.lt)
  have K13 := Lib.hid (K1.out.below b3 K1.out.lt)
  have HQO3 := Lib.hid (HQO.out.below b3)
  have HZ3 : Hid (base ≤ (((w.alloc (.cells Q.toArray 60)).alloc (.cells zRp.toArray 39)).drewN m1).heap.size) := Lib.hid (Nat.le_trans HZ2.out b3.size)
  generalize ((w.alloc (.cells Q.toArray 60)).alloc (.cells zRp.toArray 39)).drewN m1 = w3 at *
  clear b3 cq0 cq1 cs
  have cq0 := K03.out.cellOf HQC.out
  have cq1 := K03.out.cellOf HQS.out
  go_wp2_with fail
  refine (u_fault 171 w3).mono ?_
  rintro e w9 ⟨rfl, b9⟩
  have kr := K13.out.below b9 K13.out.lt
  obtain ⟨e1, e2, e3, e4, e5, e6⟩ := deed_end (w := w) hbY (by omega) hBY kr (eR_told (ew w9) 171) (I3.out.below b9) (T3.out.below' b9 HZ3.out)
  have E1 := Lib.hid e1
  have E2 := Lib.hid e2
  have E3 := Lib.hid e3
  have E4 := Lib.hid e4
  have E5 := Lib.hid e5
  have E6 := Lib.hid e6
  clear e1 e2 e3 e4 e5 e6
  have KR := Lib.hid kr
  clear b9 kr cq0 cq1
  go_wp2_with (refine wpList_store_blk rfl 39 _ _ rfl (Y + 1) (eR 171) rfl rfl KR.out (by rw [size_rep, E5.out]) (by rw [E5.out]; rfl) E6.out ?_)
  refine bodyPost_ret (v := .agg (eR 171).toArray) (results_cell_blk rfl _ _ (Y + 1) rfl E4.out Try.underlying39 rfl (by rw [size_rep, E5.out])) rfl ?_
  exact ⟨_, _, rfl, E1.out, E2.out, E3.out⟩
set_option maxRecDepth 100000 in
set_option maxHeartbeats 4000000 in
theorem u_ap_same (s : StU RawV) (vq : Value) (r : ReqU RawV) (base b : Nat) (vv : Value) (w : World) (hI : StI w base b vv s) (hq : ReqTold w vq r) (hg : StS s) (c : Nat) (hc : r.client = (c : Int)) (h3 : c < 3) (h4 : r.seq ≠ 0) (h5 : r.seq = s.seqs.getD c 0) :
    Calls Try.prog 26 #[.pointer (some ⟨b, 0, none⟩), vq] w (AppRet base b vv s (s.last.getD c (wrongU noV 0)) w) := by
  obtain ⟨Q, rfl, hQl, hQ1, hQc, hQs, hQo⟩ := rq_cells hq
  obtain ⟨Y, hY⟩ : ∃ Y, w.heap.size = Y := ⟨_, rfl⟩
  have hlt := hI.lt
  have k0 := Blk.newAt w Y hY 60 (c := Q.toArray) Q rfl
  have z1 : (w.alloc (.cells Q.toArray 60)).heap.size = Y + 1 := by simp [hY]
  have k1 := Blk.newAt _ (Y + 1) z1 39 (c := zRp.toArray) zRp rfl
  have kb := ((Below.refl w.heap.size w).alloc (Nat.le_refl _) (.cells Q.toArray 60)).alloc (by simp) (.cells zRp.toArray 39)
  have k0' := k0.alloc (.cells zRp.toArray 39)
  have hI2 := hI.below kb
  have htn : Turn base w ((w.alloc (.cells Q.toArray 60)).alloc (.cells zRp.toArray 39)) (stF b vv) (stF b vv) := Turn.of_below kb (by omega)
  have K0 := Lib.hid k0'
  have K1 := Lib.hid k1
  have Z1 := Lib.hid z1
  have HTN := Lib.hid htn
  have HI2 := Lib.hid hI2
  have HQO := Lib.hid (hQo.below kb)
  have HQC := Lib.hid hQc
  have HQS := Lib.hid hQs
  have HQL := Lib.hid hQl
  have HQ1 := Lib.hid hQ1
  have HG := Lib.hid hg
  have hbY : b ≠ Y + 1 := by omega
  have hBY : base ≤ Y + 1 := by omega
  have HZ2 : Hid (base ≤ ((w.alloc (.cells Q.toArray 60)).alloc (.cells zRp.toArray 39)).heap.size) := Lib.hid (by simp; omega)
  have cq0 := k0'.cellOf hQc
  have cq1 := k0'.cellOf hQs
  clear k0 k0' k1 z1 kb hI hI2 htn hQl hQ1 hQc hQs hQo hq hg
  rw [hc] at cq0
  have hcq := HQC.out
  rw [hc] at hcq
  have HQC := Lib.hid hcq
  have d1 : decide ((c : Int) < 0) = false := decide_eq_false (by omega)
  have d2 : decide ((3 : Int) ≤ (c : Int)) = false := decide_eq_false (by omega)
  have d3 : ¬ (c : Int) < 0 := by omega
  have d4 : ¬ (3 : Int) ≤ (c : Int) := by omega
  have d5 : (c : Int) < 3 := by omega
  have d6 : ((r.seq : Int) == 0) = false := by rw [beq_eq_false_iff_ne]; omega
  have d7 : ¬ (r.seq : Int) = 0 := by omega
  obtain ⟨n, hn⟩ : ∃ n, r.seq = n := ⟨_, rfl⟩
  obtain ⟨l, hl⟩ : ∃ l, s.seqs.getD c 0 = l := ⟨_, rfl⟩
  have cs := (HI2.out.seq h3).1
  have HNN := Lib.hid hn
  have HLL := Lib.hid hl
  rw [hl] at cs
  simp only [hn] at *
  simp only [hl] at h5
  clear hn hl hcq
  subst h5
  have e1 : decide ((n : Int) < (n : Int)) = false := decide_eq_false (by omega)
  go_enter Try.func26, Try.ntmps26
  go_upto_region 3 with (refine wpList_alloc_n rfl 39 rfl (Y + 1) Z1.out _ (alloc_rep _) ?_)
  refine region_drew_tail 7 mixed (by kernel_rfl) ?_
  simp only [List.take_succ_cons, List.take_zero, List.drop_succ_cons, List.drop_zero]
  repeat (first | go_big_quiet_step (fail) | (refine wpQuiet_step (fun K' hK' => ?_); go_simp; first | (refine hK' _ ?_; clear hK' K') | (refine ⟨_, fun _ _ => rfl, hK' _ ?_⟩; clear hK' K')))
  refine wpQuiet_nil ?_
  rintro _ ⟨m1, rfl⟩
  have b3 : Below ((w.alloc (.cells Q.toArray 60)).alloc (.cells zRp.toArray 39)).heap.size ((w.alloc (.cells Q.toArray 60)).alloc (.cells zRp.toArray 39)) (((w.alloc (.cells Q.toArray 60)).alloc (.cells zRp.toArray 39)).drewN m1) := below_drewN (Below.refl _ _) m1
  have I3 := Lib.hid (HI2.out.below b3)
  have T3 := Lib.hid (HTN.out.below' b3 HZ2.out)
  have K03 := Lib.hid (K0.out.below b3 K0.out.lt)
  have K13 := Lib.hid (K1.out.below b3 K1.out.lt)
  have HQO3 := Lib.hid (HQO.out.below b3)
  have HZ3 : Hid (base ≤ (((w.alloc (.cells Q.toArray 60)).alloc (.cells zRp.toArray 39)).drewN m1).heap.size) := Lib.hid (Nat.le_trans HZ2.out b3.size)
  generalize ((w.alloc (.cells Q.toArray 60)).alloc (.cells zRp.toArray 39)).drewN m1 = w3 at *
  clear b3 cq0 cq1 cs
  have cq0 := K03.out.cellOf HQC.out
  have cq1 := K03.out.cellOf HQS.out
  go_upto_region 8 with fail
  have hls := lastS HG.out c
  have HLS : Hid ((s.last.getD c (wrongU noV 0)).ids.length ≤ 1000 ∧ (s.last.getD c (wrongU noV 0)).ver.bl.length ≤ 1000 ∧ (s.last.getD c (wrongU noV 0)).ver.ns.length ≤ 1000 ∧ (s.last.getD c (wrongU noV 0)).ver.zs.length ≤ 1000) := Lib.hid ⟨by have := hls.1; omega, hls.2.2.2⟩
  clear hls cq0 cq1
  obtain ⟨R8, hR8, hC8⟩ := I3.out.rep (c := c) h3
  have HL8 : Hid (R8.length = 6) := Lib.hid hR8.len
  have HR8 := Lib.hid (hR8.sub (ew_sub w3))
  have HC8 := Lib.hid hC8
  clear hR8 hC8
  refine region_free_last 8 mixed (by kernel_rfl) (by kernel_rfl) (fun u => ((_ :: _ :: _ :: _ :: _ :: _ :: _ :: _ :: _ :: _ :: _ :: _ :: _ :: _ :: _ :: _ :: _ :: _ :: _ :: _ :: _ :: _ :: _ :: _ :: _ :: _ :: _ :: _ :: _ :: _ :: _ :: _ :: _ :: _ :: _ :: _ :: _ :: _ :: _ :: _ :: _ :: _ :: _ :: _ :: _ :: _ :: _ :: _ :: _ :: _ :: _ :: _ :: _ :: _ :: u 0 :: u 1 :: u 2 :: u 3 :: u 4 :: u 5 :: u 6 :: u 7 :: []) : List Value).toArray) [] (fun _ => undef) rfl (NewBut w3) (show Below _ _ _ from (Below.refl _ _).drew) (r8S b Y c R8 (s.last.getD c (wrongU noV 0))) ?mono8 ?step8 ?last8
  case mono8 =>
    intro i v W W' hv hC hC' hb
    match i with
    | 0 | 1 | 2 | 3 | 4 | 5 | 6 => exact hv
    | 7 =>
      obtain ⟨r, h1, h2⟩ := hv
      exact ⟨r, h1, h2.sub (ew_lf (Lf.below hb))⟩
    | _ + 8 => trivial
  case step8 =>
    intro u W i o hi ho hC hd
    have hr := Below.refl W.heap.size W
    have hz := hC.size
    rcases i with _ | _ | _ | _ | _ | _ | _ | _ | i
    all_goals try (simp only [List.getElem?_cons_zero, List.getElem?_cons_succ, Option.some.injEq] at ho; subst ho)
    · go_wp2_with fail
      exact ⟨_, rfl, rfl, hC, hr⟩
    · go_wp2_with fail
      exact ⟨_, rfl, rfl, hC, hr⟩
    · have h1 : u 1 = _ := hd ⟨1, .data⟩ (by simp) rfl
      have c0 := (K03.out.below hC K03.out.lt).cellOf HQC.out
      rw [h1]
      go_wp2_with fail
      exact ⟨.int .i64 (c : Int), by simp [upd, h1], rfl, hC, hr⟩
    · have h1 : u 0 = _ := hd ⟨0, .data⟩ (by simp) rfl
      rw [h1]
      go_wp2_with fail
      exact ⟨.pointer (some ⟨b, 0, none⟩), by simp [upd, h1], rfl, hC, hr⟩
    · have h1 : u 3 = _ := hd ⟨3, .data⟩ (by simp) rfl
      rw [h1]
      go_wp2_with fail
      exact ⟨.pointer (some ⟨b, 4, none⟩), by simp [upd, h1], rfl, hC, hr⟩
    · have h1 : u 4 = _ := hd ⟨4, .data⟩ (by simp) rfl
      have h2 : u 2 = _ := hd ⟨2, .data⟩ (by simp) rfl
      rw [h1, h2]
      go_wp2_with fail
      exact ⟨.pointer (some ⟨b, 4 + c * 6, none⟩), by simp [upd, h1, h2], rfl, hC, hr⟩
    · have h1 : u 5 = _ := hd ⟨5, .data⟩ (by simp) rfl
      have hcl : ∀ i x, R8[i]? = some x → W.cell? ((⟨b, 4 + c * 6, none⟩ : Addr).add i) = some x := fun i x hx => (show Sub w3 W from ⟨hC.size, fun a y hy => cell_sub hC hy⟩).2 _ _ (HC8.out i x hx)
      have HCL := Lib.hid hcl
      clear hcl
      rw [h1]
      go_wp2_with (refine wpList_load_addr rfl 39 _ rfl ⟨b, 4 + c * 6, none⟩ rfl R8 HCL.out Try.underlying39 rfl (by rw [size_rep, HL8.out]) ?_)
      exact ⟨.agg R8.toArray, by simp [upd, h1], rfl, hC, hr⟩
    · have h1 : u 6 = _ := hd ⟨6, .data⟩ (by simp) rfl
      have HC := Lib.hid (u_copyR (s.last.getD c (wrongU noV 0)) R8 W (HR8.out.below hC) HLS.out)
      have HCW := Lib.hid hC
      rw [h1]
      clear hC
      go_wp2_with ((with_reducible refine HC.out.mono ?_); rintro e w5 ⟨r5, rfl, o5, b5⟩; have O5 := Lib.hid o5; have B5 := Lib.hid b5; clear o5 b5)
      exact ⟨.agg r5.toArray, by simp [upd, h1], ⟨r5, rfl, O5.out⟩, HCW.out.trans (B5.out.mono hz), B5.out⟩
    · omega
  case last8 =>
    intro u W o ho hC hS
    simp only [List.getElem?_cons_zero, List.getElem?_cons_succ, Option.some.injEq] at ho
    subst ho
    obtain ⟨r, h7, hV7⟩ : ∃ r : List Value, u 7 = .agg r.toArray ∧ RepOkV (ew W) r (s.last.getD c (wrongU noV 0)) := hS 7 (by decide)
    have kr := K13.out.below hC K13.out.lt
    obtain ⟨e1, e2, e3, e4, e5, e6⟩ := deed_end (w := w) hbY (by omega) hBY kr hV7 (I3.out.below hC) (T3.out.below' hC HZ3.out)
    have E1 := Lib.hid e1
    have E2 := Lib.hid e2
    have E3 := Lib.hid e3
    have E4 := Lib.hid e4
    have E5 := Lib.hid e5
    have E6 := Lib.hid e6
    clear e1 e2 e3 e4 e5 e6
    have KR := Lib.hid kr
    clear kr hV7 hC hS
    rw [h7]
    go_wp2_with (refine wpList_store_blk rfl 39 _ _ rfl (Y + 1) r rfl rfl KR.out (by rw [size_rep, E5.out]) (by rw [E5.out]; rfl) E6.out ?_)
    refine bodyPost_ret (v := .agg (r).toArray) (results_cell_blk rfl _ _ (Y + 1) rfl E4.out Try.underlying39 rfl (by rw [size_rep, E5.out])) rfl ?_
    exact ⟨_, _, rfl, E1.out, E2.out, E3.out⟩
end Go.Proofs.Ytogonbgelaehhaa
namespace Go.Proofs.Ytogonbgelaehhaa
open Go.RowKit
set_option linter.unusedVariables false

def r7C (base b Y : Nat) (vv : Value) (w3 : World) (Q : List Value) (s0 s1 : StU RawV) (x : RepU RawV) : Bool → Bool → Value → World → Prop
  | false, false, _, W => NewBut w3 W
  | true, false, v, W => ∃ R vv', v = .agg R.toArray ∧ RepOkV (ew W) R x ∧ StI W base b vv' s0 ∧ Turn base w3 W (stF b vv) (stF b vv') ∧ Blk W Y 60 Q ∧ Blk W (Y + 1) 39 zRp
  | true, true, v, W => ∃ R vv', v = .agg R.toArray ∧ RepOkV (ew W) R x ∧ StI W base b vv' s1 ∧ Turn base w3 W (stF b vv) (stF b vv') ∧ Blk W Y 60 Q ∧ Blk W (Y + 1) 39 zRp
  | false, true, _, _ => False
theorem r7C.blk {base b Y : Nat} {vv : Value} {w3 : World} {Q : List Value} {s0 s1 : StU RawV} {x : RepU RawV} {b1 b2 : Bool} {v : Value} {W : World} (h : r7C base b Y vv w3 Q s0 s1 x b1 b2 v W) (k : Blk w3 Y 60 Q) : Blk W Y 60 Q := by
  cases b1 with
  | false =>
    cases b2 with
    | false => exact k.below h k.lt
    | true => exact h.elim
  | true =>
    cases b2 with
    | false => obtain ⟨_, _, _, _, _, _, k', _⟩ := h; exact k'
    | true => obtain ⟨_, _, _, _, _, _, k', _⟩ := h; exact k'
def r7S (b Y c n : Nat) (Q : List Value) (i : Nat) (v : Value) : Prop := match i with
  | 0 | 3 | 8 | 12 | 16 => v = .pointer (some ⟨b, 0, none⟩) | 1 | 4 => v = .pointer (some ⟨Y, 0, none⟩) | 2 | 5 => v = .int .i64 (c : Int) | 6 => v = .pointer (some ⟨Y, 1, none⟩) | 7 => v = .int .u32 (n : Int)
  | 9 => v = .pointer (some ⟨Y, 2, none⟩) | 10 => v = .agg (Q.drop 2).toArray | 13 => v = .pointer (some ⟨b, 1, none⟩) | 14 => v = .pointer (some ⟨b, 1 + c, none⟩) | 17 => v = .pointer (some ⟨b, 4, none⟩) | 18 => v = .pointer (some ⟨b, 4 + c * 6, none⟩)
  | _ => True
set_option maxRecDepth 100000 in
set_option maxHeartbeats 4000000 in
theorem u_ap_do (s : StU RawV) (vq : Value) (r : ReqU RawV) (base b : Nat) (vv : Value) (w : World) (hI : StI w base b vv s) (hq : ReqTold w vq r) (hg : StS s) (c : Nat) (hc : r.client = (c : Int)) (h3 : c < 3) (h4 : r.seq ≠ 0) (h5 : s.seqs.getD c 0 < r.seq) (hsq : r.seq < 4294967296) (hid : r.id < 4294967296) (hva : VerS r.ver) :
    Calls Try.prog 26 #[.pointer (some ⟨b, 0, none⟩), vq] w (AppRet base b vv ⟨(doR s.vers r.kind r.id r.ver).1, s.seqs.set c r.seq, s.last.set c (doR s.vers r.kind r.id r.ver).2⟩ (doR s.vers r.kind r.id r.ver).2 w) := by
  obtain ⟨Q, rfl, hQl, hQ1, hQc, hQs, hQo⟩ := rq_cells hq
  obtain ⟨Y, hY⟩ : ∃ Y, w.heap.size = Y := ⟨_, rfl⟩
  have hlt := hI.lt
  have k0 := Blk.newAt w Y hY 60 (c := Q.toArray) Q rfl
  have z1 : (w.alloc (.cells Q.toArray 60)).heap.size = Y + 1 := by simp [hY]
  have k1 := Blk.newAt _ (Y + 1) z1 39 (c := zRp.toArray) zRp rfl
  have kb := ((Below.refl w.heap.size w).alloc (Nat.le_refl _) (.cells Q.toArray 60)).alloc (by simp) (.cells zRp.toArray 39)
  have k0' := k0.alloc (.cells zRp.toArray 39)
  have hI2 := hI.below kb
  have htn : Turn base w ((w.alloc (.cells Q.toArray 60)).alloc (.cells zRp.toArray 39)) (stF b vv) (stF b vv) := Turn.of_below kb (by omega)
  have K0 := Lib.hid k0'
  have K1 := Lib.hid k1
  have Z1 := Lib.hid z1
  have HTN := Lib.hid htn
  have HI2 := Lib.hid hI2
  have HQO := Lib.hid (hQo.below kb)
  have HQC := Lib.hid hQc
  have HQS := Lib.hid hQs
  have HQL := Lib.hid hQl
  have HQ1 := Lib.hid hQ1
  have HG := Lib.hid hg
  have hbY : b ≠ Y + 1 := by omega
  have hBY : base ≤ Y + 1 := by omega
  have HZ2 : Hid (base ≤ ((w.alloc (.cells Q.toArray 60)).alloc (.cells zRp.toArray 39)).heap.size) := Lib.hid (by simp; omega)
  have cq0 := k0'.cellOf hQc
  have cq1 := k0'.cellOf hQs
  clear k0 k0' k1 z1 kb hI hI2 htn hQl hQ1 hQc hQs hQo hq hg
  rw [hc] at cq0
  have hcq := HQC.out
  rw [hc] at hcq
  have HQC := Lib.hid hcq
  have d1 : decide ((c : Int) < 0) = false := decide_eq_false (by omega)
  have d2 : decide ((3 : Int) ≤ (c : Int)) = false := decide_eq_false (by omega)
  have d3 : ¬ (c : Int) < 0 := by omega
  have d4 : ¬ (3 : Int) ≤ (c : Int) := by omega
  have d5 : (c : Int) < 3 := by omega
  have d6 : ((r.seq : Int) == 0) = false := by rw [beq_eq_false_iff_ne]; omega
  have d7 : ¬ (r.seq : Int) = 0 := by omega
  obtain ⟨n, hn⟩ : ∃ n, r.seq = n := ⟨_, rfl⟩
  obtain ⟨l, hl⟩ : ∃ l, s.seqs.getD c 0 = l := ⟨_, rfl⟩
  have cs := (HI2.out.seq h3).1
  have HNN := Lib.hid hn
  have HLL := Lib.hid hl
  rw [hl] at cs
  simp only [hn] at *
  simp only [hl] at h5
  clear hn hl hcq
  have hds := do_S HG.out.1.vers HG.out.2.1 r.kind r.id hva
  have hdo := fun (W : World) (_ : True) hI ho => u_do s (.agg (Q.drop 2).toArray) r.kind r.id r.ver base b vv W hI ho HG.out hid hva
  have hll : s.last.length = 3 := HG.out.1.last
  obtain ⟨x, hx⟩ : ∃ x, (doR s.vers r.kind r.id r.ver).2 = x := ⟨_, rfl⟩
  obtain ⟨L', hL'⟩ : ∃ L', (doR s.vers r.kind r.id r.ver).1 = L' := ⟨_, rfl⟩
  simp only [hx, hL'] at hdo ⊢
  rw [hx] at hds
  obtain ⟨s1, hs1⟩ : ∃ s1 : StU RawV, StU.mk L' (s.seqs.set c n) (s.last.set c x) = s1 := ⟨_, rfl⟩
  rw [hs1]
  have HX : Hid (s1.last.getD c (wrongU noV 0) = x) := Lib.hid (by
    rw [← hs1]
    simp only
    rw [List.getD_eq_getElem?_getD, List.getElem?_set_self (by rw [hll]; exact h3)]
    rfl)
  have HLS : Hid (x.ids.length ≤ 1000 ∧ x.ver.bl.length ≤ 1000 ∧ x.ver.ns.length ≤ 1000 ∧ x.ver.zs.length ≤ 1000) := Lib.hid ⟨by have := hds.2.1; omega, hds.2.2.2.2⟩
  have HS1 := Lib.hid hs1
  have HDO : Hid (∀ W, True → StI W base b vv s → OpTold W (.agg (Q.drop 2).toArray) r.kind r.id r.ver → Calls Try.prog 32 #[.pointer (some ⟨b, 0, none⟩), .agg (Q.drop 2).toArray] W (DeedRet base b vv s L' x W)) := Lib.hid hdo
  have HQ6 : Hid ((Q.drop 2).length = 6) := Lib.hid (by rw [List.length_drop, HQL.out])
  have hnY : ∀ W, Below ((w.alloc (.cells Q.toArray 60)).alloc (.cells zRp.toArray 39)).heap.size ((w.alloc (.cells Q.toArray 60)).alloc (.cells zRp.toArray 39)) W → ¬ stF b vv Y ∧ ¬ stF b vv (Y + 1) := fun W hb => by
    have hI := HI2.out
    have kY := K0.out
    have kY1 := K1.out
    exact ⟨fun h => by
      rcases h with h | h
      · omega
      · exact hI.ownNe kY (by decide) Y h rfl, fun h => by
      rcases h with h | h
      · omega
      · exact hI.ownNe kY1 (by decide) (Y + 1) h rfl⟩
  have HNY := Lib.hid (hnY _ (Below.refl _ _))
  have e1 : decide ((n : Int) < (l : Int)) = false := decide_eq_false (by omega)
  have e2 : ¬ (n : Int) < (l : Int) := by omega
  have e3 : decide ((l : Int) < (n : Int)) = true := decide_eq_true (by omega)
  have e4 : (l : Int) < (n : Int) := by omega
  have HSQ := Lib.hid hsq
  clear hds hdo hll hx hL' hs1 hnY hid hva hsq
  go_enter Try.func26, Try.ntmps26
  go_upto_region 3 with (refine wpList_alloc_n rfl 39 rfl (Y + 1) Z1.out _ (alloc_rep _) ?_)
  refine region_drew_tail 7 mixed (by kernel_rfl) ?_
  simp only [List.take_succ_cons, List.take_zero, List.drop_succ_cons, List.drop_zero]
  repeat (first | go_big_quiet_step (fail) | (refine wpQuiet_step (fun K' hK' => ?_); go_simp; first | (refine hK' _ ?_; clear hK' K') | (refine ⟨_, fun _ _ => rfl, hK' _ ?_⟩; clear hK' K')))
  refine wpQuiet_nil ?_
  rintro _ ⟨m1, rfl⟩
  have b3 : Below ((w.alloc (.cells Q.toArray 60)).alloc (.cells zRp.toArray 39)).heap.size ((w.alloc (.cells Q.toArray 60)).alloc (.cells zRp.toArray 39)) (((w.alloc (.cells Q.toArray 60)).alloc (.cells zRp.toArray 39)).drewN m1) := below_drewN (Below.refl _ _) m1
  have I3 := Lib.hid (HI2.out.below b3)
  have T3 := Lib.hid (HTN.out.below' b3 HZ2.out)
  have K03 := Lib.hid (K0.out.below b3 K0.out.lt)
  have K13 := Lib.hid (K1.out.below b3 K1.out.lt)
  have HQO3 := Lib.hid (HQO.out.below b3)
  have HZ3 : Hid (base ≤ (((w.alloc (.cells Q.toArray 60)).alloc (.cells zRp.toArray 39)).drewN m1).heap.size) := Lib.hid (Nat.le_trans HZ2.out b3.size)
  generalize ((w.alloc (.cells Q.toArray 60)).alloc (.cells zRp.toArray 39)).drewN m1 = w3 at *
  clear b3 cq0 cq1 cs
  have cq0 := K03.out.cellOf HQC.out
  have cq1 := K03.out.cellOf HQS.out
  go_upto_region 7 with fail
  clear cq0 cq1 e1 e2 e3 e4 d1 d2 d3 d4 d6 d7
  refine region_threeV 11 15 19 (by decide) (by decide) mixed (by kernel_rfl) (by kernel_rfl) (by kernel_rfl) (fun u => ((_ :: _ :: _ :: _ :: _ :: _ :: _ :: _ :: _ :: _ :: _ :: _ :: _ :: _ :: _ :: _ :: _ :: _ :: _ :: _ :: _ :: _ :: _ :: _ :: _ :: _ :: _ :: _ :: _ :: _ :: _ :: _ :: _ :: _ :: _ :: _ :: u 0 :: u 1 :: u 2 :: u 3 :: u 4 :: u 5 :: u 6 :: u 7 :: u 8 :: u 9 :: u 10 :: u 11 :: u 12 :: u 13 :: u 14 :: u 16 :: u 17 :: u 18 :: _ :: _ :: _ :: _ :: _ :: _ :: _ :: _ :: []) : List Value).toArray) [] (fun _ => undef) rfl (r7C base b Y vv w3 Q ⟨L', s.seqs, s.last⟩ ⟨L', s.seqs.set c n, s.last⟩ x) (fun v => show Below _ _ _ from (Below.refl _ _).drew) (r7S b Y c n Q) ?step ?one ?two ?last
  case step =>
    intro b1 b2 u W i o hi hk1 hk2 ho hC hd
    rcases i with _ | _ | _ | _ | _ | _ | _ | _ | _ | _ | _ | _ | _ | _ | _ | _ | _ | _ | _ | i
    all_goals try (simp only [List.getElem?_cons_zero, List.getElem?_cons_succ, Option.some.injEq] at ho; subst ho)
    · go_wp2_with fail
      exact ⟨_, rfl, rfl, hC⟩
    · go_wp2_with fail
      exact ⟨_, rfl, rfl, hC⟩
    · have h1 : u 1 = _ := hd ⟨1, .data⟩ (by simp) rfl
      have c0 := (hC.blk K03.out).cellOf HQC.out
      rw [h1]
      go_wp2_with fail
      exact ⟨.int .i64 (c : Int), by simp [upd, h1], rfl, hC⟩
    · go_wp2_with fail
      exact ⟨_, rfl, rfl, hC⟩
    · go_wp2_with fail
      exact ⟨_, rfl, rfl, hC⟩
    · have h1 : u 4 = _ := hd ⟨4, .data⟩ (by simp) rfl
      have c0 := (hC.blk K03.out).cellOf HQC.out
      rw [h1]
      go_wp2_with fail
      exact ⟨.int .i64 (c : Int), by simp [upd, h1], rfl, hC⟩
    · go_wp2_with fail
      exact ⟨_, rfl, rfl, hC⟩
    · have h1 : u 6 = _ := hd ⟨6, .data⟩ (by simp) rfl
      have c0 := (hC.blk K03.out).cellOf HQS.out
      rw [h1]
      go_wp2_with fail
      exact ⟨.int .u32 (n : Int), by simp [upd, h1], rfl, hC⟩
    · go_wp2_with fail
      exact ⟨_, rfl, rfl, hC⟩
    · go_wp2_with fail
      exact ⟨_, rfl, rfl, hC⟩
    · have h1 : u 9 = _ := hd ⟨9, .data⟩ (by simp) rfl
      have hB := hC.blk K03.out
      have hcl : ∀ i x, (Q.drop 2)[i]? = some x → W.cell? ((⟨Y, 2, none⟩ : Addr).add i) = some x := fun i x hx => by
        rw [Addr.add_mid, hB.cell]
        rw [List.getElem?_drop] at hx
        exact hx
      have HCL := Lib.hid hcl
      have HC := Lib.hid hC
      clear hcl hB hC
      rw [h1]
      go_wp2_with (refine wpList_load_addr rfl 30 _ rfl ⟨Y, 2, none⟩ rfl (Q.drop 2) HCL.out Try.underlying30 rfl (by rw [size_op, HQ6.out]) ?_)
      exact ⟨.agg (Q.drop 2).toArray, by simp [upd, h1], rfl, HC.out⟩
    · omega
    · have h1 : u 0 = _ := hd ⟨0, .data⟩ (by simp) rfl
      rw [h1]
      go_wp2_with fail
      exact ⟨.pointer (some ⟨b, 0, none⟩), by simp [upd, h1], rfl, hC⟩
    · have h1 : u 12 = _ := hd ⟨12, .data⟩ (by simp) rfl
      rw [h1]
      go_wp2_with fail
      exact ⟨.pointer (some ⟨b, 1, none⟩), by simp [upd, h1], rfl, hC⟩
    · have h1 : u 13 = _ := hd ⟨13, .data⟩ (by simp) rfl
      have h2 : u 2 = _ := hd ⟨2, .data⟩ (by simp) rfl
      rw [h1, h2]
      go_wp2_with fail
      exact ⟨.pointer (some ⟨b, 1 + c, none⟩), by simp [upd, h1, h2], rfl, hC⟩
    · omega
    · have h1 : u 3 = _ := hd ⟨3, .data⟩ (by simp) rfl
      rw [h1]
      go_wp2_with fail
      exact ⟨.pointer (some ⟨b, 0, none⟩), by simp [upd, h1], rfl, hC⟩
    · have h1 : u 16 = _ := hd ⟨16, .data⟩ (by simp) rfl
      rw [h1]
      go_wp2_with fail
      exact ⟨.pointer (some ⟨b, 4, none⟩), by simp [upd, h1], rfl, hC⟩
    · have h1 : u 17 = _ := hd ⟨17, .data⟩ (by simp) rfl
      have h2 : u 5 = _ := hd ⟨5, .data⟩ (by simp) rfl
      rw [h1, h2]
      go_wp2_with fail
      exact ⟨.pointer (some ⟨b, 4 + c * 6, none⟩), by simp [upd, h1, h2], rfl, hC⟩
    · omega
  case one =>
    intro u W o ho hC hd
    simp only [List.getElem?_cons_zero, List.getElem?_cons_succ, Option.some.injEq] at ho
    subst ho
    have h8 : u 8 = _ := hd ⟨8, .data⟩ (by simp) rfl
    have h10 : u 10 = _ := hd ⟨10, .data⟩ (by simp) rfl
    have hCW : NewBut w3 W := hC
    have HD := Lib.hid (HDO.out W trivial (I3.out.below hCW) (HQO3.out.below hCW))
    have TW := Lib.hid (Turn.of_below (F := stF b vv) hCW HZ3.out)
    have KY := Lib.hid (K03.out.below hCW K03.out.lt)
    have KY1 := Lib.hid (K13.out.below hCW K13.out.lt)
    rw [h8, h10]
    clear hC hCW hd
    go_wp2_with ((with_reducible refine HD.out.mono ?_); rintro e w9 ⟨R, vv', rfl, q1, q2, q3⟩; have Q9 := Lib.hid (show r7C base b Y vv w3 Q ⟨L', s.seqs, s.last⟩ ⟨L', s.seqs.set c n, s.last⟩ x true false (.agg R.toArray) w9 from ⟨R, vv', rfl, q1, q2, TW.out.trans q3, q3.blk KY.out HNY.out.1, q3.blk KY1.out HNY.out.2⟩); clear q1 q2 q3)
    exact ⟨.agg R.toArray, by first | (simp [upd, h8, h10]; done) | (simp [upd, h8, h10]; rfl), trivial, Q9.out⟩
  case two =>
    intro u W o ho hC hd
    simp only [List.getElem?_cons_zero, List.getElem?_cons_succ, Option.some.injEq] at ho
    subst ho
    have h14 : u 14 = _ := hd ⟨14, .data⟩ (by simp) rfl
    have h7 : u 7 = _ := hd ⟨7, .data⟩ (by simp) rfl
    obtain ⟨R, vv', q0, q1, q2, q3, q4, q5⟩ := hC
    have cs := (q2.seq h3).1
    obtain ⟨_, S, hbS, _⟩ := id q2
    have fs := hbS.free (1 + c)
    have l9 := Lf.cell (a := ⟨b, 1 + c, none⟩) hbS (by decide) (.int .u32 (n : Int))
    have i9 := q2.seqSet h3 HSQ.out
    have t9 := q3.cell (R := b) (o := 1 + c) hlt.1 (.inl (.inl rfl)) (.int .u32 (n : Int))
    have hbY' : b ≠ Y := by omega
    have Q9 := Lib.hid (show r7C base b Y vv w3 Q ⟨L', s.seqs, s.last⟩ ⟨L', s.seqs.set c n, s.last⟩ x true true (u 11) (W.setCell ⟨b, 1 + c, none⟩ (.int .u32 (n : Int))) from ⟨R, vv', q0, q1.sub (ew_lf l9), i9, t9, q4.other (a := ⟨b, 1 + c, none⟩) hbY' _, q5.other (a := ⟨b, 1 + c, none⟩) hbY _⟩)
    rw [h14, h7]
    clear q0 q1 q2 q3 q4 q5 hbS l9 i9 t9 hd
    go_wp2_with fail
    exact ⟨undef, by first | (simp [upd, h14, h7]; done) | (simp [upd, h14, h7]; rfl) | rfl, trivial, Q9.out⟩
  case last =>
    intro u W o ho hC hS
    simp only [List.getElem?_cons_zero, List.getElem?_cons_succ, Option.some.injEq] at ho
    subst ho
    have h18 : u 18 = .pointer (some ⟨b, 4 + c * 6, none⟩) := hS 18 (by decide)
    obtain ⟨R, vv', q0, q1, q2, q3, q4, q5⟩ := hC
    obtain ⟨X, Ro, Z, hB, hX, hRo, _, hob, hfin⟩ := q2.cut h3
    have hlR := q1.len
    have hoR := rep_oneV q1
    have HB := Lib.hid hB
    have HXl := Lib.hid hX
    have HRo := Lib.hid (hRo.trans hlR.symm)
    have HlR := Lib.hid hlR
    have HoR := Lib.hid hoR
    have HF : Hid (∀ w', Blk w' b 42 (X ++ (R ++ Z)) → W.grownBy w' (some b) → StI w' base b vv' s1 ∧ Turn base w w' (stF b vv) (stF b vv') ∧ Blk w' Y 60 Q ∧ Blk w' (Y + 1) 39 zRp ∧ base ≤ w'.heap.size) := Lib.hid fun w' hB' hg => by
      have hi := (hfin w' R x hB' hg q1).1
      rw [show (StU.mk (StU.mk L' (s.seqs.set c n) s.last).vers (StU.mk L' (s.seqs.set c n) s.last).seqs ((StU.mk L' (s.seqs.set c n) s.last).last.set c x) : StU RawV) = s1 from HS1.out] at hi
      have tW := T3.out.trans q3
      refine ⟨hi, ⟨tW.b.trans ⟨hg.os, hg.tape, hg.output, hg.size, fun i hi' => hg.block i (Nat.lt_of_lt_of_le hi' (Nat.le_trans (Nat.le_trans hlt.1 (Nat.le_of_lt hlt.2)) tW.b.size)) fun e => by cases e; omega⟩, fun i hi' hn => ?_, tW.new⟩, q4.grownP hg (fun e => by cases e; omega), q5.grownP hg (fun e => by cases e; omega), Nat.le_trans (Nat.le_trans (Nat.le_trans hlt.1 (Nat.le_of_lt hlt.2)) tW.b.size) hg.size⟩
      rw [hg.block i (Nat.lt_of_lt_of_le hi' tW.b.size) fun e => by cases e; exact hn (.inl rfl)]
      exact tW.out i hi' hn
    rw [h18, q0]
    clear q0 q1 q2 q3 q4 q5 hB hX hRo hob hfin hlR hoR hS
    go_wp2_with (refine wpList_store_part rfl 39 _ _ rfl b (4 + c * 6) rfl R rfl X Ro Z HB.out HXl.out HRo.out (by rw [size_rep, HlR.out]) HoR.out ?_; intro w9 hB9 hb9 hw9; have F9 := Lib.hid (HF.out w9 hB9 (by rw [hw9]; exact grown_setCells b R (4 + c * 6) W)); clear hB9 hb9 hw9)
    obtain ⟨f1, f2, f3, f4, f5⟩ := F9.out
    have I9 := Lib.hid f1
    have T9 := Lib.hid f2
    have K09 := Lib.hid f3
    have K19 := Lib.hid f4
    have HZ9 := Lib.hid f5
    clear f1 f2 f3 f4 f5
    go_upto_region 8 with fail
    obtain ⟨R8, hR8, hC8⟩ := I9.out.rep (c := c) h3
    rw [HX.out] at hR8
    have HL8 : Hid (R8.length = 6) := Lib.hid hR8.len
    have HR8 := Lib.hid (hR8.sub (ew_sub w9))
    have HC8 := Lib.hid hC8
    clear hR8 hC8
    refine region_free_last 8 mixed (by kernel_rfl) (by kernel_rfl) (fun u => ((_ :: _ :: _ :: _ :: _ :: _ :: _ :: _ :: _ :: _ :: _ :: _ :: _ :: _ :: _ :: _ :: _ :: _ :: _ :: _ :: _ :: _ :: _ :: _ :: _ :: _ :: _ :: _ :: _ :: _ :: _ :: _ :: _ :: _ :: _ :: _ :: _ :: _ :: _ :: _ :: _ :: _ :: _ :: _ :: _ :: _ :: _ :: _ :: _ :: _ :: _ :: _ :: _ :: _ :: u 0 :: u 1 :: u 2 :: u 3 :: u 4 :: u 5 :: u 6 :: u 7 :: []) : List Value).toArray) [] (fun _ => undef) rfl (NewBut w9) (show Below _ _ _ from (Below.refl _ _).drew) (r8S b Y c R8 x) ?mono8 ?step8 ?last8
    case mono8 =>
      intro i v W W' hv hC hC' hb
      match i with
      | 0 | 1 | 2 | 3 | 4 | 5 | 6 => exact hv
      | 7 =>
        obtain ⟨r, h1, h2⟩ := hv
        exact ⟨r, h1, h2.sub (ew_lf (Lf.below hb))⟩
      | _ + 8 => trivial
    case step8 =>
      intro u W i o hi ho hC hd
      have hr := Below.refl W.heap.size W
      have hz := hC.size
      rcases i with _ | _ | _ | _ | _ | _ | _ | _ | i
      all_goals try (simp only [List.getElem?_cons_zero, List.getElem?_cons_succ, Option.some.injEq] at ho; subst ho)
      · go_wp2_with fail
        exact ⟨_, rfl, rfl, hC, hr⟩
      · go_wp2_with fail
        exact ⟨_, rfl, rfl, hC, hr⟩
      · have h1 : u 1 = _ := hd ⟨1, .data⟩ (by simp) rfl
        have c0 := (K09.out.below hC K09.out.lt).cellOf HQC.out
        rw [h1]
        go_wp2_with fail
        exact ⟨.int .i64 (c : Int), by simp [upd, h1], rfl, hC, hr⟩
      · have h1 : u 0 = _ := hd ⟨0, .data⟩ (by simp) rfl
        rw [h1]
        go_wp2_with fail
        exact ⟨.pointer (some ⟨b, 0, none⟩), by simp [upd, h1], rfl, hC, hr⟩
      · have h1 : u 3 = _ := hd ⟨3, .data⟩ (by simp) rfl
        rw [h1]
        go_wp2_with fail
        exact ⟨.pointer (some ⟨b, 4, none⟩), by simp [upd, h1], rfl, hC, hr⟩
      · have h1 : u 4 = _ := hd ⟨4, .data⟩ (by simp) rfl
        have h2 : u 2 = _ := hd ⟨2, .data⟩ (by simp) rfl
        rw [h1, h2]
        go_wp2_with fail
        exact ⟨.pointer (some ⟨b, 4 + c * 6, none⟩), by simp [upd, h1, h2], rfl, hC, hr⟩
      · have h1 : u 5 = _ := hd ⟨5, .data⟩ (by simp) rfl
        have hcl : ∀ i x, R8[i]? = some x → W.cell? ((⟨b, 4 + c * 6, none⟩ : Addr).add i) = some x := fun i x hx => (show Sub w9 W from ⟨hC.size, fun a y hy => cell_sub hC hy⟩).2 _ _ (HC8.out i x hx)
        have HCL := Lib.hid hcl
        clear hcl
        rw [h1]
        go_wp2_with (refine wpList_load_addr rfl 39 _ rfl ⟨b, 4 + c * 6, none⟩ rfl R8 HCL.out Try.underlying39 rfl (by rw [size_rep, HL8.out]) ?_)
        exact ⟨.agg R8.toArray, by simp [upd, h1], rfl, hC, hr⟩
      · have h1 : u 6 = _ := hd ⟨6, .data⟩ (by simp) rfl
        have HC := Lib.hid (u_copyR x R8 W (HR8.out.below hC) HLS.out)
        have HCW := Lib.hid hC
        rw [h1]
        clear hC
        go_wp2_with ((with_reducible refine HC.out.mono ?_); rintro e w5 ⟨r5, rfl, o5, b5⟩; have O5 := Lib.hid o5; have B5 := Lib.hid b5; clear o5 b5)
        exact ⟨.agg r5.toArray, by simp [upd, h1], ⟨r5, rfl, O5.out⟩, HCW.out.trans (B5.out.mono hz), B5.out⟩
      · omega
    case last8 =>
      intro u W o ho hC hS
      simp only [List.getElem?_cons_zero, List.getElem?_cons_succ, Option.some.injEq] at ho
      subst ho
      obtain ⟨r, h7, hV7⟩ : ∃ r : List Value, u 7 = .agg r.toArray ∧ RepOkV (ew W) r x := hS 7 (by decide)
      have kr := K19.out.below hC K19.out.lt
      obtain ⟨e1, e2, e3, e4, e5, e6⟩ := deed_end (w := w) hbY (by omega) hBY kr hV7 (I9.out.below hC) (T9.out.below' hC HZ9.out)
      have E1 := Lib.hid e1
      have E2 := Lib.hid e2
      have E3 := Lib.hid e3
      have E4 := Lib.hid e4
      have E5 := Lib.hid e5
      have E6 := Lib.hid e6
      clear e1 e2 e3 e4 e5 e6
      have KR := Lib.hid kr
      clear kr hV7 hC hS
      rw [h7]
      go_wp2_with (refine wpList_store_blk rfl 39 _ _ rfl (Y + 1) r rfl rfl KR.out (by rw [size_rep, E5.out]) (by rw [E5.out]; rfl) E6.out ?_)
      refine bodyPost_ret (v := .agg (r).toArray) (results_cell_blk rfl _ _ (Y + 1) rfl E4.out Try.underlying39 rfl (by rw [size_rep, E5.out])) rfl ?_
      exact ⟨_, _, rfl, E1.out, E2.out, E3.out⟩
/-- one contract of apply, by appR -/
theorem u_app (s : StU RawV) (vq : Value) (r : ReqU RawV) (base b : Nat) (vv : Value) (w : World) (hI : StI w base b vv s) (hq : ReqTold w vq r) (hg : StS s) (hr : r.id < 4294967296 ∧ r.seq < 4294967296 ∧ VerS r.ver) :
    Calls Try.prog 26 #[.pointer (some ⟨b, 0, none⟩), vq] w (AppRet base b vv (appR s r).1 (appR s r).2 w) := by
  by_cases h1 : r.client < 0 ∨ 3 ≤ r.client ∨ r.seq = 0
  · have e : appR s r = (s, ⟨170, [], noV⟩) := by unfold appR applyU; rw [if_pos h1]; rfl
    rw [e]
    by_cases g1 : r.client < 0
    · exact u_ap_low s vq r base b vv w hI hq hg g1
    · by_cases g2 : 3 ≤ r.client
      · exact u_ap_high s vq r base b vv w hI hq hg g2
      · exact u_ap_zero s vq r base b vv w hI hq hg r.client.toNat (by omega) (by omega) (by omega)
  · have hz : r.seq ≠ 0 := by omega
    have hc : r.client = (r.client.toNat : Int) := by omega
    have hc3 : r.client.toNat < 3 := by omega
    by_cases h2 : r.seq = s.seqs.getD r.client.toNat 0
    · have e : appR s r = (s, s.last.getD r.client.toNat (wrongU noV 0)) := by unfold appR applyU; rw [if_neg h1, if_pos h2]
      rw [e]
      exact u_ap_same s vq r base b vv w hI hq hg _ hc hc3 hz h2
    · by_cases h3 : r.seq < s.seqs.getD r.client.toNat 0
      · have e : appR s r = (s, ⟨171, [], noV⟩) := by unfold appR applyU; rw [if_neg h1, if_neg h2, if_pos h3]; rfl
        rw [e]
        exact u_ap_old s vq r base b vv w hI hq hg _ hc hc3 hz h3
      · have e : appR s r = (⟨(doR s.vers r.kind r.id r.ver).1, s.seqs.set r.client.toNat r.seq, s.last.set r.client.toNat (doR s.vers r.kind r.id r.ver).2⟩, (doR s.vers r.kind r.id r.ver).2) := by unfold appR applyU; rw [if_neg h1, if_neg h2, if_neg h3]
        rw [e]
        exact u_ap_do s vq r base b vv w hI hq hg _ hc hc3 hz (by omega) hr.2.1 hr.1 hr.2.2
end Go.Proofs.Ytogonbgelaehhaa
namespace Go.Proofs.Ytogonbgelaehhaa
open Go.RowKit
set_option linter.unusedVariables false

def dwC (w : World) (base N M Z : Nat) (S2 R : List Value) (vv : Value) (s : StU RawV) (x : RepU RawV) (b : Bool) (W : World) : Prop :=
  Blk W N 42 S2 ∧ Blk W M 39 R ∧ Blk W Z 42 (if b then S2 else zS) ∧ Blk W (Z + 1) 39 zRp ∧ StN W base S2 vv s ∧ RepOkV (ew W) R x ∧ Below w.heap.size w W
def dwS (S2 R : List Value) (i : Nat) (v : Value) : Prop := match i with
  | 0 => v = .agg S2.toArray | 1 => v = .agg R.toArray | _ => True
theorem StN.row {W : World} {base Y : Nat} {S : List Value} {vv : Value} {s : StU RawV} {t : TypeId} {vs : List Value} (h : StN W base S vv s) (kR : Blk W Y t vs) (ht : t ≠ 28) (hl : lfT t = false) (cs : Array Value) : StN (W.setRow Y cs) base S vv s := by
  obtain ⟨rows, h1, _⟩ := h.own
  exact h.mono (Lf.row kR hl cs) fun i hi => setRow_other W Y i cs (h1.ne kR ht i hi)
theorem dwC.drew {w : World} {base N M Z : Nat} {S2 R : List Value} {vv : Value} {s : StU RawV} {x : RepU RawV} {b : Bool} {W : World} (h : dwC w base N M Z S2 R vv s x b W) : dwC w base N M Z S2 R vv s x b W.drew := by
  obtain ⟨g1, g2, g3, g4, g5, g6, g7⟩ := h
  exact ⟨g1, g2, g3, g4, g5.below (Below.refl _ _).drew, g6.sub (ew_lf (Lf.below (Below.refl _ _).drew)), g7.drew⟩
set_option maxRecDepth 100000 in
set_option maxHeartbeats 4000000 in
theorem u_Do (s : StU RawV) (v vo : Value) (kind : Int) (id : Nat) (a : RawV) (w : World) (lo : Nat) (hlo : lo ≤ w.heap.size) (hs : StTold (er lo w) v s) (ho : OpTold (er lo w) vo kind id a) (hg : StS s) (hid : id < 4294967296) (ha : VerS a) :
    Calls Try.prog 21 #[v, vo] w (DoRet lo s (doR s.vers kind id a).1 (doR s.vers kind id a).2 w) := by
  have hs0 := hs.sub (er_sub lo w)
  have ho0 := ho.sub (er_sub lo w)
  obtain ⟨O, rfl, hOl, _⟩ := op_cells ho0
  have HOL := Lib.hid hOl
  clear hOl
  obtain ⟨S, p, c, rfl, hSl, hS1, _, _⟩ := st_cells hs0
  obtain ⟨B, hB⟩ : ∃ B, w.heap.size = B := ⟨_, rfl⟩
  have k0 := Blk.newAt w B hB 42 (c := S.toArray) S rfl
  have z1 : (w.alloc (.cells S.toArray 42)).heap.size = B + 1 := by simp [hB]
  have k1 := Blk.newAt _ (B + 1) z1 30 (c := O.toArray) O rfl
  have z2 : ((w.alloc (.cells S.toArray 42)).alloc (.cells O.toArray 30)).heap.size = B + 2 := by simp [hB]
  have k2 := Blk.newAt _ (B + 2) z2 42 (c := zS.toArray) zS rfl
  have z3 : (((w.alloc (.cells S.toArray 42)).alloc (.cells O.toArray 30)).alloc (.cells zS.toArray 42)).heap.size = B + 3 := by simp [hB]
  have k3 := Blk.newAt _ (B + 3) z3 39 (c := zRp.toArray) zRp rfl
  have z4 : ((((w.alloc (.cells S.toArray 42)).alloc (.cells O.toArray 30)).alloc (.cells zS.toArray 42)).alloc (.cells zRp.toArray 39)).heap.size = B + 4 := by simp [hB]
  have kb := ((((Below.refl w.heap.size w).alloc (Nat.le_refl _) (.cells S.toArray 42)).alloc (by simp) (.cells O.toArray 30)).alloc (by simp; omega) (.cells zS.toArray 42)).alloc (by simp; omega) (.cells zRp.toArray 39)
  have K0 := Lib.hid (((k0.alloc (.cells O.toArray 30)).alloc (.cells zS.toArray 42)).alloc (.cells zRp.toArray 39))
  have K1 := Lib.hid ((k1.alloc (.cells zS.toArray 42)).alloc (.cells zRp.toArray 39))
  have K2 := Lib.hid (k2.alloc (.cells zRp.toArray 39))
  have K3 := Lib.hid k3
  have KB := Lib.hid kb
  have Z2 := Lib.hid z2
  have Z3 := Lib.hid z3
  have Z4 := Lib.hid z4
  have HC := Lib.hid (u_copyS s (.agg S.toArray) _ (hs0.below kb) hg)
  have HO4 := Lib.hid (ho0.below kb)
  have HSL := Lib.hid hSl
  have HG := Lib.hid hg
  clear k0 k1 k2 k3 z1 z2 z3 z4 kb hs0 ho0 hSl hS1 hs ho hg hlo
  go_enter Try.func21, Try.ntmps21
  go_wp2_with (first | (refine wpList_alloc_n rfl 42 rfl (B + 2) Z2.out _ (alloc_sv _) ?_) | (refine wpList_alloc_n rfl 39 rfl (B + 3) Z3.out _ (alloc_rep _) ?_) | (refine wpList_load_blk rfl 42 _ rfl B rfl K0.out Try.underlying42 rfl (by rw [size_sv, HSL.out]) ?_))
  clear K0 Z2 Z3
  generalize (((w.alloc (.cells S.toArray 42)).alloc (.cells O.toArray 30)).alloc (.cells zS.toArray 42)).alloc (.cells zRp.toArray 39) = w4 at *
  (with_reducible refine HC.out.mono ?_)
  rintro e w5 ⟨S1, vv, rfl, hn, b5⟩
  have htd := hn.told lo
  obtain ⟨N, hN⟩ : ∃ N, w5.heap.size = N := ⟨_, rfl⟩
  have y0 := Blk.newAt w5 N hN 42 (c := zS.toArray) zS rfl
  have y1 := y0.row S1 (by rw [htd.2.2]; rfl)
  have bw : Below w5.heap.size w5 ((w5.alloc (.cells zS.toArray 42)).setRow N S1.toArray) := below_setRow ((Below.refl _ _).alloc (Nat.le_refl _) _) (by omega) _
  have i6 : StI ((w5.alloc (.cells zS.toArray 42)).setRow N S1.toArray) w4.heap.size N vv s := ⟨by rw [← hN]; exact b5.size, S1, y1, hn.below bw⟩
  have k16 := (K1.out.below b5 K1.out.lt).below bw (K1.out.below b5 K1.out.lt).lt
  have k26 := (K2.out.below b5 K2.out.lt).below bw (K2.out.below b5 K2.out.lt).lt
  have k36 := (K3.out.below b5 K3.out.lt).below bw (K3.out.below b5 K3.out.lt).lt
  have kb6 := (KB.out.trans (b5.mono KB.out.size)).trans (bw.mono (Nat.le_trans KB.out.size b5.size))
  have ho6 := (HO4.out.below b5).below bw
  have hz4 := Z4.out
  have hN4 : B + 4 ≤ N := by have := b5.size; omega
  rw [hz4] at i6
  have Y0 := Lib.hid y0
  have HNN := Lib.hid hN
  have I6 := Lib.hid i6
  have K16 := Lib.hid k16
  have K26 := Lib.hid k26
  have K36 := Lib.hid k36
  have KB6 := Lib.hid kb6
  have HT := Lib.hid htd.2
  have HD := Lib.hid (u_do s (.agg O.toArray) kind id a (B + 4) N vv _ i6 ho6 HG.out hid ha)
  clear hn b5 htd hN y0 y1 bw i6 k16 k26 k36 kb6 ho6 hz4 K1 K2 K3 KB Z4 HC HO4
  go_upto_region 2 with (first | (refine wpList_alloc_n rfl 42 rfl N HNN.out _ (alloc_sv _) ?_) | (refine wpList_store_blk rfl 42 _ _ rfl N S1 rfl rfl Y0.out (by rw [size_sv, HT.out.2]) (by rw [HT.out.2]; rfl) HT.out.1 ?_))
  clear Y0 HNN
  generalize (w5.alloc (.cells zS.toArray 42)).setRow N S1.toArray = w6 at *
  go_wp2_with (refine wpList_load_blk rfl 30 _ rfl (B + 1) rfl K16.out Try.underlying30 rfl (by rw [size_op, HOL.out]) ?_)
  (with_reducible refine HD.out.mono ?_)
  rintro e w7 ⟨R, vv', rfl, q1, q2, q3⟩
  have hl6 := q1.len
  have ho7 := rep_oneV q1
  obtain ⟨M, hM⟩ : ∃ M, w7.heap.size = M := ⟨_, rfl⟩
  have y0 := Blk.newAt w7 M hM 39 (c := zRp.toArray) zRp rfl
  have y1 := y0.row R (by rw [hl6]; rfl)
  have bw : Below w7.heap.size w7 ((w7.alloc (.cells zRp.toArray 39)).setRow M R.toArray) := below_setRow ((Below.refl _ _).alloc (Nat.le_refl _) _) (by omega) _
  obtain ⟨h0N, S2, kN, hn2⟩ := q2
  have htd := hn2.told lo
  have b67 : Below (B + 4) w6 w7 := q3.b
  have k27 := K26.out.below b67 (by omega)
  have k37 := K36.out.below b67 (by omega)
  have hlt7 := kN.lt
  have c8 : dwC w (B + 4) N M (B + 2) S2 R vv' ⟨(doR s.vers kind id a).1, s.seqs, s.last⟩ (doR s.vers kind id a).2 false ((w7.alloc (.cells zRp.toArray 39)).setRow M R.toArray) :=
    ⟨kN.below bw kN.lt, y1, k27.below bw k27.lt, k37.below bw k37.lt, hn2.below bw, q1.sub (ew_lf (Lf.below bw)), (KB6.out.trans (b67.mono (by omega))).trans (bw.mono (Nat.le_trans KB6.out.size b67.size))⟩
  have hMN : N ≠ M ∧ B + 2 ≠ M ∧ B + 3 ≠ M ∧ B + 2 ≠ N ∧ B + 3 ≠ N := ⟨by omega, by have := k27.lt; omega, by have := k37.lt; omega, by omega, by omega⟩
  have C8 := Lib.hid c8
  have Y0 := Lib.hid y0
  have HM := Lib.hid hM
  have HL6 := Lib.hid hl6
  have HO7 := Lib.hid ho7
  have HT2 := Lib.hid htd.2
  clear q1 q3 hl6 ho7 hM y0 y1 bw kN hn2 htd b67 k27 k37 c8 h0N K16 K26 K36 KB6 I6
  go_upto_region 3 with (first | (refine wpList_alloc_n rfl 39 rfl M HM.out _ (alloc_rep _) ?_) | (refine wpList_store_blk rfl 39 _ _ rfl M R rfl rfl Y0.out (by rw [size_rep, HL6.out]) (by rw [HL6.out]; rfl) HO7.out ?_))
  clear Y0 HM
  generalize (w7.alloc (.cells zRp.toArray 39)).setRow M R.toArray = w8 at *
  refine region_mix 2 3 (by decide) mixed (by kernel_rfl) (by kernel_rfl) (fun u => #[_, _, _, _, _, _, _, _, _, _, _, _, u 0, u 1]) [] (fun _ => undef) rfl (dwC w (B + 4) N M (B + 2) S2 R vv' ⟨(doR s.vers kind id a).1, s.seqs, s.last⟩ (doR s.vers kind id a).2) C8.out.drew (fun _ _ _ => True) (fun i v _ => dwS S2 R i v) ?mono ?step ?one ?last
  case mono => intro b i v W W' _ h _; exact h
  case step =>
    intro bb u W j o hj hjk _ ho hC hd
    rcases j with _ | _ | j
    all_goals try (simp only [List.getElem?_cons_zero, List.getElem?_cons_succ, Option.some.injEq] at ho; subst ho)
    · have K := Lib.hid hC.1
      have HCW := Lib.hid hC
      clear hC
      go_wp2_with (refine wpList_load_blk rfl 42 _ rfl N rfl K.out Try.underlying42 rfl (by rw [size_sv, HT2.out.2]) ?_)
      exact ⟨_, rfl, rfl, HCW.out, trivial⟩
    · have K := Lib.hid hC.2.1
      have HCW := Lib.hid hC
      clear hC
      go_wp2_with (refine wpList_load_blk rfl 39 _ rfl M rfl K.out Try.underlying39 rfl (by rw [size_rep, HL6.out]) ?_)
      exact ⟨_, rfl, rfl, HCW.out, trivial⟩
    · omega
  case one =>
    intro u W o ho hC hd
    simp only [List.getElem?_cons_zero, List.getElem?_cons_succ, Option.some.injEq] at ho
    subst ho
    have h0 : u 0 = .agg S2.toArray := hd ⟨0, .data⟩ (by simp) rfl
    obtain ⟨g1, g2, g3, g4, g5, g6, g7⟩ := hC
    have g3' : Blk W (B + 2) 42 zS := g3
    have c9 : dwC w (B + 4) N M (B + 2) S2 R vv' ⟨(doR s.vers kind id a).1, s.seqs, s.last⟩ (doR s.vers kind id a).2 true (W.setRow (B + 2) S2.toArray) := ⟨g1.rowOther (g := B + 2) hMN.2.2.2.1.symm _, g2.rowOther (g := B + 2) hMN.2.1.symm _, g3'.row S2 (by rw [HT2.out.2]; rfl), g4.rowOther (g := B + 2) (by omega) _, g5.row g3' (by decide) (by decide) _, g6.sub (ew_lf (Lf.row g3' (by decide) _)), below_setRow g7 (by omega) _⟩
    have G3 := Lib.hid g3'
    have C9 := Lib.hid c9
    rw [h0]
    clear g1 g2 g3 g4 g5 g6 g7 g3' c9 hd
    go_wp2_with (refine wpList_store_blk rfl 42 _ _ rfl (B + 2) S2 rfl rfl G3.out (by rw [size_sv, HT2.out.2]) (by rw [HT2.out.2]; rfl) HT2.out.1 ?_)
    exact ⟨undef, by first | (simp [upd, h0]; done) | (simp [upd, h0]; rfl) | rfl, trivial, C9.out, trivial⟩
  case last =>
    intro u W o ho hC hS
    simp only [List.getElem?_cons_zero, List.getElem?_cons_succ, Option.some.injEq] at ho
    subst ho
    have h1 : u 1 = .agg R.toArray := hS 1 (by decide)
    obtain ⟨g1, g2, g3, g4, g5, g6, g7⟩ := hC
    have g3' : Blk W (B + 2) 42 S2 := g3
    have l9 := Lf.row g4 (by decide) R.toArray
    have n9 := g5.row g4 (by decide) (by decide) R.toArray
    have F1 := Lib.hid (g3'.rowOther (show B + 2 ≠ B + 3 by omega) R.toArray)
    have F2 := Lib.hid (g4.row R (by rw [HL6.out]; rfl))
    have F3 := Lib.hid (n9.told lo).1
    have F4 := Lib.hid ((g6.sub (ew_lf l9)).sub (ew_er lo _))
    have F5 := Lib.hid (below_setRow g7 (show w.heap.size ≤ B + 3 by omega) R.toArray)
    have G4 := Lib.hid g4
    rw [h1]
    clear g1 g2 g3 g4 g5 g6 g7 g3' l9 n9 hS
    go_wp2_with (refine wpList_store_blk rfl 39 _ _ rfl (B + 3) R rfl rfl G4.out (by rw [size_rep, HL6.out]) (by rw [HL6.out]; rfl) HO7.out ?_)
    refine bodyPost_ret (v := .tuple #[.agg S2.toArray, .agg R.toArray]) (results_cells2 rfl _ _ (B + 2) (B + 3) rfl rfl F1.out F2.out Try.underlying42 rfl (by rw [size_sv, HT2.out.2]) Try.underlying39 rfl (by rw [size_rep, HL6.out])) rfl ?_
    exact ⟨_, _, rfl, F3.out, F4.out, F5.out⟩
set_option maxRecDepth 100000 in
set_option maxHeartbeats 4000000 in
theorem u_Apply (s : StU RawV) (v vq : Value) (r : ReqU RawV) (w : World) (lo : Nat) (hlo : lo ≤ w.heap.size) (hs : StTold (er lo w) v s) (ho : ReqTold (er lo w) vq r) (hg : StS s) (hr : r.id < 4294967296 ∧ r.seq < 4294967296 ∧ VerS r.ver) :
    Calls Try.prog 23 #[v, vq] w (ApRet lo (appR s r).1 (appR s r).2 w) := by
  have hs0 := hs.sub (er_sub lo w)
  have ho0 := ho.sub (er_sub lo w)
  obtain ⟨O, rfl, hOl, _⟩ := rq_cells ho0
  have HOL := Lib.hid hOl
  clear hOl
  obtain ⟨S, p, c, rfl, hSl, hS1, _, _⟩ := st_cells hs0
  obtain ⟨B, hB⟩ : ∃ B, w.heap.size = B := ⟨_, rfl⟩
  have k0 := Blk.newAt w B hB 42 (c := S.toArray) S rfl
  have z1 : (w.alloc (.cells S.toArray 42)).heap.size = B + 1 := by simp [hB]
  have k1 := Blk.newAt _ (B + 1) z1 60 (c := O.toArray) O rfl
  have z2 : ((w.alloc (.cells S.toArray 42)).alloc (.cells O.toArray 60)).heap.size = B + 2 := by simp [hB]
  have k2 := Blk.newAt _ (B + 2) z2 42 (c := zS.toArray) zS rfl
  have z3 : (((w.alloc (.cells S.toArray 42)).alloc (.cells O.toArray 60)).alloc (.cells zS.toArray 42)).heap.size = B + 3 := by simp [hB]
  have k3 := Blk.newAt _ (B + 3) z3 39 (c := zRp.toArray) zRp rfl
  have z4 : ((((w.alloc (.cells S.toArray 42)).alloc (.cells O.toArray 60)).alloc (.cells zS.toArray 42)).alloc (.cells zRp.toArray 39)).heap.size = B + 4 := by simp [hB]
  have kb := ((((Below.refl w.heap.size w).alloc (Nat.le_refl _) (.cells S.toArray 42)).alloc (by simp) (.cells O.toArray 60)).alloc (by simp; omega) (.cells zS.toArray 42)).alloc (by simp; omega) (.cells zRp.toArray 39)
  have K0 := Lib.hid (((k0.alloc (.cells O.toArray 60)).alloc (.cells zS.toArray 42)).alloc (.cells zRp.toArray 39))
  have K1 := Lib.hid ((k1.alloc (.cells zS.toArray 42)).alloc (.cells zRp.toArray 39))
  have K2 := Lib.hid (k2.alloc (.cells zRp.toArray 39))
  have K3 := Lib.hid k3
  have KB := Lib.hid kb
  have Z2 := Lib.hid z2
  have Z3 := Lib.hid z3
  have Z4 := Lib.hid z4
  have HC := Lib.hid (u_copyS s (.agg S.toArray) _ (hs0.below kb) hg)
  have HO4 := Lib.hid (ho0.below kb)
  have HSL := Lib.hid hSl
  have HG := Lib.hid hg
  clear k0 k1 k2 k3 z1 z2 z3 z4 kb hs0 ho0 hSl hS1 hs ho hg hlo
  go_enter Try.func23, Try.ntmps23
  go_wp2_with (first | (refine wpList_alloc_n rfl 42 rfl (B + 2) Z2.out _ (alloc_sv _) ?_) | (refine wpList_alloc_n rfl 39 rfl (B + 3) Z3.out _ (alloc_rep _) ?_) | (refine wpList_load_blk rfl 42 _ rfl B rfl K0.out Try.underlying42 rfl (by rw [size_sv, HSL.out]) ?_))
  clear K0 Z2 Z3
  generalize (((w.alloc (.cells S.toArray 42)).alloc (.cells O.toArray 60)).alloc (.cells zS.toArray 42)).alloc (.cells zRp.toArray 39) = w4 at *
  (with_reducible refine HC.out.mono ?_)
  rintro e w5 ⟨S1, vv, rfl, hn, b5⟩
  have htd := hn.told lo
  obtain ⟨N, hN⟩ : ∃ N, w5.heap.size = N := ⟨_, rfl⟩
  have y0 := Blk.newAt w5 N hN 42 (c := zS.toArray) zS rfl
  have y1 := y0.row S1 (by rw [htd.2.2]; rfl)
  have bw : Below w5.heap.size w5 ((w5.alloc (.cells zS.toArray 42)).setRow N S1.toArray) := below_setRow ((Below.refl _ _).alloc (Nat.le_refl _) _) (by omega) _
  have i6 : StI ((w5.alloc (.cells zS.toArray 42)).setRow N S1.toArray) w4.heap.size N vv s := ⟨by rw [← hN]; exact b5.size, S1, y1, hn.below bw⟩
  have k16 := (K1.out.below b5 K1.out.lt).below bw (K1.out.below b5 K1.out.lt).lt
  have k26 := (K2.out.below b5 K2.out.lt).below bw (K2.out.below b5 K2.out.lt).lt
  have k36 := (K3.out.below b5 K3.out.lt).below bw (K3.out.below b5 K3.out.lt).lt
  have kb6 := (KB.out.trans (b5.mono KB.out.size)).trans (bw.mono (Nat.le_trans KB.out.size b5.size))
  have ho6 := (HO4.out.below b5).below bw
  have hz4 := Z4.out
  have hN4 : B + 4 ≤ N := by have := b5.size; omega
  rw [hz4] at i6
  have Y0 := Lib.hid y0
  have HNN := Lib.hid hN
  have I6 := Lib.hid i6
  have K16 := Lib.hid k16
  have K26 := Lib.hid k26
  have K36 := Lib.hid k36
  have KB6 := Lib.hid kb6
  have HT := Lib.hid htd.2
  have HD := Lib.hid (u_app s (.agg O.toArray) r (B + 4) N vv _ i6 ho6 HG.out hr)
  clear hn b5 htd hN y0 y1 bw i6 k16 k26 k36 kb6 ho6 hz4 K1 K2 K3 KB Z4 HC HO4
  go_upto_region 2 with (first | (refine wpList_alloc_n rfl 42 rfl N HNN.out _ (alloc_sv _) ?_) | (refine wpList_store_blk rfl 42 _ _ rfl N S1 rfl rfl Y0.out (by rw [size_sv, HT.out.2]) (by rw [HT.out.2]; rfl) HT.out.1 ?_))
  clear Y0 HNN
  generalize (w5.alloc (.cells zS.toArray 42)).setRow N S1.toArray = w6 at *
  go_wp2_with (refine wpList_load_blk rfl 60 _ rfl (B + 1) rfl K16.out Try.underlying60 rfl (by rw [size_rq, HOL.out]) ?_)
  (with_reducible refine HD.out.mono ?_)
  rintro e w7 ⟨R, vv', rfl, q1, q2, q3⟩
  have hl6 := q1.len
  have ho7 := rep_oneV q1
  obtain ⟨M, hM⟩ : ∃ M, w7.heap.size = M := ⟨_, rfl⟩
  have y0 := Blk.newAt w7 M hM 39 (c := zRp.toArray) zRp rfl
  have y1 := y0.row R (by rw [hl6]; rfl)
  have bw : Below w7.heap.size w7 ((w7.alloc (.cells zRp.toArray 39)).setRow M R.toArray) := below_setRow ((Below.refl _ _).alloc (Nat.le_refl _) _) (by omega) _
  obtain ⟨h0N, S2, kN, hn2⟩ := q2
  have htd := hn2.told lo
  have b67 : Below (B + 4) w6 w7 := q3.b
  have k27 := K26.out.below b67 (by omega)
  have k37 := K36.out.below b67 (by omega)
  have hlt7 := kN.lt
  have c8 : dwC w (B + 4) N M (B + 2) S2 R vv' (appR s r).1 (appR s r).2 false ((w7.alloc (.cells zRp.toArray 39)).setRow M R.toArray) :=
    ⟨kN.below bw kN.lt, y1, k27.below bw k27.lt, k37.below bw k37.lt, hn2.below bw, q1.sub (ew_lf (Lf.below bw)), (KB6.out.trans (b67.mono (by omega))).trans (bw.mono (Nat.le_trans KB6.out.size b67.size))⟩
  have hMN : N ≠ M ∧ B + 2 ≠ M ∧ B + 3 ≠ M ∧ B + 2 ≠ N ∧ B + 3 ≠ N := ⟨by omega, by have := k27.lt; omega, by have := k37.lt; omega, by omega, by omega⟩
  have C8 := Lib.hid c8
  have Y0 := Lib.hid y0
  have HM := Lib.hid hM
  have HL6 := Lib.hid hl6
  have HO7 := Lib.hid ho7
  have HT2 := Lib.hid htd.2
  clear q1 q3 hl6 ho7 hM y0 y1 bw kN hn2 htd b67 k27 k37 c8 h0N K16 K26 K36 KB6 I6
  go_upto_region 3 with (first | (refine wpList_alloc_n rfl 39 rfl M HM.out _ (alloc_rep _) ?_) | (refine wpList_store_blk rfl 39 _ _ rfl M R rfl rfl Y0.out (by rw [size_rep, HL6.out]) (by rw [HL6.out]; rfl) HO7.out ?_))
  clear Y0 HM
  generalize (w7.alloc (.cells zRp.toArray 39)).setRow M R.toArray = w8 at *
  refine region_mix 2 3 (by decide) mixed (by kernel_rfl) (by kernel_rfl) (fun u => #[_, _, _, _, _, _, _, _, _, _, _, _, u 0, u 1]) [] (fun _ => undef) rfl (dwC w (B + 4) N M (B + 2) S2 R vv' (appR s r).1 (appR s r).2) C8.out.drew (fun _ _ _ => True) (fun i v _ => dwS S2 R i v) ?mono ?step ?one ?last
  case mono => intro b i v W W' _ h _; exact h
  case step =>
    intro bb u W j o hj hjk _ ho hC hd
    rcases j with _ | _ | j
    all_goals try (simp only [List.getElem?_cons_zero, List.getElem?_cons_succ, Option.some.injEq] at ho; subst ho)
    · have K := Lib.hid hC.1
      have HCW := Lib.hid hC
      clear hC
      go_wp2_with (refine wpList_load_blk rfl 42 _ rfl N rfl K.out Try.underlying42 rfl (by rw [size_sv, HT2.out.2]) ?_)
      exact ⟨_, rfl, rfl, HCW.out, trivial⟩
    · have K := Lib.hid hC.2.1
      have HCW := Lib.hid hC
      clear hC
      go_wp2_with (refine wpList_load_blk rfl 39 _ rfl M rfl K.out Try.underlying39 rfl (by rw [size_rep, HL6.out]) ?_)
      exact ⟨_, rfl, rfl, HCW.out, trivial⟩
    · omega
  case one =>
    intro u W o ho hC hd
    simp only [List.getElem?_cons_zero, List.getElem?_cons_succ, Option.some.injEq] at ho
    subst ho
    have h0 : u 0 = .agg S2.toArray := hd ⟨0, .data⟩ (by simp) rfl
    obtain ⟨g1, g2, g3, g4, g5, g6, g7⟩ := hC
    have g3' : Blk W (B + 2) 42 zS := g3
    have c9 : dwC w (B + 4) N M (B + 2) S2 R vv' (appR s r).1 (appR s r).2 true (W.setRow (B + 2) S2.toArray) := ⟨g1.rowOther (g := B + 2) hMN.2.2.2.1.symm _, g2.rowOther (g := B + 2) hMN.2.1.symm _, g3'.row S2 (by rw [HT2.out.2]; rfl), g4.rowOther (g := B + 2) (by omega) _, g5.row g3' (by decide) (by decide) _, g6.sub (ew_lf (Lf.row g3' (by decide) _)), below_setRow g7 (by omega) _⟩
    have G3 := Lib.hid g3'
    have C9 := Lib.hid c9
    rw [h0]
    clear g1 g2 g3 g4 g5 g6 g7 g3' c9 hd
    go_wp2_with (refine wpList_store_blk rfl 42 _ _ rfl (B + 2) S2 rfl rfl G3.out (by rw [size_sv, HT2.out.2]) (by rw [HT2.out.2]; rfl) HT2.out.1 ?_)
    exact ⟨undef, by first | (simp [upd, h0]; done) | (simp [upd, h0]; rfl) | rfl, trivial, C9.out, trivial⟩
  case last =>
    intro u W o ho hC hS
    simp only [List.getElem?_cons_zero, List.getElem?_cons_succ, Option.some.injEq] at ho
    subst ho
    have h1 : u 1 = .agg R.toArray := hS 1 (by decide)
    obtain ⟨g1, g2, g3, g4, g5, g6, g7⟩ := hC
    have g3' : Blk W (B + 2) 42 S2 := g3
    have l9 := Lf.row g4 (by decide) R.toArray
    have n9 := g5.row g4 (by decide) (by decide) R.toArray
    have F1 := Lib.hid (g3'.rowOther (show B + 2 ≠ B + 3 by omega) R.toArray)
    have F2 := Lib.hid (g4.row R (by rw [HL6.out]; rfl))
    have F3 := Lib.hid (n9.told lo).1
    have F4 := Lib.hid ((g6.sub (ew_lf l9)).sub (ew_er lo _))
    have F5 := Lib.hid (below_setRow g7 (show w.heap.size ≤ B + 3 by omega) R.toArray)
    have G4 := Lib.hid g4
    rw [h1]
    clear g1 g2 g3 g4 g5 g6 g7 g3' l9 n9 hS
    go_wp2_with (refine wpList_store_blk rfl 39 _ _ rfl (B + 3) R rfl rfl G4.out (by rw [size_rep, HL6.out]) (by rw [HL6.out]; rfl) HO7.out ?_)
    refine bodyPost_ret (v := .tuple #[.agg S2.toArray, .agg R.toArray]) (results_cells2 rfl _ _ (B + 2) (B + 3) rfl rfl F1.out F2.out Try.underlying42 rfl (by rw [size_sv, HT2.out.2]) Try.underlying39 rfl (by rw [size_rep, HL6.out])) rfl ?_
    exact ⟨_, _, rfl, F3.out, F4.out, F5.out⟩
end Go.Proofs.Ytogonbgelaehhaa
namespace Go.Proofs.Ytogonbgelaehhaa
open Go.RowKit
set_option linter.unusedVariables false

theorem made_rows (n : Nat) (z : List Value) (hz : 0 < z.length) : (madeCells z.toArray (n * z.length)).toList = (List.replicate n z).flatten := by
  have hk : ∀ r ∈ List.replicate n z, r.length = z.length := fun r hr => by rw [List.eq_of_mem_replicate hr]
  apply List.ext_getElem?
  intro j
  by_cases hj : j < n * z.length
  · have hd : j / z.length < n := Nat.div_lt_of_lt_mul (by rw [Nat.mul_comm]; exact hj)
    have hm : j % z.length < z.length := Nat.mod_lt _ hz
    have h1 : (List.replicate n z)[j / z.length]? = some z := by rw [List.getElem?_replicate, if_pos hd]
    have h3 := flat_at hk h1 (List.getElem?_eq_getElem hm)
    rw [show j / z.length * z.length + j % z.length = j by rw [Nat.mul_comm]; exact Nat.div_add_mod j z.length] at h3
    rw [h3]
    simp [madeCells, hj, hm]
  · have h1 : (madeCells z.toArray (n * z.length)).toList.length ≤ j := by simp [madeCells]; omega
    have h2 : (List.replicate n z).flatten.length ≤ j := by rw [flat_len hk, List.length_replicate]; omega
    rw [List.getElem?_eq_none h1, List.getElem?_eq_none h2]
theorem make_reps (n : Nat) (h : n ≤ 100000) (w : World) : (Instr.makeSlice 43 (.int .i64 (n : Int)) (.int .i64 (n : Int))).run Try.prog w = .ok (.slice (some ⟨w.heap.size, 0, none⟩) n n) (w.alloc (.cells (List.replicate n zRp).flatten.toArray 39)) := by
  obtain ⟨i0, hi0, hz0, hz1, hz2⟩ := info_parts2 info_repV
  have hr := run_make (P := Try.prog) w 43 39 i0 (.agg zRp.toArray) Try.underlying43 hi0 hz0 .i64 .i64 n n (by omega) (Int.le_refl _) (by rw [hz2]; omega) (by omega)
  simp only [Int.toNat_natCast, hz1] at hr
  have e : madeCells (Value.agg zRp.toArray).cells (n * 6) = (List.replicate n zRp).flatten.toArray := by
    apply Array.ext'
    rw [List.toList_toArray]
    exact made_rows n zRp (by decide)
  rw [hr, e]
theorem own_blkK {w : World} {B g k : Nat} {t : TypeId} {rows : List (List Value)} (hk : ∀ r ∈ rows, r.length = k) (h : Blk w g t rows.flatten) (hB : B ≤ g) (hm : rows.length ≤ maxLen) : OwnR w B t k (.slice (some ⟨g, 0, none⟩) rows.length rows.length) rows := by
  have hl := flat_len hk
  refine ⟨hk, hl, .inr ⟨g, rows.length, rows.flatten.toArray, rfl, hB, h, Nat.le_refl _, hm, by simp [hl], ?_⟩⟩
  rw [List.toList_toArray, ← hl, List.take_length]
theorem ReqsV.subs {w w' : World} {v : Value} {l : List (ReqU RawV)} (h : ReqsV w v l) (hb : Sub w w') : ReqsV w' v l := by
  obtain ⟨rows, h1, h2, h3⟩ := h
  refine ⟨rows, h1.sub hb, h2, fun i hi => ?_⟩
  obtain ⟨r, e1, e2⟩ := h3 i hi
  exact ⟨r, e1, e2.sub hb⟩
theorem StI.lfTurn {w w' : World} {base b : Nat} {vv : Value} {s : StU RawV} {F' : Nat → Prop} (h : StI w base b vv s) (t : Turn base w w' (stF b vv) F') : Lf w w' := by
  obtain ⟨h0, S, h1, h2⟩ := h
  obtain ⟨rows, h3, _⟩ := h2.own
  exact Lf.turn t fun i hi hlt => by
    rcases hi with rfl | hi
    · exact ⟨_, _, h1, by decide⟩
    · obtain ⟨vs, hB⟩ := h3.blkAt i hi
      exact ⟨_, vs, hB, by decide⟩
theorem StI.grownG {w w' : World} {base b g : Nat} {vv : Value} {s : StU RawV} {t : TypeId} {vs : List Value} (h : StI w base b vv s) (hg : w.grownBy w' (some g)) (kG : Blk w g t vs) (ht : t ≠ 28) (hl : lfT t = false) (hb : b ≠ g) : StI w' base b vv s := by
  have hne := h.ownNe kG ht
  have hlt := h.ownLt
  obtain ⟨h0, S, h1, h2⟩ := h
  exact ⟨h0, S, h1.grownP hg (fun e => hb (Option.some.inj e).symm), h2.mono (Lf.grown hg fun i e _ => by cases e; exact ⟨_, _, kG, hl⟩) fun i hi => hg.block i (hlt i hi).2 fun e => hne i hi (Option.some.inj e)⟩
/-- the first j replies are told -/
def PreR (w : World) (rows : List (List Value)) (L : List (RepU RawV)) (j : Nat) : Prop := ∀ i, i < j → ∃ r, rows[i]? = some r ∧ RepOkV (ew w) r (L.getD i (wrongU noV 0))
theorem PreR.sub {w w' : World} {rows : List (List Value)} {L : List (RepU RawV)} {j : Nat} (h : PreR w rows L j) (hl : Lf w w') : PreR w' rows L j := fun i hi => by
  obtain ⟨r, h1, h2⟩ := h i hi
  exact ⟨r, h1, h2.sub (ew_lf hl)⟩
theorem PreR.next {w : World} {rows : List (List Value)} {L : List (RepU RawV)} {j : Nat} (h : PreR w rows L j) (hj : j < rows.length) {R : List Value} (hR : RepOkV (ew w) R (L.getD j (wrongU noV 0))) : PreR w (rows.set j R) L (j + 1) := fun i hi => by
  by_cases e : i = j
  · subst e
    exact ⟨R, by rw [List.getElem?_set_self hj], hR⟩
  · rw [List.getElem?_set_ne (fun e' => e e'.symm)]
    exact h i (by omega)
theorem alloc_rqv (w : World) : (Instr.alloc 60 true (.tuple #[])).run Try.prog w = .ok (.pointer (some ⟨w.heap.size, 0, none⟩)) (w.alloc (.cells zRq.toArray 60)) := by kernel_rfl
set_option maxRecDepth 100000 in
set_option maxHeartbeats 4000000 in
theorem u_All (l : List (ReqU RawV)) (p : Option Addr) (c : Nat) (w : World) (lo : Nat) (hlo : lo ≤ w.heap.size) (hl : l.length ≤ 1000) (hq : ReqsV (er lo w) (.slice p l.length c) l) (hok : ∀ r ∈ l, r.id < 4294967296 ∧ r.seq < 4294967296 ∧ VerS r.ver) :
    Calls Try.prog 13 #[.slice p l.length c] w fun e w' => ∃ v' vo rows, e = .returned (.tuple #[v', vo]) ∧ StTold (er lo w') v' (allR l).1 ∧ OwnR w' w.heap.size 39 6 vo rows ∧ TellRs (er lo w') rows (allR l).2 ∧ Below w.heap.size w w' := by
  have hq0 := hq.subs (er_sub lo w)
  obtain ⟨B, hB⟩ : ∃ B, w.heap.size = B := ⟨_, rfl⟩
  obtain ⟨L2, hL2⟩ : ∃ L2, (allR l).2 = L2 := ⟨_, rfl⟩
  obtain ⟨R0, hR0⟩ : ∃ R0, List.replicate l.length zRp = R0 := ⟨_, rfl⟩
  have hmk := fun w => make_reps l.length (by omega) w
  simp only [hR0] at hmk
  have hR0l : R0.length = l.length := by rw [← hR0, List.length_replicate]
  have hR0k : ∀ r ∈ R0, r.length = 6 := fun r hr => by rw [← hR0] at hr; rw [List.eq_of_mem_replicate hr]; rfl
  have k0 := Blk.newAt w B hB 42 (c := zS.toArray) zS rfl
  have z1 : (w.alloc (.cells zS.toArray 42)).heap.size = B + 1 := by simp [hB]
  have k1 := Blk.newAt _ (B + 1) z1 42 (c := zS.toArray) zS rfl
  have z2 : ((w.alloc (.cells zS.toArray 42)).alloc (.cells zS.toArray 42)).heap.size = B + 2 := by simp [hB]
  have k2 := Blk.newAt _ (B + 2) z2 39 (c := R0.flatten.toArray) R0.flatten rfl
  have z3 : (((w.alloc (.cells zS.toArray 42)).alloc (.cells zS.toArray 42)).alloc (.cells R0.flatten.toArray 39)).heap.size = B + 3 := by simp [hB]
  have kb := (((Below.refl w.heap.size w).alloc (Nat.le_refl _) (.cells zS.toArray 42)).alloc (by simp) (.cells zS.toArray 42)).alloc (by simp; omega) (.cells R0.flatten.toArray 39)
  have o2 : OwnR (((w.alloc (.cells zS.toArray 42)).alloc (.cells zS.toArray 42)).alloc (.cells R0.flatten.toArray 39)) B 39 6 (.slice (some ⟨B + 2, 0, none⟩) l.length l.length) R0 := by
    have := own_blkK (B := B) hR0k k2 (by omega) (by rw [hR0l]; unfold maxLen; omega)
    rw [hR0l] at this
    exact this
  have i1 : StI (((w.alloc (.cells zS.toArray 42)).alloc (.cells zS.toArray 42)).alloc (.cells R0.flatten.toArray 39)) (B + 1) (B + 1) (.slice none 0 0) (stU0 noV) :=
    ⟨Nat.le_refl _, zS, k1.alloc _, [], 0, 0, 0, zRp, zRp, zRp, wrongU noV 0, wrongU noV 0, wrongU noV 0, rfl, OwnR.nil _ _ _ _, TellVs.nil _, rfl, rfl, ⟨by decide, by decide, by decide⟩, rep_none _ 0, rep_none _ 0, rep_none _ 0⟩
  have K0 := Lib.hid ((k0.alloc (.cells zS.toArray 42)).alloc (.cells R0.flatten.toArray 39))
  have Z1 := Lib.hid z1
  have Z2 := Lib.hid z2
  have O2 := Lib.hid o2
  have I1 := Lib.hid i1
  have KB := Lib.hid kb
  have HQ := Lib.hid hq0
  have HOK := Lib.hid hok
  have HRL := Lib.hid hR0l
  have HL2 := Lib.hid hL2
  have HB := Lib.hid hB
  rw [hL2]
  clear k0 k1 k2 z1 z2 z3 kb o2 i1 hq0 hq hok hR0 hR0l hR0k hL2 hlo
  go_enter Try.func13, Try.ntmps13
  go_wp2_with (first | (refine wpList_alloc_n rfl 42 rfl B (by first | exact HB.out | rfl) _ (alloc_sv _) ?_) | (refine wpList_alloc_n rfl 42 rfl (B + 1) Z1.out _ (alloc_sv _) ?_))
  clear hmk Z1 Z2
  generalize ((w.alloc (.cells zS.toArray 42)).alloc (.cells zS.toArray 42)).alloc (.cells R0.flatten.toArray 39) = w3 at *
  obtain ⟨G, hG⟩ : ∃ G, B + 1 + 1 = G := ⟨_, rfl⟩
  have hG2 : B + 2 = G := hG
  rw [hG]
  rw [hG2] at O2
  have HGG := Lib.hid hG
  clear hG hG2
  go_loopw [6, 7, 13] (fun _ _ i wr => ∃ (j : Nat) (rows : List (List Value)) (vv : Value), j ≤ l.length ∧ i = .int .i64 (j : Int) ∧ StI wr (B + 1) (B + 1) vv (allR (l.take j)).1 ∧ OwnR wr B 39 6 (.slice (some ⟨G, 0, none⟩) l.length l.length) rows ∧ rows.length = l.length ∧ PreR wr rows L2 j ∧ Blk wr B 42 zS ∧ Below w.heap.size w wr) (fun _ _ i _ => l.length - (intOf i).toNat)
  case atStart => exact ⟨0, R0, _, Nat.zero_le _, rfl, I1.out, O2.out, HRL.out, fun i hi => absurd hi (Nat.not_lt_zero i), K0.out, KB.out⟩
  case round =>
    obtain ⟨j, rows, vv, hj, rfl, gi, go2, gl, gp, gk, gb⟩ := hrel
    clear I1 O2 HRL K0 KB
    by_cases hlt : j < l.length
    · have d1 : (j : Int) < (l.length : Int) := by omega
      obtain ⟨ad, q, rfl, _, hQ, hq8, hcell⟩ := (HQ.out.below gb).at hlt
      obtain ⟨qq, eqq, -, hqo, -⟩ := rq_cells hQ
      have eqq' : q = qq := by
        have := congrArg (fun v => match v with | Value.agg c => c.toList | _ => []) eqq
        simpa using this
      rw [← eqq'] at hqo
      clear eqq eqq' qq
      obtain ⟨Y, hY⟩ : ∃ Y, wr.heap.size = Y := ⟨_, rfl⟩
      have zr : ∃ z : List Value, z.length = 8 ∧ ∀ wx : World, (Instr.alloc 60 true (.tuple #[])).run Try.prog wx = .ok (.pointer (some ⟨wx.heap.size, 0, none⟩)) (wx.alloc (.cells z.toArray 60)) := ⟨zRq, rfl, fun wx => alloc_rqv wx⟩
      obtain ⟨zq, hz8, hzal⟩ := zr
      have y0 := Blk.newAt wr Y hY 60 (c := zq.toArray) zq rfl
      have y1 := y0.row q (by rw [hq8, hz8])
      have bw : Below wr.heap.size wr ((wr.alloc (.cells zq.toArray 60)).setRow Y q.toArray) := below_setRow ((Below.refl _ _).alloc (Nat.le_refl _) _) (by omega) _
      have ia := gi.below bw
      have oa := go2.keep bw
      have pa := gp.sub (Lf.below bw)
      have ka := gk.below bw gk.lt
      have ba := gb.trans (bw.mono gb.size)
      have hS := (all_S (l.take j) fun r hr => (HOK.out r (List.mem_of_mem_take hr)).2.2).1
      have hm : l.getD j noQ ∈ l := req_mem hlt
      have HA := Lib.hid (u_app _ (.agg q.toArray) (l.getD j noQ) (B + 1) (B + 1) vv _ ia (hQ.below bw) hS (HOK.out _ hm))
      rw [← (show (allR (l.take (j + 1))).1 = _ from congrArg Prod.fst (allR_take hlt)), ← allR_at hlt, HL2.out] at HA
      have HCL := Lib.hid hcell
      have HQ8 := Lib.hid hq8
      have HZ8 := Lib.hid hz8
      have HZA := Lib.hid hzal
      have HQ1 := Lib.hid hqo
      have HYS := Lib.hid hY
      have Y0 := Lib.hid y0
      have Y1 := Lib.hid y1
      have IA := Lib.hid ia
      have OA := Lib.hid oa
      have PA := Lib.hid pa
      have KA := Lib.hid ka
      have BA := Lib.hid ba
      have GL := Lib.hid gl
      clear gi go2 gl gp gk gb hQ hq8 hcell hqo hY hz8 hzal y0 y1 bw ia oa pa ka ba hS hm
      go_upto_region 6 with (first | (refine wpList_load_addr rfl 60 _ rfl (ad.add (j * 8)) rfl q HCL.out Try.underlying60 rfl (by rw [size_rq, HQ8.out]) ?_) | (refine wpList_alloc_n rfl 60 rfl Y HYS.out _ (HZA.out _) ?_) | (refine wpList_store_blk rfl 60 _ _ rfl Y q rfl rfl Y0.out (by rw [size_rq, HQ8.out]) (by rw [HQ8.out, HZ8.out]) HQ1.out ?_))
      clear Y0 HYS
      generalize (wr.alloc (.cells zq.toArray 60)).setRow Y q.toArray = wa at *
      go_wp2_with (refine wpList_load_blk rfl 60 _ rfl Y rfl Y1.out Try.underlying60 rfl (by rw [size_rq, HQ8.out]) ?_)
      (with_reducible refine HA.out.mono ?_)
      rintro e w7 ⟨R, vv', rfl, q1, q2, q3⟩
      have hvG : ¬ stF (B + 1) vv G := fun h => by
        rcases h with h | h
        · have := HGG.out; omega
        · rcases OA.out.blkAt G rfl with ⟨vs, hBG⟩
          exact IA.out.ownNe hBG (by decide) G h rfl
      have o7 := (q3.own OA.out (fun b e => by cases e; exact hvG)).1
      have l7 := IA.out.lfTurn q3
      have k7 := KA.out.below q3.b (by omega)
      have b7 := BA.out.trans (q3.b.mono (by rw [HB.out]; omega))
      have R7 := Lib.hid q1
      have I7 := Lib.hid q2
      have O7 := Lib.hid o7
      have P7 := Lib.hid (PA.out.sub l7)
      have K7 := Lib.hid k7
      have B7 := Lib.hid b7
      have HR6 := Lib.hid q1.len
      have HRO := Lib.hid (rep_oneV q1)
      clear q1 q2 q3 hvG o7 l7 k7 b7
      go_wp2_with (refine wpList_store_own rfl 39 _ _ rfl B G l.length l.length 6 j 39 rows R rfl rfl O7.out (by rw [GL.out]; exact hlt) HR6.out size_rep HRO.out ?_; intro w8 ho8 hg8; have HO8 := Lib.hid ho8; have HG8 := Lib.hid hg8; clear ho8 hg8)
      obtain ⟨vsG, hBG⟩ := O7.out.blkAt G rfl
      have l8 : Lf w7 w8 := Lf.grown HG8.out fun i e _ => by cases e; exact ⟨_, _, hBG, by decide⟩
      have hBGne : B ≠ G := by have := HGG.out; omega
      have hB1G : B + 1 ≠ G := by have := HGG.out; omega
      have F1 := Lib.hid (I7.out.grownG HG8.out hBG (by decide) (by decide) hB1G)
      have F2 := Lib.hid ((P7.out.sub l8).next (by rw [GL.out]; exact hlt) (R7.out.sub (ew_lf l8)))
      have F3 := Lib.hid (K7.out.grownP HG8.out (fun e => hBGne (Option.some.inj e).symm))
      have F4 := Lib.hid (B7.out.grown HG8.out B7.out.size (fun i e => by cases e; rw [HB.out]; have := HGG.out; omega))
      clear hBG l8
      go_wp2
      go_roundw
      case rel => exact ⟨j + 1, _, vv', by omega, by go_num, F1.out, HO8.out, by rw [List.length_set]; exact GL.out, F2.out, F3.out, F4.out⟩
      case measure => simp [intOf]; omega
    · obtain rfl : j = l.length := by omega
      rw [allR_whole] at gi
      obtain ⟨_, S, kS, hn⟩ := gi
      have htd := hn.told lo
      have l9 := Lf.row gk (by decide) S.toArray
      have n9 := hn.row gk (by decide) (by decide) S.toArray
      have o9 := go2.rowApart B S.toArray (go2.ne gk (by decide))
      have F1 := Lib.hid (gk.row S (by rw [htd.2.2]; rfl))
      have F2 := Lib.hid (n9.told lo).1
      have F3 := Lib.hid o9
      have F4 : Hid (TellRs (er lo (wr.setRow B S.toArray)) rows L2) := Lib.hid ⟨by rw [gl, ← HL2.out, allR_len], fun i hi => by
        rw [← HL2.out, allR_len] at hi
        obtain ⟨r, h1, h2⟩ := (gp.sub l9) i hi
        exact ⟨r, h1, h2.sub (ew_er lo _)⟩⟩
      have F5 := Lib.hid (below_setRow gb (show w.heap.size ≤ B by omega) S.toArray)
      have KS := Lib.hid kS
      have GK := Lib.hid gk
      have HT := Lib.hid htd.2
      clear go2 gl gp gk gb kS hn htd l9 n9 o9
      go_wp2_with (first | (refine wpList_load_blk rfl 42 _ rfl (B + 1) rfl KS.out Try.underlying42 rfl (by rw [size_sv, HT.out.2]) ?_) | (refine wpList_store_blk rfl 42 _ _ rfl B S rfl rfl GK.out (by rw [size_sv, HT.out.2]) (by rw [HT.out.2]; rfl) HT.out.1 ?_))
      refine bodyPost_ret (v := .tuple #[.agg S.toArray, .slice (some ⟨G, 0, none⟩) l.length l.length]) (results_cell_tmp rfl _ _ B rfl (.slice (some ⟨G, 0, none⟩) l.length l.length) rfl F1.out Try.underlying42 rfl (by rw [size_sv, HT.out.2])) rfl ?_
      exact ⟨_, _, rows, rfl, F2.out, by rw [HB.out]; exact F3.out, F4.out, F5.out⟩
end Go.Proofs.Ytogonbgelaehhaa
