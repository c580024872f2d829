/- The wire's read: what a step reads, or the error that it ended by (stage 18). Written by gen/mkrd.py. -/
import Derived.Test.YtloogjdojojehaaMC
import Derived.Test.YtloogjdojojehaaG1
import Derived.Recover
import Derived.Test.YtloogjdojojehaaMB
namespace Go.Proofs.Ytloogjdojojehaa
open Go.RowKit
set_option linter.unusedVariables false

theorem mkfW (fn : Fn) (first cap : Array Value) (w : World) : (Instr.makeFunc fn first cap).run Try.prog w = .ok (.func fn first cap) w := rfl
theorem assert_errW (er : Int) (w : World) : (Instr.typeAssert (.iface 24 (.int .i64 er)) 20 24 false).run Try.prog w = .ok (.int .i64 er) w := by kernel_rfl
theorem results_ctc {P : Program} {fn : Func} {p q r : Tmp} {ty uy : TypeId} (h : fn.results = #[.cell p ty, .tmp q, .cell r uy]) (tmps : Array Value) (w : World) (g g' : Nat)
    (hp : tmps.getD p undef = .pointer (some ⟨g, 0, none⟩)) (v : Value) (hq : tmps.getD q undef = v) (hr : tmps.getD r undef = .pointer (some ⟨g', 0, none⟩)) {t : TypeId} {cs : List Value} {d d' : TypeDesc} (hg : Blk w g t cs) {x : Value} (hc : w.cell? ⟨g', 0, none⟩ = some x)
    (hu : P.underlying ty = some d) (hd : (match d with | .struct _ | .array _ _ => true | _ => false) = true) (hi : (P.info? ty).map (·.size) = some cs.length)
    (hu' : P.underlying uy = some d') (hd' : d'.isRow = false) :
    (results fn tmps).run P w = .ok (.tuple #[.agg cs.toArray, v, x]) w := by
  have hp' : tmps[p]?.getD undef = .pointer (some ⟨g, 0, none⟩) := by simpa using hp
  have hq' : tmps[q]?.getD undef = v := by simpa using hq
  have hr' : tmps[r]?.getD undef = .pointer (some ⟨g', 0, none⟩) := by simpa using hr
  simp [results, h, hp', hq', hr', asAddr, run_loadVar_row w g t ty cs.toArray (0, 0) d hg hu hd (by simpa using hi), run_loadVar_one w _ uy x d' hc hu' hd']
theorem alloc_rdrW (w : World) : (Instr.alloc 75 true (.tuple #[])).run Try.prog w = .ok (.pointer (some ⟨w.heap.size, 0, none⟩)) (w.alloc (.cells #[.string ⟨#[]⟩] 75)) := by kernel_rfl
theorem build_rdrW (s : ByteArray) (w : World) : (Instr.build 75 #[(0, .string s)]).run Try.prog w = .ok (.agg #[.string s]) w := by kernel_rfl
theorem size_rdrW : (Try.prog.info? 75).map (·.size) = some 1 := by kernel_rfl
/-- what a reading gives back: a value, and what is behind it; or nothing, and the error -/
def RdR {α : Type} (X : Except Nat (α × List Nat)) (R : α → World → Value → Prop) (Z : List Value) (w : World) (e : Ending) (w' : World) : Prop :=
  Below w.heap.size w w' ∧ (∀ a r, X = .ok (a, r) → ∃ v, e = .returned (.tuple #[v, .string (tx r), .int .i64 0]) ∧ R a w' v) ∧ (∀ er, X = .error er → e = .returned (.tuple #[.agg Z.toArray, .string ⟨#[]⟩, .int .i64 (er : Int)]))
/-- the world while the results are stored -/
def rdCw (w : World) (B N E : Nat) (ty : TypeId) (CS : List Value) (r : List Nat) (R : World → Prop) (_ : Bool) (W : World) : Prop :=
  Blk W N ty CS ∧ Left W B r ∧ Blk W E 24 [.int .i64 0] ∧ Below w.heap.size w W ∧ R W
/-- what the region's operations come to -/
def rdSw (B : Nat) (CS : List Value) (T : ByteArray) : Nat → Value
  | 0 => .agg CS.toArray
  | 1 => .pointer (some ⟨B, 0, none⟩)
  | 2 | 4 => .string T
  | _ => undef

theorem size_msg_Z : (Try.prog.info? 36).map (·.size) = some zM.length := by kernel_rfl
theorem w_caughtM_ok (E : Nat) (w : World) :
    CallsD Try.prog 51 #[.pointer (some ⟨E, 0, none⟩)] .returning w fun e u' w' => e = .returned (.tuple #[]) ∧ u' = .returning ∧ w' = w := by
  refine callsD_of_wpS Try.func51 rfl fun c₀ cs hu => ?_
  apply wpS_seq
  apply wpS_region
  simp [wpOpsS, go_sem, recoverD, hu, Try.ntmps51, Exit.thenS]
  apply wpS_seq
  apply wpS_region
  simp [wpOpsS, go_sem, Exit.thenS]
  refine wpS_cond (t := false) (by simp [Act.eval, Array.replicate]) ?_
  simp only [Bool.false_eq_true, if_false]
  refine wpS_of_wp (wp_skip ?_)
  cases c₀
  simp_all [bodyPostS, results, Try.results51]
theorem w_caughtM_err (E er x : Nat) (w : World) (hB : Blk w E 24 [.int .i64 (x : Int)]) :
    CallsD Try.prog 51 #[.pointer (some ⟨E, 0, none⟩)] (.panicking [{ v := .iface 24 (.int .i64 (er : Int)), recovered := false }]) w fun e u' w' => e = .returned (.tuple #[]) ∧ u' = .panicking [{ v := .iface 24 (.int .i64 (er : Int)), recovered := true }] ∧ w' = w.setCell ⟨E, 0, none⟩ (.int .i64 (er : Int)) := by
  have hc := hB.cell 0
  have hz := hB.free 0
  simp only [List.getElem?_cons_zero] at hc
  refine callsD_of_wpS Try.func51 rfl fun c₀ cs hu => ?_
  apply wpS_seq
  apply wpS_region
  simp [wpOpsS, go_sem, recoverD, hu, Try.ntmps51, Exit.thenS]
  apply wpS_seq
  apply wpS_region
  simp [wpOpsS, go_sem, Exit.thenS]
  refine wpS_cond (t := true) (by simp [Act.eval, Array.replicate]) ?_
  simp only [if_true]
  apply wpS_region
  simp [wpOpsS, go_sem, assert_errW, hc, hz, bodyPostS, results, Try.results51]
set_option maxRecDepth 100000 in
set_option maxHeartbeats 4000000 in
theorem w_readM (s : List Nat) (w : World) (X : Except Nat (MsgM × List Nat))
    (hstep : ∀ (wx : World) (B : Nat), Left wx B s → Calls Try.prog 26 #[.pointer (some ⟨B, 0, none⟩)] wx (StP X (fun a w' v => MO w' wx.heap.size v (msgU a)) wx B)) :
    Calls Try.prog 25 #[.string (tx s), .func (.func 26) #[] #[]] w (RdR X (fun a w' v => MO w' w.heap.size v (msgU a)) zM w) := by
  obtain ⟨wA, hA⟩ : ∃ wA, (w.alloc (.cells zM.toArray 36)).alloc (.cells #[.int .i64 0] 24) = wA := ⟨_, rfl⟩
  have kN : Blk wA w.heap.size 36 zM := by rw [← hA]; exact (Blk.newAt w _ rfl 36 zM rfl).alloc _
  have kE : Blk wA (w.heap.size + 1) 24 [.int .i64 0] := by rw [← hA]; exact Blk.newAt _ _ (by simp) _ _ rfl
  have bA : Below w.heap.size w wA := by rw [← hA]; exact ((Below.refl w.heap.size w).alloc (Nat.le_refl _) _).alloc (by simp) _
  have zA : wA.heap.size = w.heap.size + 1 + 1 := by rw [← hA]; simp
  obtain ⟨wB, hB⟩ : ∃ wB, wA.alloc (.cells #[.string (tx s)] 75) = wB := ⟨_, rfl⟩
  have bB := (Below.refl wA.heap.size wA).alloc (Nat.le_refl _) (.cells #[.string (tx s)] 75)
  rw [hB] at bB
  have lB : Left wB (w.heap.size + 1 + 1) s := by rw [← hB]; exact Blk.newAt wA _ zA _ _ rfl
  have KN := Lib.hid (kN.below bB kN.lt)
  have KE := Lib.hid (kE.below bB kE.lt)
  have BB := Lib.hid (bA.trans (bB.mono bA.size))
  have zB : Hid (w.heap.size + 3 ≤ wB.heap.size) := Lib.hid lB.lt
  have HST := Lib.hid (hstep wB (w.heap.size + 1 + 1) lB)
  have HA := Lib.hid hA
  have HB := Lib.hid hB
  have hmf := mkfW
  clear hA kN kE bA bB zA hB hstep lB
  obtain ⟨S, hS⟩ : ∃ S, tx s = S := ⟨_, rfl⟩
  rw [hS] at HB ⊢
  clear hS
  cases hX : X with
  | error er =>
    rw [hX] at HST
    clear hX
    go_enter_defers Try.func25, Try.ntmps25
    go_wp2_with (first | (refine wpList_alloc_n rfl 36 rfl w.heap.size rfl zM.toArray (alloc_msg _) ?_) | (refine wpList_build_at rfl 75 _ rfl (.agg #[.string S]) (build_rdrW _ _) ?_))
    rw [HA.out, HB.out]
    refine HST.out.mono ?_
    rintro e w2 ⟨hg, -, hno⟩
    obtain rfl := hno er rfl
    have hE := KE.out.grownO hg (fun i e => by cases e; omega)
    have hN := KN.out.grownO hg (fun i e => by cases e; omega)
    have hb2 : Below w.heap.size w w2 := BB.out.grown hg (by have := zB.out; omega) (fun k e => by cases e; omega)
    have HE2 := Lib.hid (hE.set 0 (.int .i64 (er : Int)))
    have HN2 := Lib.hid (hN.other (a := ⟨w.heap.size + 1, 0, none⟩) (show w.heap.size + 1 ≠ w.heap.size by omega) (.int .i64 (er : Int)))
    have HB2 := Lib.hid (hb2.setCell (p := ⟨w.heap.size + 1, 0, none⟩) (show w.heap.size ≤ w.heap.size + 1 by omega) (.int .i64 (er : Int)))
    refine leaves_cons (f := 51) (args := #[.pointer (some ⟨w.heap.size + 1, 0, none⟩)]) (by simp) (by simp [go_sem]) ?_
    refine (w_caughtM_err _ er 0 _ hE).mono ?_
    rintro e u' w3 ⟨rfl, rfl, rfl⟩
    exact ⟨_, results_ctc rfl _ _ w.heap.size (w.heap.size + 1) rfl (.string ⟨#[]⟩) rfl rfl HN2.out (HE2.out.cell 0) Try.underlying36 rfl size_msg_Z Try.underlying24 rfl, HB2.out, fun a r h => (by cases h), fun er' h => (by cases h; rfl)⟩
  | ok x =>
    obtain ⟨av, t⟩ := x
    rw [hX] at HST
    clear hX
    go_enter_defers Try.func25, Try.ntmps25
    go_wp2_with (first | (refine wpList_alloc_n rfl 36 rfl w.heap.size rfl zM.toArray (alloc_msg _) ?_) | (refine wpList_build_at rfl 75 _ rfl (.agg #[.string S]) (build_rdrW _ _) ?_))
    rw [HA.out, HB.out]
    refine HST.out.mono ?_
    rintro e w2 ⟨hg, hok, -⟩
    obtain ⟨v, rfl, hv, hL⟩ := hok av t rfl
    have hE := KE.out.grownO hg (fun i e => by cases e; omega)
    have hN := KN.out.grownO hg (fun i e => by cases e; omega)
    have hb2 : Below w.heap.size w w2 := BB.out.grown hg (by have := zB.out; omega) (fun k e => by cases e; omega)
    obtain ⟨CS, rfl, hCl, hCo⟩ := msg_cells hv.told
    have kz := hN.row CS (by rw [hCl]; rfl)
    obtain ⟨T, hT⟩ : ∃ T, tx t = T := ⟨_, rfl⟩
    have HTT := Lib.hid hT
    have hC : rdCw w (w.heap.size + 1 + 1) w.heap.size (w.heap.size + 1) 36 CS t (fun W => MO W (w.heap.size + 3) (.agg CS.toArray) (msgU av)) false (w2.setRow w.heap.size CS.toArray) :=
      ⟨kz, hL.rowOther (by omega) CS.toArray, hE.rowOther (by omega) CS.toArray, below_setRow hb2 (Nat.le_refl _) CS.toArray, (hv.lower zB.out).row (by omega) CS.toArray⟩
    have HC := Lib.hid hC
    have HN := Lib.hid hN
    have HCL := Lib.hid hCl
    have HCO := Lib.hid hCo
    clear hg hok hE hN hb2 kz hT hC hCl hCo hv hL KN KE BB HST
    go_wp2_with (refine wpList_store_blk rfl 36 _ _ rfl w.heap.size CS rfl rfl HN.out (by rw [size_msg, HCL.out]) (by rw [HCL.out]; rfl) HCO.out ?_)
    generalize hW3 : w2.setRow w.heap.size CS.toArray = w3 at *
    clear HN hW3
    refine region_mix 3 5 (by decide) mixed (by kernel_rfl) (by kernel_rfl) (fun u => #[_, _, _, _, _, u 4, _, _, _, _, _, _, _, u 0, u 1, u 2]) _ (fun i => if i = 4 then .string ⟨#[]⟩ else undef) rfl
      (rdCw w (w.heap.size + 1 + 1) w.heap.size (w.heap.size + 1) 36 CS t (fun W => MO W (w.heap.size + 3) (.agg CS.toArray) (msgU av))) ⟨HC.out.1, HC.out.2.1, HC.out.2.2.1, HC.out.2.2.2.1.drew, HC.out.2.2.2.2.keep (Below.refl _ _).drew⟩ (fun _ W W' => True) (fun i v _ => v = rdSw (w.heap.size + 1 + 1) CS T i) ?mono ?step ?one ?last
    case mono => exact fun bb i v W W' _ h hk => h
    case step =>
      intro bb u W j op hj hjk _ ho hC hd
      have c0 := hC.2.1.cell
      rw [HTT.out] at c0
      have KW := Lib.hid hC.1
      rcases j with _ | _ | _ | _ | _ | j
      all_goals try (simp only [List.getElem?_cons_zero, List.getElem?_cons_succ, Option.some.injEq] at ho; subst ho)
      · go_wp2_with (refine wpList_load_blkW rfl 36 _ rfl w.heap.size rfl KW.out Try.underlying36 rfl (by rw [size_msg, HCL.out]) ?_)
        exact ⟨.agg CS.toArray, rfl, rfl, hC, trivial⟩
      · go_wp2_with fail
        exact ⟨.pointer (some ⟨w.heap.size + 1 + 1, 0, none⟩), rfl, rfl, hC, trivial⟩
      · have h1 : u 1 = .pointer (some ⟨w.heap.size + 1 + 1, 0, none⟩) := hd ⟨1, .data⟩ (by simp) rfl
        rw [h1]
        go_wp2_with fail
        exact ⟨.string T, by first | (simp [upd, h1]; done) | (simp [upd, h1]; rfl), rfl, hC, trivial⟩
      · omega
      · have h1 : u 2 = .string T := hd ⟨2, .data⟩ (by simp) rfl
        rw [h1]
        go_wp2_with fail
        exact ⟨.string T, by first | (simp [upd, h1]; done) | (simp [upd, h1]; rfl), rfl, hC, trivial⟩
      · omega
    case one =>
      intro u W op ho hC hd
      simp only [List.getElem?_cons_zero, List.getElem?_cons_succ, Option.some.injEq] at ho
      subst ho
      have h0 : u 0 = .agg CS.toArray := hd ⟨0, .data⟩ (by simp) rfl
      rw [h0]
      have KW := Lib.hid hC.1
      have hC' : rdCw w (w.heap.size + 1 + 1) w.heap.size (w.heap.size + 1) 36 CS t (fun W => MO W (w.heap.size + 3) (.agg CS.toArray) (msgU av)) true (W.setRow w.heap.size CS.toArray) :=
        ⟨hC.1.row CS rfl, hC.2.1.rowOther (by omega) CS.toArray, hC.2.2.1.rowOther (by omega) CS.toArray, below_setRow hC.2.2.2.1 (Nat.le_refl _) CS.toArray, hC.2.2.2.2.row (by omega) CS.toArray⟩
      go_wp2_with (refine wpList_store_blk rfl 36 _ _ rfl w.heap.size CS rfl rfl KW.out (by rw [size_msg, HCL.out]) rfl HCO.out ?_)
      exact ⟨undef, by first | (simp [upd, h0]; done) | (simp [upd, h0]; rfl), rfl, hC', trivial⟩
    case last =>
      intro u W op ho hC hS
      simp only [List.getElem?_cons_zero, List.getElem?_cons_succ, Option.some.injEq] at ho
      subst ho
      have h4 : u 4 = .string T := hS 4 (by decide)
      rw [h4]
      obtain ⟨q1, q2, q3, q4, q5⟩ := hC
      have c3 := q3.cell 0
      have f3 := q3.free 0
      simp only [List.getElem?_cons_zero] at c3
      have KN4 := Lib.hid (q1.other (a := ⟨w.heap.size + 1, 0, none⟩) (show w.heap.size + 1 ≠ w.heap.size by omega) (.int .i64 0))
      have KE4 := Lib.hid (q3.set 0 (.int .i64 0))
      have B4 := Lib.hid (q4.setCell (p := ⟨w.heap.size + 1, 0, none⟩) (show w.heap.size ≤ w.heap.size + 1 by omega) (.int .i64 0))
      have V4 := Lib.hid ((q5.but (grown_setCell W ⟨w.heap.size + 1, 0, none⟩ (.int .i64 0)) (show w.heap.size + 1 < w.heap.size + 3 by omega)).lower (base' := w.heap.size) (by omega))
      clear hS q1 q2 q3 q4 q5 h4
      go_wp2
      refine leaves_cons (f := 51) (args := #[.pointer (some ⟨w.heap.size + 1, 0, none⟩)]) (by simp) (by simp [go_sem]) ?_
      refine (w_caughtM_ok _ _).mono ?_
      rintro e u' w5 ⟨rfl, rfl, rfl⟩
      exact ⟨_, results_ctc rfl _ _ w.heap.size (w.heap.size + 1) rfl (.string T) rfl rfl KN4.out (KE4.out.cell 0) Try.underlying36 rfl (by rw [size_msg, HCL.out]) Try.underlying24 rfl, B4.out, fun a r h => (by cases h; exact ⟨_, by rw [HTT.out], V4.out⟩), fun er' h => (by cases h)⟩

theorem size_req_Z : (Try.prog.info? 40).map (·.size) = some zQ.length := by kernel_rfl
theorem w_caughtQ_ok (E : Nat) (w : World) :
    CallsD Try.prog 42 #[.pointer (some ⟨E, 0, none⟩)] .returning w fun e u' w' => e = .returned (.tuple #[]) ∧ u' = .returning ∧ w' = w := by
  refine callsD_of_wpS Try.func42 rfl fun c₀ cs hu => ?_
  apply wpS_seq
  apply wpS_region
  simp [wpOpsS, go_sem, recoverD, hu, Try.ntmps42, Exit.thenS]
  apply wpS_seq
  apply wpS_region
  simp [wpOpsS, go_sem, Exit.thenS]
  refine wpS_cond (t := false) (by simp [Act.eval, Array.replicate]) ?_
  simp only [Bool.false_eq_true, if_false]
  refine wpS_of_wp (wp_skip ?_)
  cases c₀
  simp_all [bodyPostS, results, Try.results42]
theorem w_caughtQ_err (E er x : Nat) (w : World) (hB : Blk w E 24 [.int .i64 (x : Int)]) :
    CallsD Try.prog 42 #[.pointer (some ⟨E, 0, none⟩)] (.panicking [{ v := .iface 24 (.int .i64 (er : Int)), recovered := false }]) w fun e u' w' => e = .returned (.tuple #[]) ∧ u' = .panicking [{ v := .iface 24 (.int .i64 (er : Int)), recovered := true }] ∧ w' = w.setCell ⟨E, 0, none⟩ (.int .i64 (er : Int)) := by
  have hc := hB.cell 0
  have hz := hB.free 0
  simp only [List.getElem?_cons_zero] at hc
  refine callsD_of_wpS Try.func42 rfl fun c₀ cs hu => ?_
  apply wpS_seq
  apply wpS_region
  simp [wpOpsS, go_sem, recoverD, hu, Try.ntmps42, Exit.thenS]
  apply wpS_seq
  apply wpS_region
  simp [wpOpsS, go_sem, Exit.thenS]
  refine wpS_cond (t := true) (by simp [Act.eval, Array.replicate]) ?_
  simp only [if_true]
  apply wpS_region
  simp [wpOpsS, go_sem, assert_errW, hc, hz, bodyPostS, results, Try.results42]
set_option maxRecDepth 100000 in
set_option maxHeartbeats 4000000 in
theorem w_readQ (s : List Nat) (w : World) (X : Except Nat (ReqM × List Nat))
    (hstep : ∀ (wx : World) (B : Nat), Left wx B s → Calls Try.prog 22 #[.pointer (some ⟨B, 0, none⟩)] wx (StP X (fun a w' v => QO w' wx.heap.size v (reqU a)) wx B)) :
    Calls Try.prog 21 #[.string (tx s), .func (.func 22) #[] #[]] w (RdR X (fun a w' v => QO w' w.heap.size v (reqU a)) zQ w) := by
  obtain ⟨wA, hA⟩ : ∃ wA, (w.alloc (.cells zQ.toArray 40)).alloc (.cells #[.int .i64 0] 24) = wA := ⟨_, rfl⟩
  have kN : Blk wA w.heap.size 40 zQ := by rw [← hA]; exact (Blk.newAt w _ rfl 40 zQ rfl).alloc _
  have kE : Blk wA (w.heap.size + 1) 24 [.int .i64 0] := by rw [← hA]; exact Blk.newAt _ _ (by simp) _ _ rfl
  have bA : Below w.heap.size w wA := by rw [← hA]; exact ((Below.refl w.heap.size w).alloc (Nat.le_refl _) _).alloc (by simp) _
  have zA : wA.heap.size = w.heap.size + 1 + 1 := by rw [← hA]; simp
  obtain ⟨wB, hB⟩ : ∃ wB, wA.alloc (.cells #[.string (tx s)] 75) = wB := ⟨_, rfl⟩
  have bB := (Below.refl wA.heap.size wA).alloc (Nat.le_refl _) (.cells #[.string (tx s)] 75)
  rw [hB] at bB
  have lB : Left wB (w.heap.size + 1 + 1) s := by rw [← hB]; exact Blk.newAt wA _ zA _ _ rfl
  have KN := Lib.hid (kN.below bB kN.lt)
  have KE := Lib.hid (kE.below bB kE.lt)
  have BB := Lib.hid (bA.trans (bB.mono bA.size))
  have zB : Hid (w.heap.size + 3 ≤ wB.heap.size) := Lib.hid lB.lt
  have HST := Lib.hid (hstep wB (w.heap.size + 1 + 1) lB)
  have HA := Lib.hid hA
  have HB := Lib.hid hB
  have hmf := mkfW
  clear hA kN kE bA bB zA hB hstep lB
  obtain ⟨S, hS⟩ : ∃ S, tx s = S := ⟨_, rfl⟩
  rw [hS] at HB ⊢
  clear hS
  cases hX : X with
  | error er =>
    rw [hX] at HST
    clear hX
    go_enter_defers Try.func21, Try.ntmps21
    go_wp2_with (first | (refine wpList_alloc_n rfl 40 rfl w.heap.size rfl zQ.toArray (alloc_req _) ?_) | (refine wpList_build_at rfl 75 _ rfl (.agg #[.string S]) (build_rdrW _ _) ?_))
    rw [HA.out, HB.out]
    refine HST.out.mono ?_
    rintro e w2 ⟨hg, -, hno⟩
    obtain rfl := hno er rfl
    have hE := KE.out.grownO hg (fun i e => by cases e; omega)
    have hN := KN.out.grownO hg (fun i e => by cases e; omega)
    have hb2 : Below w.heap.size w w2 := BB.out.grown hg (by have := zB.out; omega) (fun k e => by cases e; omega)
    have HE2 := Lib.hid (hE.set 0 (.int .i64 (er : Int)))
    have HN2 := Lib.hid (hN.other (a := ⟨w.heap.size + 1, 0, none⟩) (show w.heap.size + 1 ≠ w.heap.size by omega) (.int .i64 (er : Int)))
    have HB2 := Lib.hid (hb2.setCell (p := ⟨w.heap.size + 1, 0, none⟩) (show w.heap.size ≤ w.heap.size + 1 by omega) (.int .i64 (er : Int)))
    refine leaves_cons (f := 42) (args := #[.pointer (some ⟨w.heap.size + 1, 0, none⟩)]) (by simp) (by simp [go_sem]) ?_
    refine (w_caughtQ_err _ er 0 _ hE).mono ?_
    rintro e u' w3 ⟨rfl, rfl, rfl⟩
    exact ⟨_, results_ctc rfl _ _ w.heap.size (w.heap.size + 1) rfl (.string ⟨#[]⟩) rfl rfl HN2.out (HE2.out.cell 0) Try.underlying40 rfl size_req_Z Try.underlying24 rfl, HB2.out, fun a r h => (by cases h), fun er' h => (by cases h; rfl)⟩
  | ok x =>
    obtain ⟨av, t⟩ := x
    rw [hX] at HST
    clear hX
    go_enter_defers Try.func21, Try.ntmps21
    go_wp2_with (first | (refine wpList_alloc_n rfl 40 rfl w.heap.size rfl zQ.toArray (alloc_req _) ?_) | (refine wpList_build_at rfl 75 _ rfl (.agg #[.string S]) (build_rdrW _ _) ?_))
    rw [HA.out, HB.out]
    refine HST.out.mono ?_
    rintro e w2 ⟨hg, hok, -⟩
    obtain ⟨v, rfl, hv, hL⟩ := hok av t rfl
    have hE := KE.out.grownO hg (fun i e => by cases e; omega)
    have hN := KN.out.grownO hg (fun i e => by cases e; omega)
    have hb2 : Below w.heap.size w w2 := BB.out.grown hg (by have := zB.out; omega) (fun k e => by cases e; omega)
    obtain ⟨CS, rfl, hCl, hCo⟩ := hv.cells
    have kz := hN.row CS (by rw [hCl]; rfl)
    obtain ⟨T, hT⟩ : ∃ T, tx t = T := ⟨_, rfl⟩
    have HTT := Lib.hid hT
    have hC : rdCw w (w.heap.size + 1 + 1) w.heap.size (w.heap.size + 1) 40 CS t (fun W => QO W (w.heap.size + 3) (.agg CS.toArray) (reqU av)) false (w2.setRow w.heap.size CS.toArray) :=
      ⟨kz, hL.rowOther (by omega) CS.toArray, hE.rowOther (by omega) CS.toArray, below_setRow hb2 (Nat.le_refl _) CS.toArray, (hv.lower zB.out).row (by omega) CS.toArray⟩
    have HC := Lib.hid hC
    have HN := Lib.hid hN
    have HCL := Lib.hid hCl
    have HCO := Lib.hid hCo
    clear hg hok hE hN hb2 kz hT hC hCl hCo hv hL KN KE BB HST
    go_wp2_with (refine wpList_store_blk rfl 40 _ _ rfl w.heap.size CS rfl rfl HN.out (by rw [size_req, HCL.out]) (by rw [HCL.out]; rfl) HCO.out ?_)
    generalize hW3 : w2.setRow w.heap.size CS.toArray = w3 at *
    clear HN hW3
    refine region_mix 3 5 (by decide) mixed (by kernel_rfl) (by kernel_rfl) (fun u => #[_, _, _, _, _, u 4, _, _, _, _, _, _, _, u 0, u 1, u 2]) _ (fun i => if i = 4 then .string ⟨#[]⟩ else undef) rfl
      (rdCw w (w.heap.size + 1 + 1) w.heap.size (w.heap.size + 1) 40 CS t (fun W => QO W (w.heap.size + 3) (.agg CS.toArray) (reqU av))) ⟨HC.out.1, HC.out.2.1, HC.out.2.2.1, HC.out.2.2.2.1.drew, HC.out.2.2.2.2.keep (Below.refl _ _).drew⟩ (fun _ W W' => True) (fun i v _ => v = rdSw (w.heap.size + 1 + 1) CS T i) ?mono ?step ?one ?last
    case mono => exact fun bb i v W W' _ h hk => h
    case step =>
      intro bb u W j op hj hjk _ ho hC hd
      have c0 := hC.2.1.cell
      rw [HTT.out] at c0
      have KW := Lib.hid hC.1
      rcases j with _ | _ | _ | _ | _ | j
      all_goals try (simp only [List.getElem?_cons_zero, List.getElem?_cons_succ, Option.some.injEq] at ho; subst ho)
      · go_wp2_with (refine wpList_load_blkW rfl 40 _ rfl w.heap.size rfl KW.out Try.underlying40 rfl (by rw [size_req, HCL.out]) ?_)
        exact ⟨.agg CS.toArray, rfl, rfl, hC, trivial⟩
      · go_wp2_with fail
        exact ⟨.pointer (some ⟨w.heap.size + 1 + 1, 0, none⟩), rfl, rfl, hC, trivial⟩
      · have h1 : u 1 = .pointer (some ⟨w.heap.size + 1 + 1, 0, none⟩) := hd ⟨1, .data⟩ (by simp) rfl
        rw [h1]
        go_wp2_with fail
        exact ⟨.string T, by first | (simp [upd, h1]; done) | (simp [upd, h1]; rfl), rfl, hC, trivial⟩
      · omega
      · have h1 : u 2 = .string T := hd ⟨2, .data⟩ (by simp) rfl
        rw [h1]
        go_wp2_with fail
        exact ⟨.string T, by first | (simp [upd, h1]; done) | (simp [upd, h1]; rfl), rfl, hC, trivial⟩
      · omega
    case one =>
      intro u W op ho hC hd
      simp only [List.getElem?_cons_zero, List.getElem?_cons_succ, Option.some.injEq] at ho
      subst ho
      have h0 : u 0 = .agg CS.toArray := hd ⟨0, .data⟩ (by simp) rfl
      rw [h0]
      have KW := Lib.hid hC.1
      have hC' : rdCw w (w.heap.size + 1 + 1) w.heap.size (w.heap.size + 1) 40 CS t (fun W => QO W (w.heap.size + 3) (.agg CS.toArray) (reqU av)) true (W.setRow w.heap.size CS.toArray) :=
        ⟨hC.1.row CS rfl, hC.2.1.rowOther (by omega) CS.toArray, hC.2.2.1.rowOther (by omega) CS.toArray, below_setRow hC.2.2.2.1 (Nat.le_refl _) CS.toArray, hC.2.2.2.2.row (by omega) CS.toArray⟩
      go_wp2_with (refine wpList_store_blk rfl 40 _ _ rfl w.heap.size CS rfl rfl KW.out (by rw [size_req, HCL.out]) rfl HCO.out ?_)
      exact ⟨undef, by first | (simp [upd, h0]; done) | (simp [upd, h0]; rfl), rfl, hC', trivial⟩
    case last =>
      intro u W op ho hC hS
      simp only [List.getElem?_cons_zero, List.getElem?_cons_succ, Option.some.injEq] at ho
      subst ho
      have h4 : u 4 = .string T := hS 4 (by decide)
      rw [h4]
      obtain ⟨q1, q2, q3, q4, q5⟩ := hC
      have c3 := q3.cell 0
      have f3 := q3.free 0
      simp only [List.getElem?_cons_zero] at c3
      have KN4 := Lib.hid (q1.other (a := ⟨w.heap.size + 1, 0, none⟩) (show w.heap.size + 1 ≠ w.heap.size by omega) (.int .i64 0))
      have KE4 := Lib.hid (q3.set 0 (.int .i64 0))
      have B4 := Lib.hid (q4.setCell (p := ⟨w.heap.size + 1, 0, none⟩) (show w.heap.size ≤ w.heap.size + 1 by omega) (.int .i64 0))
      have V4 := Lib.hid ((q5.but (grown_setCell W ⟨w.heap.size + 1, 0, none⟩ (.int .i64 0)) (show w.heap.size + 1 < w.heap.size + 3 by omega)).lower (base' := w.heap.size) (by omega))
      clear hS q1 q2 q3 q4 q5 h4
      go_wp2
      refine leaves_cons (f := 42) (args := #[.pointer (some ⟨w.heap.size + 1, 0, none⟩)]) (by simp) (by simp [go_sem]) ?_
      refine (w_caughtQ_ok _ _).mono ?_
      rintro e u' w5 ⟨rfl, rfl, rfl⟩
      exact ⟨_, results_ctc rfl _ _ w.heap.size (w.heap.size + 1) rfl (.string T) rfl rfl KN4.out (KE4.out.cell 0) Try.underlying40 rfl (by rw [size_req, HCL.out]) Try.underlying24 rfl, B4.out, fun a r h => (by cases h; exact ⟨_, by rw [HTT.out], V4.out⟩), fun er' h => (by cases h)⟩

end Go.Proofs.Ytloogjdojojehaa
namespace Go.Proofs.Ytloogjdojojehaa
open Go.RowKit
set_option linter.unusedVariables false

/-- a reply whose error is any number -/
structure RepI where
  err : Int
  ids : List Nat
  ver : RawV
/-- these cells tell the reply -/
def RepIV (w : World) (r : List Value) (x : RepI) : Prop :=
  ∃ vi q, r = .int .i64 x.err :: vi :: q ∧ (∃ p c, vi = .slice p x.ids.length c) ∧ Sl w 1 vi (rowsU .u32 x.ids) ∧ VV w (.agg q.toArray) x.ver
theorem RepIV.below {w w' : World} {r : List Value} {x : RepI} (h : RepIV w r x) (hb : Below w.heap.size w w') : RepIV w' r x := by
  obtain ⟨vi, q, e, h1, h2, h3⟩ := h
  exact ⟨vi, q, e, h1, h2.below hb, h3.below hb⟩
theorem RepIV.row {w : World} {r : List Value} {x : RepI} (h : RepIV w r x) : r.length = 6 ∧ (∃ p c, r[1]? = some (.slice p x.ids.length c)) ∧ r[0]? = some (.int .i64 x.err) ∧ VV w (.agg (r.drop 2).toArray) x.ver := by
  obtain ⟨vi, q, rfl, ⟨pi, ci, rfl⟩, _, hv⟩ := h
  obtain ⟨pb, cb, pn, cn, pz, cz, rfl⟩ := hv.row
  exact ⟨rfl, ⟨_, _, rfl⟩, rfl, hv⟩
def MsgU.rep (m : MsgU) : RepI := ⟨m.err, m.ids, m.ver⟩
/-- a message's cells, its reply together -/
theorem msg_split {w : World} {v : Value} {m : MsgU} (h : MsgTold w v m) : ∃ pl cl rp, v = .agg (mC m.kind m.src m.dst m.view m.last m.n m.commit (.slice pl m.log.length cl) m.client m.seq rp (ints .u8 (nn m.hash)) m.block).toArray ∧ ReqsV w (.slice pl m.log.length cl) m.log ∧ RepIV w rp m.rep ∧ m.hash.length = 32 ∧ Bys m.hash := by
  obtain ⟨vl, vi, q, rfl, ⟨pl, cl, rfl⟩, hl, ⟨pi, ci, rfl⟩, hi, hv, h32, hby⟩ := h
  exact ⟨pl, cl, .int .i64 m.err :: .slice pi m.ids.length ci :: q, rfl, hl, ⟨_, _, rfl, ⟨_, _, rfl⟩, hi, hv⟩, h32, hby⟩
theorem mC_len (k f t : Int) (v l : Nat) (n c : Int) (vl : Value) (cl : Int) (sq : Nat) {rp h : List Value} (b : ByteArray) (h6 : rp.length = 6) (h32 : h.length = 32) : (mC k f t v l n c vl cl sq rp h b).length = 49 := by
  unfold mC
  simp [h6, h32]
/-- the parts of a message's block -/
theorem mC_rep {w : World} {M : Nat} {ty : TypeId} {k f t : Int} {v l : Nat} {n c : Int} {vl : Value} {cl : Int} {sq : Nat} {rp h : List Value} {b : ByteArray} (hk : Blk w M ty (mC k f t v l n c vl cl sq rp h b)) :
    ∀ i x, rp[i]? = some x → w.cell? ((⟨M, 10, none⟩ : Addr).add i) = some x := fun i x hx => by
  have hi := (List.getElem?_eq_some_iff.1 hx).1
  rw [Addr.add_mid, hk.cell]
  unfold mC
  rw [List.getElem?_append_right (by simp), List.getElem?_append_left (by simpa using hi)]
  simpa using hx
theorem mC_hash {w : World} {M : Nat} {ty : TypeId} {k f t : Int} {v l : Nat} {n c : Int} {vl : Value} {cl : Int} {sq : Nat} {rp h : List Value} {b : ByteArray} (hk : Blk w M ty (mC k f t v l n c vl cl sq rp h b)) (h6 : rp.length = 6) :
    ∀ i x, h[i]? = some x → w.cell? ((⟨M, 16, none⟩ : Addr).add i) = some x := fun i x hx => by
  have hi := (List.getElem?_eq_some_iff.1 hx).1
  rw [Addr.add_mid, hk.cell]
  unfold mC
  rw [List.getElem?_append_right (by simp; omega), List.getElem?_append_right (by simp [h6]; omega), List.getElem?_append_left (by simp [h6]; omega)]
  have e : 16 + i - [Value.int IntKind.i64 k, .int .i64 f, .int .i64 t, .int .u32 (v : Int), .int .u32 (l : Int), .int .i64 n, .int .i64 c, vl, .int .i64 cl, .int .u32 (sq : Int)].length - rp.length = i := by simp [h6]; omega
  rw [e]
  exact hx
/-- may a reply be? -/
def repMayI (x : RepI) : Bool := decide ((0 : Int) ≤ x.err ∧ x.err ≤ 1000) && (decide (x.ids.length ≤ 8) && mayR x.ver)

set_option maxRecDepth 100000 in
set_option maxHeartbeats 2000000 in
theorem w_mayReply (x : RepI) (R : List Value) (b : Bool) (w : World) (hb : repMayI x = b) (hv : RepIV w R x) (ha : VerS x.ver) (hl : x.ids.length ≤ 1000000) :
    Calls Try.prog 36 #[.agg R.toArray] w fun e w' => e = .returned (.bool b) ∧ Below w.heap.size w w' := by
  obtain ⟨hRl, ⟨pi, ci, h1⟩, h0, hV⟩ := hv.row
  have k0 := Blk.new' w 32 (c := R.toArray) R rfl
  have kb := (Below.refl w.heap.size w).alloc (Nat.le_refl _) (.cells R.toArray 32)
  have c0 := k0.cellOf h0
  have c1 := k0.cellOf h1
  have KB := Lib.hid kb
  have HD4 : Hid ((R.drop 2).length = 4) := Lib.hid (by rw [List.length_drop, hRl])
  have HV1 : Hid (∀ i y, (R.drop 2)[i]? = some y → (w.alloc (.cells R.toArray 32)).cell? ((⟨w.heap.size, 2, none⟩ : Addr).add i) = some y) := Lib.hid fun i y hx => by
    rw [Addr.add_mid, k0.cell]
    rw [List.getElem?_drop] at hx
    exact hx
  have hy : ∀ y ∈ x.ver.ns, Bys y := ha.1.2.2.1
  have HM := Lib.hid (fun (bb : Bool) (h : mayR x.ver = bb) => h_May x.ver (.agg (R.drop 2).toArray) bb (w.alloc (.cells R.toArray 32)) h (hV.below kb) hy ha.2.1 ha.2.2.1 ha.2.2.2)
  obtain ⟨b0, e0⟩ : ∃ b0, decide ((0 : Int) ≤ x.err ∧ x.err ≤ 1000) = b0 := ⟨_, rfl⟩
  obtain ⟨b2, e2⟩ : ∃ b2, mayR x.ver = b2 := ⟨_, rfl⟩
  have H0 := Lib.hid (fun wx => w_withinE x.err 0 1000 b0 wx e0)
  have H2 := Lib.hid (HM.out b2 e2)
  unfold repMayI at hb
  rw [e0, e2] at hb
  have HB := Lib.hid hb
  obtain ⟨n, hn⟩ : ∃ n, x.ids.length = n := ⟨_, rfl⟩
  rw [hn] at c1 HB hl
  clear k0 kb h0 h1 hV hv ha hy hb HM e0 e2 hn
  generalize x.err = er at *
  go_enter Try.func36, Try.ntmps36
  go_wp2_with (first | (go_skip) | fail)
  refine (H0.out _).mono ?_
  rintro e w2 ⟨rfl, rfl⟩
  cases b0
  · obtain rfl : false = b := by rw [← HB.out]; rfl
    go_wp2_with (first | (go_skip) | fail)
    go_ret
    exact ⟨rfl, KB.out⟩
  by_cases h8 : n ≤ 8
  case neg =>
    obtain rfl : false = b := by rw [← HB.out, decide_eq_false h8]; rfl
    have g0 : ¬ (n : Int) ≤ 8 := by omega
    have g1 : decide ((n : Int) ≤ 8) = false := decide_eq_false g0
    clear h8
    go_wp2_with (first | (go_skip) | fail)
    go_ret
    exact ⟨rfl, KB.out⟩
  have g0 : (n : Int) ≤ 8 := by omega
  have g1 : decide ((n : Int) ≤ 8) = true := decide_eq_true g0
  have H8 := Lib.hid h8
  clear h8
  go_wp2_with (first | (go_skip) | (refine wpList_load_addrV rfl 30 _ rfl ⟨w.heap.size, 2, none⟩ rfl (R.drop 2) HV1.out Try.underlying30 rfl (by rw [size_ver, HD4.out]) ?_))
  refine H2.out.mono ?_
  rintro e w3 ⟨rfl, b3⟩
  have B3 := Lib.hid (KB.out.trans (b3.mono KB.out.size))
  clear b3
  go_wp2_with (first | (go_skip) | fail)
  go_ret
  exact ⟨congrArg (fun x => Ending.returned (.bool x)) (by rw [← HB.out, decide_eq_true H8.out]; simp), B3.out⟩
/-- may all these requests be? -/
def logMay (l : List (ReqU RawV)) : Bool := decide (l.length ≤ 40) && l.all mayBeR
theorem logMay_no {l : List (ReqU RawV)} {b : Bool} (hb : logMay l = b) {i : Nat} (hi : i < l.length) (h : mayBeR (l.getD i noQ) = false) : b = false := by
  rw [← hb]
  unfold logMay
  rw [Bool.and_eq_false_iff]
  right
  rw [List.all_eq_false]
  refine ⟨l.getD i noQ, ?_, by rw [h]; decide⟩
  rw [List.getD_eq_getElem?_getD, List.getElem?_eq_getElem hi]
  exact List.getElem_mem hi
theorem logMay_yes {l : List (ReqU RawV)} {b : Bool} (hb : logMay l = b) (h40 : l.length ≤ 40) (h : ∀ i, i < l.length → mayBeR (l.getD i noQ) = true) : b = true := by
  rw [← hb]
  unfold logMay
  rw [decide_eq_true h40, Bool.true_and, List.all_eq_true]
  intro r hr
  obtain ⟨i, hi, rfl⟩ := List.getElem_of_mem hr
  have := h i hi
  rwa [List.getD_eq_getElem?_getD, List.getElem?_eq_getElem hi] at this
set_option maxRecDepth 100000 in
set_option maxHeartbeats 2000000 in
theorem w_mayLog (l : List (ReqU RawV)) (p : Option Addr) (c : Nat) (b : Bool) (w : World) (hb : logMay l = b) (hl : l.length ≤ 1000000) (hA : ReqsV w (.slice p l.length c) l) (ha : ∀ i, i < l.length → VerS (l.getD i noQ).ver) :
    Calls Try.prog 34 #[.slice p l.length c] w fun e w' => e = .returned (.bool b) ∧ Below w.heap.size w w' := by
  have HA := Lib.hid hA
  have HVA := Lib.hid ha
  have HB := Lib.hid hb
  clear hA ha hb
  by_cases h40 : l.length ≤ 40
  case neg =>
    obtain rfl : false = b := by rw [← HB.out]; unfold logMay; rw [decide_eq_false h40]; rfl
    have g0 : (40 : Int) < (l.length : Int) := by omega
    generalize l.length = n at *
    clear h40
    go_enter Try.func34, Try.ntmps34
    go_wp2_with (first | (go_skip) | fail)
    go_ret
    exact ⟨rfl, Below.refl _ _⟩
  have H40 := Lib.hid h40
  have g0 : ¬ (40 : Int) < (l.length : Int) := by omega
  have g1 : ¬ 40 < l.length := by omega
  go_enter Try.func34, Try.ntmps34
  go_wp2
  clear g0 g1 h40
  go_loopw [10] (fun i wr => ∃ j : Nat, j ≤ l.length ∧ i = .int .i64 (j : Int) ∧ (∀ k, k < j → mayBeR (l.getD k noQ) = true) ∧ Below w.heap.size w wr) (fun i _ => l.length - (intOf i).toNat)
  case atStart => exact ⟨0, Nat.zero_le _, rfl, fun k hk => absurd hk (Nat.not_lt_zero k), Below.refl _ _⟩
  case round =>
    obtain ⟨j, hj, rfl, hall, gb⟩ := hrel
    have GB := Lib.hid gb
    have HAL := Lib.hid hall
    clear hall
    by_cases hlt : j < l.length
    · obtain ⟨a1, R, rfl, m1, t1, l1, s1⟩ := (HA.out.below gb).at hlt
      obtain ⟨M, hM⟩ : ∃ M, wr.heap.size = M := ⟨_, rfl⟩
      obtain ⟨R2, e2, hq⟩ : ∃ R2 : List Value, R2 = R ∧ R.toArray.all (·.oneCell') = true := ⟨R, rfl, by
        obtain ⟨q, e, h⟩ := t1
        obtain ⟨pb, cb, pn, cn, pz, cz, rfl⟩ := h.row
        have e2 := congrArg (fun v => match v with | Value.agg c => c.toList | _ => []) e
        simp at e2
        rw [e2]
        simp [cellsQ, cellsO, cellsV, Value.oneCell']⟩
      have k2 := Blk.newAt wr M hM 40 (c := zQ.toArray) zQ rfl
      have b3 := below_setRow ((Below.refl wr.heap.size wr).alloc (Nat.le_refl _) (.cells zQ.toArray 40)) (show wr.heap.size ≤ M by omega) R.toArray
      obtain ⟨β, hβ⟩ : ∃ β, mayBeR (l.getD j noQ) = β := ⟨_, rfl⟩
      have CA := Lib.hid (w_mayRequest (l.getD j noQ) (.agg R.toArray) β _ hβ (t1.below b3) (HVA.out j hlt))
      have d1 : (j : Int) < (l.length : Int) := by omega
      have K2 := Lib.hid k2
      have K3 := Lib.hid (k2.row R (by rw [l1]; rfl))
      have B3 := Lib.hid (GB.out.trans (b3.mono GB.out.size))
      have HR8 := Lib.hid l1
      have HRO := Lib.hid hq
      have S1 := Lib.hid s1
      have HM := Lib.hid hM
      have HLT := Lib.hid hlt
      have HBE := Lib.hid hβ
      clear m1 t1 l1 s1 hq e2 k2 b3 hβ hj gb hM R2
      go_wp2_with (first | (refine wpList_load_addrV rfl 40 _ rfl (a1.add (j * 8)) rfl R S1.out Try.underlying40 rfl (by rw [size_req, HR8.out]) ?_) | (refine wpList_alloc_n rfl 40 rfl M HM.out zQ.toArray (alloc_req _) ?_) | (refine wpList_store_blk rfl 40 _ _ rfl M R rfl rfl K2.out (by rw [size_req, HR8.out]) (by rw [HR8.out]; rfl) HRO.out ?_) | (refine wpList_load_blkW rfl 40 _ rfl M rfl K3.out Try.underlying40 rfl (by rw [size_req, HR8.out]) ?_))
      refine CA.out.mono ?_
      rintro e w4 ⟨rfl, b4⟩
      have B4 := Lib.hid (B3.out.trans (b4.mono B3.out.size))
      clear b4
      cases β
      · obtain rfl := logMay_no HB.out HLT.out HBE.out
        go_wp2_with (first | (go_skip) | fail)
        go_ret
        exact ⟨rfl, B4.out⟩
      · go_wp2_with (first | (go_skip) | fail)
        go_roundw
        case rel => exact ⟨j + 1, by have := HLT.out; omega, by go_num, fun k hk => by
          by_cases e : k = j
          · rw [e]; exact HBE.out
          · exact HAL.out k (by omega), B4.out⟩
        case measure => (have := HLT.out; simp [intOf]; omega)
    · obtain rfl : j = l.length := by omega
      obtain rfl := logMay_yes HB.out H40.out HAL.out
      clear hlt hj
      go_wp2
      go_ret
      exact ⟨rfl, GB.out⟩

/-- a message may be, by its parts -/
def msgMayI (m : MsgU) : Bool := decide ((1 : Int) ≤ m.kind ∧ m.kind ≤ 14) && (endM2 m.src && (endM2 m.dst && (decide ((0 : Int) ≤ m.n ∧ m.n ≤ 40) && (decide ((0 : Int) ≤ m.commit ∧ m.commit ≤ 40) && (logMay m.log && (decide ((0 : Int) ≤ m.client ∧ m.client ≤ 2) && (repMayI m.rep && decide (m.block.size ≤ 1000))))))))
theorem msgMayI_is (m : MsgU) : msgMayR m = msgMayI m := by
  unfold msgMayR msgMayI logMay repMayI MsgU.rep
  rw [Bool.eq_iff_iff]
  simp only [Bool.and_eq_true, decide_eq_true_eq]
  constructor
  · rintro ⟨⟨⟨⟨⟨⟨⟨⟨⟨⟨⟨a1, a2⟩, a3⟩, a4⟩, a5⟩, a6⟩, a7⟩, a8⟩, a9⟩, a10⟩, a11⟩, a12⟩
    exact ⟨a1, a2, a3, a4, a5, ⟨a6, a7⟩, ⟨a8.1, by omega⟩, ⟨a9, a10, a11⟩, a12⟩
  · rintro ⟨a1, a2, a3, a4, a5, ⟨a6, a7⟩, a8, ⟨a9, a10, a11⟩, a12⟩
    exact ⟨⟨⟨⟨⟨⟨⟨⟨⟨⟨⟨a1, a2⟩, a3⟩, a4⟩, a5⟩, a6⟩, a7⟩, ⟨a8.1, by omega⟩⟩, a9⟩, a10⟩, a11⟩, a12⟩
/-- what is known of a message's parts -/
structure MsgS (m : MsgU) : Prop where
  ll : m.log.length ≤ 1000000
  lv : ∀ i, i < m.log.length → VerS (m.log.getD i noQ).ver
  il : m.ids.length ≤ 1000000
  vs : VerS m.ver
  bs : m.block.size ≤ 1000000
set_option maxRecDepth 100000 in
set_option maxHeartbeats 4000000 in
theorem w_May (m : MsgU) (v : Value) (b : Bool) (w : World) (hb : msgMayR m = b) (hv : MsgTold w v m) (hs : MsgS m) :
    Calls Try.prog 17 #[v] w fun e w' => e = .returned (.bool b) ∧ Below w.heap.size w w' := by
  obtain ⟨pl, cl, rp, rfl, hl, hr, h32, hby⟩ := msg_split hv
  have hr6 := hr.row.1
  have hh : (ints .u8 (nn m.hash)).length = 32 := by rw [ints_length, nn_length, h32]
  obtain ⟨R, hR⟩ : ∃ R, mC m.kind m.src m.dst m.view m.last m.n m.commit (.slice pl m.log.length cl) m.client m.seq rp (ints .u8 (nn m.hash)) m.block = R := ⟨_, rfl⟩
  have k0 := Blk.new' w 36 (c := R.toArray) R rfl
  have kb := (Below.refl w.heap.size w).alloc (Nat.le_refl _) (.cells R.toArray 36)
  rw [hR]
  have KB := Lib.hid kb
  have HC : Hid (∀ wx, Blk wx w.heap.size 36 R → ((wx.cell? ⟨w.heap.size, 0, none⟩ = some (.int .i64 m.kind) ∧ wx.cell? ⟨w.heap.size, 1, none⟩ = some (.int .i64 m.src) ∧ wx.cell? ⟨w.heap.size, 2, none⟩ = some (.int .i64 m.dst) ∧ wx.cell? ⟨w.heap.size, 5, none⟩ = some (.int .i64 m.n) ∧ wx.cell? ⟨w.heap.size, 6, none⟩ = some (.int .i64 m.commit)) ∧ wx.cell? ⟨w.heap.size, 7, none⟩ = some (.slice pl m.log.length cl)) ∧ wx.cell? ⟨w.heap.size, 8, none⟩ = some (.int .i64 m.client) ∧ wx.cell? ⟨w.heap.size, 48, none⟩ = some (.string m.block)) := Lib.hid fun wx hk => by
    rw [← hR] at hk
    exact ⟨⟨⟨hk.cellOf rfl, hk.cellOf rfl, hk.cellOf rfl, hk.cellOf rfl, hk.cellOf rfl⟩, hk.cellOf rfl⟩, hk.cellOf rfl, hk.cellOf (mC_last _ _ _ _ _ _ _ _ _ _ _ ⟨#[]⟩ hr6 hh).1⟩
  have HRP : Hid (∀ wx, Blk wx w.heap.size 36 R → ∀ i x, rp[i]? = some x → wx.cell? ((⟨w.heap.size, 10, none⟩ : Addr).add i) = some x) := Lib.hid fun wx hk => by
    rw [← hR] at hk
    exact mC_rep hk
  have K0 := Lib.hid k0
  have HR6 := Lib.hid hr6
  obtain ⟨⟨⟨c0, c1, c2, c5, c6⟩, c7⟩, c8, c48⟩ := HC.out _ k0
  obtain ⟨b0, e0⟩ : ∃ b0, decide ((1 : Int) ≤ m.kind ∧ m.kind ≤ 14) = b0 := ⟨_, rfl⟩
  have H0 := Lib.hid (fun wx => w_withinI m.kind 1 14 b0 wx e0)
  obtain ⟨b1, e1⟩ : ∃ b1, endM2 m.src = b1 := ⟨_, rfl⟩
  have H1 := Lib.hid (fun wx => w_end m.src b1 wx e1)
  obtain ⟨b2, e2⟩ : ∃ b2, endM2 m.dst = b2 := ⟨_, rfl⟩
  have H2 := Lib.hid (fun wx => w_end m.dst b2 wx e2)
  obtain ⟨b3, e3⟩ : ∃ b3, decide ((0 : Int) ≤ m.n ∧ m.n ≤ 40) = b3 := ⟨_, rfl⟩
  have H3 := Lib.hid (fun wx => w_withinI m.n 0 40 b3 wx e3)
  obtain ⟨b4, e4⟩ : ∃ b4, decide ((0 : Int) ≤ m.commit ∧ m.commit ≤ 40) = b4 := ⟨_, rfl⟩
  have H4 := Lib.hid (fun wx => w_withinI m.commit 0 40 b4 wx e4)
  obtain ⟨b5, e5⟩ : ∃ b5, logMay m.log = b5 := ⟨_, rfl⟩
  obtain ⟨b6, e6⟩ : ∃ b6, decide ((0 : Int) ≤ m.client ∧ m.client ≤ 2) = b6 := ⟨_, rfl⟩
  have H6 := Lib.hid (fun wx => w_client m.client b6 wx e6)
  obtain ⟨b7, e7⟩ : ∃ b7, repMayI m.rep = b7 := ⟨_, rfl⟩
  have H5 := Lib.hid (fun wx (hb : Below w.heap.size w wx) => w_mayLog m.log pl cl b5 wx e5 hs.ll (hl.below hb) hs.lv)
  have H7 := Lib.hid (fun wx (hb : Below w.heap.size w wx) => w_mayReply m.rep rp b7 wx e7 (hr.below hb) hs.vs hs.il)
  rw [msgMayI_is] at hb
  unfold msgMayI at hb
  rw [e0, e1, e2, e3, e4, e5, e6, e7] at hb
  have HB := Lib.hid hb
  have hbs := hs.bs
  clear k0 kb hb hl hr h32 hby hv hs hR hh hr6 e0 e1 e2 e3 e4 e5 e6 e7
  generalize m.kind = fk at *
  generalize m.src = fs at *
  generalize m.dst = fd at *
  generalize m.n = fn at *
  generalize m.commit = fc at *
  generalize m.log.length = fl at *
  generalize m.client = fcl at *
  obtain ⟨bz, hbz⟩ : ∃ bz, m.block = bz := ⟨_, rfl⟩
  rw [hbz] at c48 HB hbs HC
  clear hbz
  go_enter Try.func17, Try.ntmps17
  go_wp2_with (first | (go_skip) | fail)
  refine (H0.out _).mono ?_
  rintro e w2 ⟨rfl, rfl⟩
  cases b0
  · obtain rfl : false = b := by rw [← HB.out]; simp
    go_wp2_with (first | (go_skip) | fail)
    go_ret
    exact ⟨rfl, KB.out⟩
  go_wp2_with (first | (go_skip) | fail)
  refine (H1.out _).mono ?_
  rintro e w3 ⟨rfl, rfl⟩
  cases b1
  · obtain rfl : false = b := by rw [← HB.out]; simp
    go_wp2_with (first | (go_skip) | fail)
    go_ret
    exact ⟨rfl, KB.out⟩
  go_wp2_with (first | (go_skip) | fail)
  refine (H2.out _).mono ?_
  rintro e w4 ⟨rfl, rfl⟩
  cases b2
  · obtain rfl : false = b := by rw [← HB.out]; simp
    go_wp2_with (first | (go_skip) | fail)
    go_ret
    exact ⟨rfl, KB.out⟩
  go_wp2_with (first | (go_skip) | fail)
  refine (H3.out _).mono ?_
  rintro e w5 ⟨rfl, rfl⟩
  cases b3
  · obtain rfl : false = b := by rw [← HB.out]; simp
    go_wp2_with (first | (go_skip) | fail)
    go_ret
    exact ⟨rfl, KB.out⟩
  go_wp2_with (first | (go_skip) | fail)
  refine (H4.out _).mono ?_
  rintro e w6 ⟨rfl, rfl⟩
  cases b4
  · obtain rfl : false = b := by rw [← HB.out]; simp
    go_wp2_with (first | (go_skip) | fail)
    go_ret
    exact ⟨rfl, KB.out⟩
  go_wp2_with (first | (go_skip) | fail)
  refine (H5.out _ KB.out).mono ?_
  rintro e wa ⟨rfl, ba⟩
  have BA := Lib.hid (KB.out.trans (ba.mono KB.out.size))
  have KA := Lib.hid (K0.out.below ba K0.out.lt)
  obtain ⟨-, a8, a48⟩ := HC.out _ KA.out
  have HA10 := Lib.hid (HRP.out _ KA.out)
  clear ba c0 c1 c2 c5 c6 c7 c8 c48
  cases b5
  · obtain rfl : false = b := by rw [← HB.out]; simp
    go_wp2_with (first | (go_skip) | fail)
    go_ret
    exact ⟨rfl, BA.out⟩
  go_wp2_with (first | (go_skip) | fail)
  refine (H6.out _).mono ?_
  rintro e wb ⟨rfl, rfl⟩
  cases b6
  · obtain rfl : false = b := by rw [← HB.out]; simp
    go_wp2_with (first | (go_skip) | fail)
    go_ret
    exact ⟨rfl, BA.out⟩
  go_wp2_with (first | (go_skip) | (refine wpList_load_addrV rfl 32 _ rfl ⟨w.heap.size, 10, none⟩ rfl rp HA10.out Try.underlying32 rfl (by rw [size_rep, HR6.out]) ?_))
  refine (H7.out _ BA.out).mono ?_
  rintro e wc ⟨rfl, bc⟩
  have BC := Lib.hid (BA.out.trans (bc.mono BA.out.size))
  have KC := Lib.hid (KA.out.below bc KA.out.lt)
  obtain ⟨-, -, a49⟩ := HC.out _ KC.out
  clear bc a48 a8
  cases b7
  · obtain rfl : false = b := by rw [← HB.out]; simp
    go_wp2_with (first | (go_skip) | fail)
    go_ret
    exact ⟨rfl, BC.out⟩
  by_cases hz : bz.size ≤ 1000
  · have g0 : (bz.size : Int) ≤ 1000 := by omega
    have g1 : decide ((bz.size : Int) ≤ 1000) = true := decide_eq_true g0
    obtain rfl : true = b := by rw [← HB.out, decide_eq_true hz]; rfl
    clear hz
    go_wp2_with (first | (go_skip) | fail)
    go_ret
    exact ⟨rfl, BC.out⟩
  · have g0 : ¬ (bz.size : Int) ≤ 1000 := by omega
    have g1 : decide ((bz.size : Int) ≤ 1000) = false := decide_eq_false g0
    obtain rfl : false = b := by rw [← HB.out, decide_eq_false hz]; rfl
    clear hz
    go_wp2_with (first | (go_skip) | fail)
    go_ret
    exact ⟨rfl, BC.out⟩

end Go.Proofs.Ytloogjdojojehaa
namespace Go.Proofs.Ytloogjdojojehaa
open Go.RowKit
set_option linter.unusedVariables false

/-- a whole message is read so -/
def decK (s : List Nat) : Except Nat (MsgM × List Nat) :=
  thenP (msgK2 s) fun m r => if r.length = 0 then (if msgMay m then .ok (m, r) else .error 1) else .error 42
theorem decK_is (s : List Nat) : decM s = match decK s with
    | .error e => .error e
    | .ok z => .ok z.1 := by
  rw [decM_is, msgK2_is]
  unfold decK
  rcases msgK2 s with e | ⟨m, r⟩
  · rfl
  simp only [then_ok]
  split
  · split <;> rfl
  · rfl
theorem msg_facts {s r : List Nat} {m : MsgM} (hs : Bys s) (h : msgK2 s = .ok (m, r)) : MsgRead m ∧ Bys r ∧ s = msgE m ++ r := by
  rw [← msgK2_is, ← msgK_is] at h
  have hf := msgT_codes.from_ s m r hs h
  exact ⟨hf.1, msgT_codes.rest hs h, hf.2⟩
theorem log_getD {m : MsgM} {i : Nat} (hi : i < (msgU m).log.length) : ∃ r ∈ m.log, (msgU m).log.getD i noQ = reqU r := by
  have hi' : i < m.log.length := by simpa [msgU] using hi
  refine ⟨m.log[i], List.getElem_mem hi', ?_⟩
  simp [msgU, hi']
theorem msgS_of {m : MsgM} (h : MsgRead m) (hb : m.block.length ≤ 1000000) : MsgS (msgU m) := by
  obtain ⟨h1, h2, h3, h4, h5, h6, h7, ⟨h8, h8b⟩, h9, h10, h11, ⟨h12, h12b⟩, h13, h14, h15⟩ := h
  refine ⟨?_, fun i hi => ?_, ?_, verS_of h13, ?_⟩
  · show (m.log.map reqU).length ≤ 1000000
    rw [List.length_map]
    omega
  · obtain ⟨r, hr, e⟩ := log_getD hi
    rw [e]
    exact verS_raw (h8b r hr).2.2.2.2.2.2
  · show m.ids.length ≤ 1000000
    omega
  · show (tx m.block).size ≤ 1000000
    rw [tx_size]
    exact hb
/-- whether a message that was read may be -/
theorem may_msgU {m : MsgM} (h : MsgRead m) : msgMayR (msgU m) = msgMay m := by
  obtain ⟨h1, h2, h3, h4, h5, h6, h7, ⟨h8, h8b⟩, h9, h10, h11, ⟨h12, h12b⟩, h13, h14, h15⟩ := h
  have hall : (m.log.map reqU).all mayBeR = true := by
    rw [List.all_eq_true]
    intro x hx
    obtain ⟨r, hr, rfl⟩ := List.mem_map.1 hx
    exact reqU_may (h8b r hr)
  have hm := may_raw h13
  have e2 : ∀ k : Nat, endM2 (k : Int) = endM k := fun k => by
    unfold endM2 endM
    rw [Bool.eq_iff_iff]
    simp only [Bool.or_eq_true, Bool.and_eq_true, decide_eq_true_eq]
    omega
  unfold msgMayR msgMay msgU
  dsimp only
  rw [hall, hm, e2, e2, List.length_map, tx_size, Bool.eq_iff_iff]
  simp only [Bool.and_eq_true, decide_eq_true_eq, and_true]
  constructor
  · rintro ⟨⟨⟨⟨⟨⟨⟨⟨⟨a1, a2⟩, a3⟩, a4⟩, a5⟩, a6⟩, a7⟩, a8⟩, a9⟩, a10⟩
    exact ⟨⟨⟨⟨⟨⟨⟨⟨by omega, by omega⟩, a2⟩, a3⟩, by omega⟩, by omega⟩, by omega⟩, by omega⟩, a10⟩
  · rintro ⟨⟨⟨⟨⟨⟨⟨⟨a1, a1b⟩, a2⟩, a3⟩, a4⟩, a5⟩, a6⟩, a7⟩, a8⟩
    exact ⟨⟨⟨⟨⟨⟨⟨⟨⟨⟨by omega, by omega⟩, a2⟩, a3⟩, ⟨by omega, by omega⟩⟩, ⟨by omega, by omega⟩⟩, h8⟩, ⟨by omega, by omega⟩⟩, ⟨by omega, by omega⟩⟩, h12⟩, a8⟩
set_option maxRecDepth 100000 in
set_option maxHeartbeats 4000000 in
theorem w_decode1 (B : Nat) (s0 : List Nat) (w : World) (hB : Left w B s0) (hs : Bys s0) (hl : s0.length ≤ 65536) :
    Calls Try.prog 26 #[.pointer (some ⟨B, 0, none⟩)] w (StP (decK s0) (fun a w' v => MO w' w.heap.size v (msgU a)) w B) := by
  obtain ⟨X, hX⟩ : ∃ X, decK s0 = X := ⟨_, rfl⟩
  rw [hX]
  unfold decK at hX
  have HX0 := Lib.hid hX
  have S0 := Lib.hid hs
  obtain ⟨N, hN⟩ : ∃ N, w.heap.size = N := ⟨_, rfl⟩
  have k0 := Blk.newAt w N hN 36 (c := zM.toArray) zM rfl
  have b0 := (Below.refl w.heap.size w).alloc (Nat.le_refl _) (.cells zM.toArray 36)
  obtain ⟨w1, hw1⟩ : ∃ w1, w.alloc (.cells zM.toArray 36) = w1 := ⟨_, rfl⟩
  rw [hw1] at k0 b0
  have z1 : w1.heap.size = N + 1 := by rw [← hw1]; simp [hN]
  have HM := Lib.hid (w_msg B s0 w1 (hB.keep b0) hs hl)
  have HLT := Lib.hid (show B < N by rw [← hN]; exact hB.lt)
  have K0 := Lib.hid k0
  have B0 := Lib.hid b0
  have HN := Lib.hid hN
  have HW1 := Lib.hid hw1
  have HZ1 := Lib.hid z1
  have HL := Lib.hid hl
  have HOK := Lib.hid w_need_ok
  have HNO := Lib.hid w_need_no
  clear hB hX k0 b0 hw1 z1 hs hl hN
  go_enter Try.func26, Try.ntmps26
  go_wp2_with (refine wpList_alloc_n rfl 36 rfl N HN.out zM.toArray (alloc_msg _) ?_; rw [HW1.out])
  refine HM.out.mono ?_
  rintro e w2 ⟨hg, hok, hno⟩
  rcases hx : msgK2 s0 with er | ⟨m, r⟩
  · obtain rfl := hno er hx
    have q := HX0.out
    rw [hx, then_err] at q
    subst q
    exact ⟨rfl, StP.no (((grown_below B0.out).but (some B)).trans hg)⟩
  obtain ⟨v, rfl, hv, hL⟩ := hok m r hx
  have q := HX0.out
  rw [hx, then_ok] at q
  have HX1 := Lib.hid q
  have F1 := Lib.hid (msg_facts S0.out hx)
  obtain ⟨CS, rfl, hCl, hCo⟩ := msg_cells hv.told
  obtain ⟨M, hM⟩ : ∃ M, w2.heap.size = M := ⟨_, rfl⟩
  have k2 := Blk.newAt w2 M hM 36 (c := zM.toArray) zM rfl
  have b3 := below_setRow ((Below.refl w2.heap.size w2).alloc (Nat.le_refl _) (.cells zM.toArray 36)) (show w2.heap.size ≤ M by omega) CS.toArray
  have k0 := (K0.out.grownO hg (fun i e => by cases e; have := HLT.out; omega))
  have z2 : N + 1 ≤ w2.heap.size := by rw [← HZ1.out]; exact hg.size
  have K2 := Lib.hid k2
  have K3 := Lib.hid (k2.row CS (by rw [hCl]; rfl))
  have K03 := Lib.hid (k0.below b3 k0.lt)
  have V3 := Lib.hid ((hv.lower (Nat.le_of_eq HZ1.out.symm)).keep b3)
  have L3 := Lib.hid (hL.keep b3)
  have G3 := Lib.hid (grown_belowN (((grown_below B0.out).but (some B)).trans hg) b3)
  have HM2 := Lib.hid hM
  have HCL := Lib.hid hCl
  have HCO := Lib.hid hCo
  obtain ⟨w3, hw3⟩ : ∃ w3, (w2.alloc (.cells zM.toArray 36)).setRow M CS.toArray = w3 := ⟨_, rfl⟩
  rw [hw3] at K3 K03 V3 L3 G3
  have HW3 := Lib.hid hw3
  have c3 := L3.out.cell
  have f3 := L3.out.free
  clear hg hok hno hx q hv hL hCl hCo k2 b3 k0 z2 hM hw3 HM HX0 K0 B0
  by_cases hr : r.length = 0
  case neg =>
    have q := HX1.out
    rw [if_neg hr] at q
    subst q
    have t1 := tx_some (t := tx r) (by rw [tx_size]; exact hr)
    clear hr
    generalize tx r = T at *
    go_wp2_with (first | (refine wpList_alloc_n rfl 36 rfl M HM2.out zM.toArray (alloc_msg _) ?_) | (refine wpList_store_blk rfl 36 _ _ rfl M CS rfl rfl K2.out (by rw [size_msg, HCL.out]) (by rw [HCL.out]; rfl) HCO.out ?_; rw [HW3.out]))
    refine (HNO.out 42 _).mono ?_
    rintro e wx ⟨rfl, rfl⟩
    exact ⟨rfl, StP.no G3.out⟩
  have q := HX1.out
  rw [if_pos hr] at q
  have HX2 := Lib.hid q
  have t1 := tx_none (t := tx r) (by rw [tx_size]; exact hr)
  have hbl : m.block.length ≤ 1000000 := by
    have h1 := congrArg List.length F1.out.2.2
    unfold msgE at h1
    simp only [List.length_append] at h1
    have := HL.out
    omega
  have HMM := Lib.hid (may_msgU F1.out.1)
  have HMY := Lib.hid (fun (b : Bool) (h : msgMayR (msgU m) = b) => w_May (msgU m) (.agg CS.toArray) b w3 h V3.out.told (msgS_of F1.out.1 hbl))
  clear q hr HX1 hbl
  obtain ⟨T, hT⟩ : ∃ T, tx r = T := ⟨_, rfl⟩
  rw [hT] at c3 t1
  clear hT
  go_wp2_with (first | (refine wpList_alloc_n rfl 36 rfl M HM2.out zM.toArray (alloc_msg _) ?_) | (refine wpList_store_blk rfl 36 _ _ rfl M CS rfl rfl K2.out (by rw [size_msg, HCL.out]) (by rw [HCL.out]; rfl) HCO.out ?_; rw [HW3.out]))
  refine (HOK.out _ _).mono ?_
  rintro e wx ⟨rfl, rfl⟩
  go_wp2_with (refine wpList_load_blkW rfl 36 _ rfl M rfl K3.out Try.underlying36 rfl (by rw [size_msg, HCL.out]) ?_)
  by_cases hm : msgMay m = true
  · have q := HX2.out
    rw [if_pos hm] at q
    subst q
    have HC := Lib.hid (HMY.out true (by rw [HMM.out]; exact hm))
    clear hm
    refine HC.out.mono ?_
    rintro e w4 ⟨rfl, b4⟩
    have K4 := Lib.hid (K3.out.below b4 K3.out.lt)
    have K04 := Lib.hid (K03.out.below b4 K03.out.lt)
    have hlt := HLT.out
    have G5 := Lib.hid (grown_setRowN (grown_belowN G3.out b4) (show w.heap.size ≤ N by have := HN.out; omega) CS.toArray)
    have L5 := Lib.hid ((L3.out.keep b4).rowOther (show N ≠ B by omega) CS.toArray)
    have V5 : Hid (MO (w4.setRow N CS.toArray) w.heap.size (.agg CS.toArray) (msgU m)) := Lib.hid (((V3.out.keep b4).row (Nat.lt_succ_self N) CS.toArray).lower (by have := HN.out; omega))
    clear b4 c3 f3 hlt
    go_wp2_with fail
    refine (HOK.out _ _).mono ?_
    rintro e wx ⟨rfl, rfl⟩
    go_wp2_with (first | (refine wpList_load_blkW rfl 36 _ rfl M rfl K4.out Try.underlying36 rfl (by rw [size_msg, HCL.out]) ?_) | (refine wpList_store_blk rfl 36 _ _ rfl N CS rfl rfl K04.out (by rw [size_msg, HCL.out]) (by rw [HCL.out]; rfl) HCO.out ?_))
    refine bodyPost_ret (v := .agg CS.toArray) (results_cell_blk rfl _ _ _ rfl (K04.out.row CS (by rw [HCL.out]; rfl)) Try.underlying36 rfl (by rw [size_msg, HCL.out])) rfl (StP.ok G5.out V5.out L5.out)
  · have q := HX2.out
    rw [if_neg hm] at q
    subst q
    have HC := Lib.hid (HMY.out false (by rw [HMM.out]; simpa using hm))
    clear hm
    refine HC.out.mono ?_
    rintro e w4 ⟨rfl, b4⟩
    have G4 := Lib.hid (grown_belowN G3.out b4)
    clear b4 c3 f3
    go_wp2_with fail
    refine (HNO.out 1 _).mono ?_
    rintro e wx ⟨rfl, rfl⟩
    exact ⟨rfl, StP.no G4.out⟩
/-! ### Decode, GetRequest -/
def msgZ : MsgU := ⟨0, 0, 0, 0, 0, 0, 0, [], 0, 0, 0, [], noV, zerN 32, ⟨#[]⟩⟩
theorem zM_told (w : World) : MsgTold w (.agg zM.toArray) msgZ := ⟨.slice none 0 0, .slice none 0 0, zV, rfl, ⟨_, _, rfl⟩, ⟨[], Sl.none 8, rfl, fun i h => by cases h⟩, ⟨_, _, rfl⟩, Sl.none 1, VV.none w, zerN_len 32, Bys.of (l := zerN 32) fun x hx => by rw [zerN] at hx; rw [List.eq_of_mem_replicate hx]; decide⟩
/-- what Decode gives back -/
def DeM (X : Except Nat MsgM) (w : World) (e : Ending) (w' : World) : Prop :=
  ∃ v er, e = .returned (.tuple #[v, .int .i64 ((er : Nat) : Int)]) ∧ Below w.heap.size w w' ∧ (∀ m, X = .ok m → er = 0 ∧ MsgTold w' v (msgU m)) ∧ (∀ e', X = .error e' → er = e' ∧ v = .agg zM.toArray)
theorem nz_decK {s : List Nat} {e : Nat} (h : decK s = .error e) : e ≠ 0 := by
  unfold decK at h
  rw [← msgK2_is, ← msgK_is] at h
  have hz : NoZero (mapP msgOf msgTP) := fun s e he => by
    rw [map_then] at he
    cases h1 : msgTP s with
    | error er =>
      rw [h1] at he
      cases he
      have hnc : ∀ {α : Type} {p : List Nat → Except Nat (α × List Nat)} (hp : NoZero p) (n er : Nat), er ≠ 0 → NoZero (countB p n er) := fun hp n er h0 => nz_dep (nz_guard (nz_fix 1) _ er h0) fun a => nz_many hp a
      exact (nz_pair (nz_fix 1) (nz_pair (nz_fix 1) (nz_pair (nz_fix 1) (nz_pair (nz_fix 4) (nz_pair (nz_fix 4) (nz_pair (nz_fix 1) (nz_pair (nz_fix 1) (nz_pair (hnc nz_reqP 40 111 (by decide)) (nz_pair (nz_fix 1) (nz_pair (nz_fix 4) (nz_pair (nz_fix 2) (nz_pair (hnc (nz_fix 4) 8 111 (by decide)) (nz_pair nz_ver (nz_pair (nz_raw 32) nz_text)))))))))))))) s _ h1
    | ok x => rw [h1] at he; cases he
  cases h1 : mapP msgOf msgTP s with
  | error er => rw [h1] at h; cases h; exact hz s _ h1
  | ok x =>
    obtain ⟨m, r⟩ := x
    rw [h1, then_ok] at h
    split at h
    · split at h
      · cases h
      · cases h; decide
    · cases h; decide
set_option maxRecDepth 100000 in
set_option maxHeartbeats 4000000 in
theorem w_Decode (s : List Nat) (w : World) (hs : Bys s) (hl : s.length ≤ 65536) :
    Calls Try.prog 13 #[.string (tx s)] w (DeM (decM s) w) := by
  obtain ⟨N, hN⟩ : ∃ N, w.heap.size = N := ⟨_, rfl⟩
  have k0 := Blk.newAt w N hN 36 (c := zM.toArray) zM rfl
  have b0 := (Below.refl w.heap.size w).alloc (Nat.le_refl _) (.cells zM.toArray 36)
  obtain ⟨w1, hw1⟩ : ∃ w1, w.alloc (.cells zM.toArray 36) = w1 := ⟨_, rfl⟩
  rw [hw1] at k0 b0
  have z1 : w1.heap.size = N + 1 := by rw [← hw1]; simp [hN]
  have HR := Lib.hid (w_readM s w1 (decK s) (fun wx B h => w_decode1 B s wx h hs hl))
  have K0 := Lib.hid k0
  have B0 := Lib.hid b0
  have HN := Lib.hid hN
  have HW1 := Lib.hid hw1
  have HZ1 := Lib.hid z1
  have HD := Lib.hid (decK_is s)
  clear k0 b0 hw1 z1 hs hl hN
  obtain ⟨Y, hY⟩ : ∃ Y, decM s = Y := ⟨_, rfl⟩
  rw [hY] at HD ⊢
  clear hY
  generalize tx s = S at *
  go_enter Try.func13, Try.ntmps13
  go_wp2_with (refine wpList_alloc_n rfl 36 rfl N HN.out zM.toArray (alloc_msg _) ?_; rw [HW1.out])
  refine HR.out.mono ?_
  rintro e w2 ⟨b2, hok, hno⟩
  obtain ⟨CS, T, er, rfl, hCl, hCo, hfin⟩ : ∃ (CS : List Value) (T : ByteArray) (er : Nat), e = .returned (.tuple #[.agg CS.toArray, .string T, .int .i64 (er : Int)]) ∧ CS.length = 49 ∧ CS.toArray.all (·.oneCell') = true ∧ ((∀ m, Y = .ok m → er = 0 ∧ MO w2 (N + 1) (.agg CS.toArray) (msgU m)) ∧ (∀ e', Y = .error e' → er = e' ∧ CS = zM)) := by
    rcases hx : decK s with er | ⟨m, r⟩
    · have hd := HD.out
      rw [hx] at hd
      obtain ⟨R', e', h1, h2⟩ := msg_cells (zM_told w2)
      have e2 := congrArg (fun v => match v with | Value.agg c => c.toList | _ => []) e'
      simp only at e2
      exact ⟨zM, _, er, hno er hx, by rw [e2]; exact h1, by rw [e2]; exact h2, (fun m h => by rw [hd] at h; cases h), fun e'' h => by rw [hd] at h; cases h; exact ⟨rfl, rfl⟩⟩
    · have hd := HD.out
      rw [hx] at hd
      obtain ⟨v, e1, hv⟩ := hok m r hx
      obtain ⟨CS, rfl, h1, h2⟩ := msg_cells hv.told
      exact ⟨CS, _, 0, e1, h1, h2, (fun m' h => by rw [hd] at h; cases h; exact ⟨rfl, hv.lower (Nat.le_of_eq HZ1.out.symm)⟩), fun e'' h => by rw [hd] at h; cases h⟩
  obtain ⟨M, hM⟩ : ∃ M, w2.heap.size = M := ⟨_, rfl⟩
  have k2 := Blk.newAt w2 M hM 36 (c := zM.toArray) zM rfl
  have b3 := below_setRow ((Below.refl w2.heap.size w2).alloc (Nat.le_refl _) (.cells zM.toArray 36)) (show w2.heap.size ≤ M by omega) CS.toArray
  obtain ⟨w3, hw3⟩ : ∃ w3, (w2.alloc (.cells zM.toArray 36)).setRow M CS.toArray = w3 := ⟨_, rfl⟩
  rw [hw3] at b3
  have K2 := Lib.hid k2
  have K3 : Hid (Blk w3 M 36 CS) := Lib.hid (by rw [← hw3]; exact k2.row CS (by rw [hCl]; rfl))
  have K03 := Lib.hid ((K0.out.below b2 K0.out.lt).below b3 (K0.out.below b2 K0.out.lt).lt)
  have B3 := Lib.hid (B0.out.trans ((b2.trans (b3.mono b2.size)).mono B0.out.size))
  have HF3 : Hid ((∀ m, Y = .ok m → er = 0 ∧ MsgTold (w3.setRow N CS.toArray) (.agg CS.toArray) (msgU m)) ∧ (∀ e', Y = .error e' → er = e' ∧ Value.agg CS.toArray = .agg zM.toArray)) := Lib.hid
    ⟨fun m h => ⟨(hfin.1 m h).1, (((hfin.1 m h).2.keep b3).row (Nat.lt_succ_self N) CS.toArray).told⟩, fun e' h => ⟨(hfin.2 e' h).1, by rw [(hfin.2 e' h).2]⟩⟩
  have HM2 := Lib.hid hM
  have HCL := Lib.hid hCl
  have HCO := Lib.hid hCo
  have HW3 := Lib.hid hw3
  have B4 := Lib.hid (below_setRow B3.out (show w.heap.size ≤ N by have := HN.out; omega) CS.toArray)
  clear b2 hok hno hCl hCo hfin k2 b3 hM hw3 HD HR
  go_wp2_with (first | (refine wpList_alloc_n rfl 36 rfl M HM2.out zM.toArray (alloc_msg _) ?_) | (refine wpList_store_blk rfl 36 _ _ rfl M CS rfl rfl K2.out (by rw [size_msg, HCL.out]) (by rw [HCL.out]; rfl) HCO.out ?_; rw [HW3.out]) | (refine wpList_load_blkW rfl 36 _ rfl M rfl K3.out Try.underlying36 rfl (by rw [size_msg, HCL.out]) ?_) | (refine wpList_store_blk rfl 36 _ _ rfl N CS rfl rfl K03.out (by rw [size_msg, HCL.out]) (by rw [HCL.out]; rfl) HCO.out ?_))
  refine bodyPost_ret (v := .tuple #[.agg CS.toArray, .int .i64 (er : Int)]) (results_cell_tmp rfl _ _ _ rfl (.int .i64 (er : Int)) rfl (K03.out.row CS (by rw [HCL.out]; rfl)) Try.underlying36 rfl (by rw [size_msg, HCL.out])) rfl ⟨_, er, rfl, B4.out, HF3.out⟩
/-- what GetRequest gives back -/
def GeQ (X : Except Nat (ReqM × List Nat)) (w : World) (e : Ending) (w' : World) : Prop :=
  ∃ v t er, e = .returned (.tuple #[v, .string t, .int .i64 ((er : Nat) : Int)]) ∧ Below w.heap.size w w' ∧ (∀ r s, X = .ok (r, s) → er = 0 ∧ t = tx s ∧ ReqTold w' v (reqU r)) ∧ (∀ e', X = .error e' → er = e' ∧ t = ⟨#[]⟩ ∧ v = .agg zQ.toArray)
theorem zQ_told (w : World) : ReqTold w (.agg zQ.toArray) noQ := ⟨zV, rfl, VV.none w⟩
set_option maxRecDepth 100000 in
set_option maxHeartbeats 4000000 in
theorem w_GetRequest (s : List Nat) (w : World) (hs : Bys s) (hl : s.length ≤ 65536) :
    Calls Try.prog 10 #[.string (tx s)] w (GeQ (reqP s) w) := by
  obtain ⟨N, hN⟩ : ∃ N, w.heap.size = N := ⟨_, rfl⟩
  have k0 := Blk.newAt w N hN 40 (c := zQ.toArray) zQ rfl
  have b0 := (Below.refl w.heap.size w).alloc (Nat.le_refl _) (.cells zQ.toArray 40)
  obtain ⟨w1, hw1⟩ : ∃ w1, w.alloc (.cells zQ.toArray 40) = w1 := ⟨_, rfl⟩
  rw [hw1] at k0 b0
  have z1 : w1.heap.size = N + 1 := by rw [← hw1]; simp [hN]
  have HR := Lib.hid (w_readQ s w1 (reqP s) (fun wx B h => w_request B s wx h hs hl))
  have K0 := Lib.hid k0
  have B0 := Lib.hid b0
  have HN := Lib.hid hN
  have HW1 := Lib.hid hw1
  have HZ1 := Lib.hid z1
  clear k0 b0 hw1 z1 hs hl hN
  obtain ⟨Y, hY⟩ : ∃ Y, reqP s = Y := ⟨_, rfl⟩
  rw [hY] at HR ⊢
  clear hY
  generalize tx s = S at *
  go_enter Try.func10, Try.ntmps10
  go_wp2_with (refine wpList_alloc_n rfl 40 rfl N HN.out zQ.toArray (alloc_req _) ?_; rw [HW1.out])
  refine HR.out.mono ?_
  rintro e w2 ⟨b2, hok, hno⟩
  obtain ⟨CS, T, er, rfl, hCl, hCo, hfin⟩ : ∃ (CS : List Value) (T : ByteArray) (er : Nat), e = .returned (.tuple #[.agg CS.toArray, .string T, .int .i64 (er : Int)]) ∧ CS.length = 8 ∧ CS.toArray.all (·.oneCell') = true ∧ ((∀ r s, Y = .ok (r, s) → er = 0 ∧ T = tx s ∧ QO w2 (N + 1) (.agg CS.toArray) (reqU r)) ∧ (∀ e', Y = .error e' → er = e' ∧ T = ⟨#[]⟩ ∧ CS = zQ)) := by
    rcases Y with er | ⟨r, t⟩
    · exact ⟨zQ, _, er, hno er rfl, rfl, by simp [zQ, cellsQ, cellsO, zV, cellsV, Value.oneCell'], (fun r s h => by cases h), fun e'' h => by cases h; exact ⟨rfl, rfl, rfl⟩⟩
    · obtain ⟨v, e1, hv⟩ := hok r t rfl
      obtain ⟨CS, rfl, h1, h2⟩ := QO.cells hv
      exact ⟨CS, _, 0, e1, h1, h2, (fun r' s' h => by cases h; exact ⟨rfl, rfl, hv.lower (Nat.le_of_eq HZ1.out.symm)⟩), fun e'' h => by cases h⟩
  have k2 := K0.out.below b2 K0.out.lt
  have K2 := Lib.hid k2
  have B3 := Lib.hid (below_setRow (B0.out.trans (b2.mono B0.out.size)) (show w.heap.size ≤ N by have := HN.out; omega) CS.toArray)
  have HF3 : Hid ((∀ r s, Y = .ok (r, s) → er = 0 ∧ T = tx s ∧ ReqTold (w2.setRow N CS.toArray) (.agg CS.toArray) (reqU r)) ∧ (∀ e', Y = .error e' → er = e' ∧ T = ⟨#[]⟩ ∧ Value.agg CS.toArray = .agg zQ.toArray)) := Lib.hid
    ⟨fun r s h => ⟨(hfin.1 r s h).1, (hfin.1 r s h).2.1, ((hfin.1 r s h).2.2.row (Nat.lt_succ_self N) CS.toArray).told⟩, fun e' h => ⟨(hfin.2 e' h).1, (hfin.2 e' h).2.1, by rw [(hfin.2 e' h).2.2]⟩⟩
  have HCL := Lib.hid hCl
  have HCO := Lib.hid hCo
  clear b2 hok hno hCl hCo hfin k2 HR
  go_wp2_with (refine wpList_store_blk rfl 40 _ _ rfl N CS rfl rfl K2.out (by rw [size_req, HCL.out]) (by rw [HCL.out]; rfl) HCO.out ?_)
  refine bodyPost_ret (v := .tuple #[.agg CS.toArray, .string T, .int .i64 (er : Int)]) (results_cell_tmp2 rfl _ _ _ rfl (.string T) (.int .i64 (er : Int)) rfl rfl (K2.out.row CS (by rw [HCL.out]; rfl)) Try.underlying40 rfl (by rw [size_req, HCL.out])) rfl ⟨_, T, er, rfl, B3.out, HF3.out⟩
end Go.Proofs.Ytloogjdojojehaa
