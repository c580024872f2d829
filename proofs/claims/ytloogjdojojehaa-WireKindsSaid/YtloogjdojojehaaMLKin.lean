/-
  For all six numbers: May, Encode's error and whether Encode gives bytes all answer as the document's bounds do; the case shown. No condition.
-/
import Derived.Test.YtloogjdojojehaaRows
import Derived.Test.YtloogjdojojehaaMKi
import Derived.Deep.DeepCutAuto
namespace Go.Proofs.Ytloogjdojojehaa.wireKinds
open Go.ChangeShapes Go.WideShapes Go.ChangeAt Go.RowKit
set_option linter.unusedVariables false
set_option maxHeartbeats 8000000 in
set_option maxRecDepth 100000 in
theorem walk (k f t n c l : Int) (h0 : (Lit.int .i64 k).wf = true) (h1 : (Lit.int .i64 f).wf = true) (h2 : (Lit.int .i64 t).wf = true) (h3 : (Lit.int .i64 n).wf = true) (h4 : (Lit.int .i64 c).wf = true) (h5 : (Lit.int .i64 l).wf = true) (w : World) :
    Calls Try.prog 5 #[.int .i64 k, .int .i64 f, .int .i64 t, .int .i64 n, .int .i64 c, .int .i64 l] w fun e w' => e = .returned (.bool true) ∧ Below w.heap.size w w' := by
  have hin := kin_in h0 h1 h2 h3 h4 h5
  clear h0 h1 h2 h3 h4 h5
  obtain ⟨b, hb⟩ : ∃ b, msgMayR (kin k f t n c l) = b := ⟨_, rfl⟩
  obtain ⟨y, er, hy1, hy2, hy3⟩ := enc_any _ hin (kin_S k f t n c l) (kin_hash k f t n c l)
  obtain ⟨C, hC⟩ : ∃ C, cK k f t n c l = C := ⟨_, rfl⟩
  have hCl : C.length = 49 := by rw [← hC]; exact mC_len k f t 0 0 n c (.slice none 0 0) l 0 ⟨#[]⟩ (rp := zR6) (h := zH32) rfl (by unfold zH32; rw [ints_length, nn_length, zerN_len])
  have hCo : C.toArray.all (·.oneCell') = true := by
    obtain ⟨R, e1, -, e3⟩ := msg_cells (cK_told k f t n c l w)
    have e2 := congrArg (fun v => match v with | Value.agg c => c.toList | _ => []) e1
    simp only at e2
    rw [← hC, e2]; exact e3
  have hT : ∀ wx, MsgTold wx (.agg C.toArray) (kin k f t n c l) := fun wx => by rw [← hC]; exact cK_told k f t n c l wx
  have hBu : ∀ wx : World, (Instr.build 36 #[(0, .int .i64 k), (1, .int .i64 f), (2, .int .i64 t), (5, .int .i64 n), (6, .int .i64 c), (8, .int .i64 l)]).run Try.prog wx = .ok (.agg C.toArray) wx := fun wx => by rw [← hC]; exact build_kin k f t n c l wx
  have hY := fun wx => hy1 (.agg C.toArray) wx (hT wx)
  have hM := fun wx => w_May (kin k f t n c l) (.agg C.toArray) b wx hb (hT wx) (kin_S k f t n c l)
  have hi := kin_may k f t n c l
  rw [hb] at hi hy2 hy3
  obtain ⟨bf, hbf⟩ : ∃ b, endM2 f = b := ⟨_, rfl⟩
  obtain ⟨bt, hbt⟩ : ∃ b, endM2 t = b := ⟨_, rfl⟩
  have HF := Lib.hid (fun wx => kin_end f bf wx hbf)
  have HT := Lib.hid (fun wx => kin_end t bt wx hbt)
  rw [hbf, hbt] at hi
  have k0 := Blk.newAt w w.heap.size rfl 36 (c := zM.toArray) zM rfl
  have b1 := below_setRow ((Below.refl w.heap.size w).alloc (Nat.le_refl _) (.cells zM.toArray 36)) (Nat.le_refl _) C.toArray
  obtain ⟨w1, hw1⟩ : ∃ w1, (w.alloc (.cells zM.toArray 36)).setRow w.heap.size C.toArray = w1 := ⟨_, rfl⟩
  have k1 : Blk w1 w.heap.size 36 C := by rw [← hw1]; exact k0.row C (by rw [hCl]; rfl)
  rw [hw1] at b1
  have K0 := Lib.hid k0
  have K1 := Lib.hid k1
  have B1 := Lib.hid b1
  have HW1 := Lib.hid hw1
  have HCL := Lib.hid hCl
  have HCO := Lib.hid hCo
  have HBU := Lib.hid hBu
  have HY := Lib.hid hY
  have HY2 := Lib.hid hy2
  have HY3 := Lib.hid hy3
  have HM := Lib.hid hM
  have HI := Lib.hid hi
  have HSh := Lib.hid l18_shown
  clear hin hb hy1 hy2 hy3 hC hCl hCo hT hBu hY hM hi hbf hbt k0 k1 b1 hw1
  go_enter Try.func5, Try.ntmps5
  go_upto_region 3 with (first | (go_skip) | (refine wpList_build_at rfl 36 _ rfl (.agg C.toArray) (by first | exact HBU.out _ | (simp only [List.map_toArray, List.map_cons, List.map_nil]; exact HBU.out _)) ?_) | (refine wpList_alloc_n rfl 36 rfl w.heap.size rfl zM.toArray (alloc_msg _) ?_) | (refine wpList_store_blk rfl 36 _ _ rfl w.heap.size C rfl rfl K0.out (by rw [size_msg, HCL.out]) (by rw [HCL.out]; rfl) HCO.out ?_; rw [HW1.out]))
  go_cut [15] (fun s wx => s = .bool b ∧ wx = w1)
  case first =>
    by_cases q0 : (1 : Int) ≤ k
    rotate_left
    · obtain rfl : false = b := by
        cases b with
        | false => rfl
        | true => exact absurd (HI.out.1 rfl).1.1 q0
      have g0 := decide_eq_false q0
      go_wp2_with (first | (go_skip) | fail)
      go_meet
      case rel => exact ⟨rfl, rfl⟩
    have g0 := decide_eq_true q0
    by_cases q1 : k ≤ 14
    rotate_left
    · obtain rfl : false = b := by
        cases b with
        | false => rfl
        | true => exact absurd (HI.out.1 rfl).1.2 q1
      have g1 := decide_eq_false q1
      go_wp2_with (first | (go_skip) | fail)
      go_meet
      case rel => exact ⟨rfl, rfl⟩
    have g1 := decide_eq_true q1
    cases bf with
    | false =>
      obtain rfl : false = b := by
        cases b with
        | false => rfl
        | true => exact absurd (HI.out.1 rfl).2.1 (by decide)
      go_wp2_with (first | (go_skip) | fail)
      refine (HF.out _).mono ?_
      rintro e wz ⟨rfl, rfl⟩
      go_wp2_with (first | (go_skip) | fail)
      go_meet
      case rel => exact ⟨rfl, rfl⟩
    | true =>
    cases bt with
    | false =>
      obtain rfl : false = b := by
        cases b with
        | false => rfl
        | true => exact absurd (HI.out.1 rfl).2.2.1 (by decide)
      go_wp2_with (first | (go_skip) | fail)
      refine (HF.out _).mono ?_
      rintro e wz ⟨rfl, rfl⟩
      go_wp2_with (first | (go_skip) | fail)
      refine (HT.out _).mono ?_
      rintro e wz ⟨rfl, rfl⟩
      go_wp2_with (first | (go_skip) | fail)
      go_meet
      case rel => exact ⟨rfl, rfl⟩
    | true =>
    by_cases q4 : (0 : Int) ≤ n
    rotate_left
    · obtain rfl : false = b := by
        cases b with
        | false => rfl
        | true => exact absurd (HI.out.1 rfl).2.2.2.1.1 q4
      have g4 := decide_eq_false q4
      go_wp2_with (first | (go_skip) | fail)
      refine (HF.out _).mono ?_
      rintro e wz ⟨rfl, rfl⟩
      go_wp2_with (first | (go_skip) | fail)
      refine (HT.out _).mono ?_
      rintro e wz ⟨rfl, rfl⟩
      go_wp2_with (first | (go_skip) | fail)
      go_meet
      case rel => exact ⟨rfl, rfl⟩
    have g4 := decide_eq_true q4
    by_cases q5 : n ≤ 40
    rotate_left
    · obtain rfl : false = b := by
        cases b with
        | false => rfl
        | true => exact absurd (HI.out.1 rfl).2.2.2.1.2 q5
      have g5 := decide_eq_false q5
      go_wp2_with (first | (go_skip) | fail)
      refine (HF.out _).mono ?_
      rintro e wz ⟨rfl, rfl⟩
      go_wp2_with (first | (go_skip) | fail)
      refine (HT.out _).mono ?_
      rintro e wz ⟨rfl, rfl⟩
      go_wp2_with (first | (go_skip) | fail)
      go_meet
      case rel => exact ⟨rfl, rfl⟩
    have g5 := decide_eq_true q5
    by_cases q6 : (0 : Int) ≤ c
    rotate_left
    · obtain rfl : false = b := by
        cases b with
        | false => rfl
        | true => exact absurd (HI.out.1 rfl).2.2.2.2.1.1 q6
      have g6 := decide_eq_false q6
      go_wp2_with (first | (go_skip) | fail)
      refine (HF.out _).mono ?_
      rintro e wz ⟨rfl, rfl⟩
      go_wp2_with (first | (go_skip) | fail)
      refine (HT.out _).mono ?_
      rintro e wz ⟨rfl, rfl⟩
      go_wp2_with (first | (go_skip) | fail)
      go_meet
      case rel => exact ⟨rfl, rfl⟩
    have g6 := decide_eq_true q6
    by_cases q7 : c ≤ 40
    rotate_left
    · obtain rfl : false = b := by
        cases b with
        | false => rfl
        | true => exact absurd (HI.out.1 rfl).2.2.2.2.1.2 q7
      have g7 := decide_eq_false q7
      go_wp2_with (first | (go_skip) | fail)
      refine (HF.out _).mono ?_
      rintro e wz ⟨rfl, rfl⟩
      go_wp2_with (first | (go_skip) | fail)
      refine (HT.out _).mono ?_
      rintro e wz ⟨rfl, rfl⟩
      go_wp2_with (first | (go_skip) | fail)
      go_meet
      case rel => exact ⟨rfl, rfl⟩
    have g7 := decide_eq_true q7
    by_cases q8 : (0 : Int) ≤ l
    rotate_left
    · obtain rfl : false = b := by
        cases b with
        | false => rfl
        | true => exact absurd (HI.out.1 rfl).2.2.2.2.2.1 q8
      have g8 := decide_eq_false q8
      go_wp2_with (first | (go_skip) | fail)
      refine (HF.out _).mono ?_
      rintro e wz ⟨rfl, rfl⟩
      go_wp2_with (first | (go_skip) | fail)
      refine (HT.out _).mono ?_
      rintro e wz ⟨rfl, rfl⟩
      go_wp2_with (first | (go_skip) | fail)
      go_meet
      case rel => exact ⟨rfl, rfl⟩
    have g8 := decide_eq_true q8
    by_cases q9 : l ≤ 2
    rotate_left
    · obtain rfl : false = b := by
        cases b with
        | false => rfl
        | true => exact absurd (HI.out.1 rfl).2.2.2.2.2.2 q9
      have g9 := decide_eq_false q9
      go_wp2_with (first | (go_skip) | fail)
      refine (HF.out _).mono ?_
      rintro e wz ⟨rfl, rfl⟩
      go_wp2_with (first | (go_skip) | fail)
      refine (HT.out _).mono ?_
      rintro e wz ⟨rfl, rfl⟩
      go_wp2_with (first | (go_skip) | fail)
      go_meet
      case rel => exact ⟨rfl, rfl⟩
    have g9 := decide_eq_true q9
    obtain rfl : true = b := (HI.out.2 ⟨⟨q0, q1⟩, rfl, rfl, ⟨q4, q5⟩, ⟨q6, q7⟩, q8, q9⟩).symm
    go_wp2_with (first | (go_skip) | fail)
    refine (HF.out _).mono ?_
    rintro e wz ⟨rfl, rfl⟩
    go_wp2_with (first | (go_skip) | fail)
    refine (HT.out _).mono ?_
    rintro e wz ⟨rfl, rfl⟩
    go_wp2_with (first | (go_skip) | fail)
    go_meet
    case rel => exact ⟨rfl, rfl⟩
  case rest =>
  obtain ⟨rfl, rfl⟩ := hcut
  go_wp2_with (first | (go_skip) | (refine wpList_load_blkW rfl 36 _ rfl w.heap.size rfl K1.out Try.underlying36 rfl (by rw [size_msg, HCL.out]) ?_))
  refine (HY.out _).mono ?_
  rintro e w2 ⟨rfl, b2⟩
  have B2 := Lib.hid (B1.out.trans (b2.mono B1.out.size))
  have K2 := Lib.hid (K1.out.below b2 K1.out.lt)
  clear b2
  cases b with
  | true =>
    obtain ⟨rfl, x, hx, -, rfl⟩ := HY2.out rfl
    have t1 : (tx (msgE x)).toList.isEmpty = false := tx_some (by rw [tx_size]; have := (msgE_len hx).2; omega)
    clear hx
    generalize tx (msgE x) = Y at *
    go_wp2_with (first | (go_skip) | (refine wpList_load_blkW rfl 36 _ rfl w.heap.size rfl K2.out Try.underlying36 rfl (by rw [size_msg, HCL.out]) ?_))
    refine (HM.out _).mono ?_
    rintro e w3 ⟨rfl, b3⟩
    have B3 := Lib.hid (B2.out.trans (b3.mono B2.out.size))
    clear b3
    go_wp2_with (first | (go_skip) | fail)
    refine (HSh.out _).mono ?_
    rintro e w4 ⟨rfl, b4⟩
    have B4 := Lib.hid (B3.out.trans (b4.mono B3.out.size))
    clear b4
    go_wp2_with (first | (go_skip) | fail)
    go_ret
    exact ⟨rfl, B4.out⟩
  | false =>
    obtain ⟨rfl, rfl⟩ := HY3.out rfl
    have t1 : (⟨#[]⟩ : ByteArray).toList.isEmpty = true := tx_none rfl
    go_wp2_with (first | (go_skip) | (refine wpList_load_blkW rfl 36 _ rfl w.heap.size rfl K2.out Try.underlying36 rfl (by rw [size_msg, HCL.out]) ?_))
    refine (HM.out _).mono ?_
    rintro e w3 ⟨rfl, b3⟩
    have B3 := Lib.hid (B2.out.trans (b3.mono B2.out.size))
    clear b3
    go_wp2_with (first | (go_skip) | fail)
    refine (HSh.out _).mono ?_
    rintro e w4 ⟨rfl, b4⟩
    have B4 := Lib.hid (B3.out.trans (b4.mono B3.out.size))
    clear b4
    go_wp2_with (first | (go_skip) | fail)
    go_ret
    exact ⟨rfl, B4.out⟩
set_option maxRecDepth 100000 in
theorem lifted (os : Os) (started : os.Started) (H : Type) (enc : TypeId × Value → H) :
    ReturnsInHanded {} Try.checked os 5 .any (Rows.wireKindsSpec.pre6 enc Try.prog Try.f5 Rows.wireKindsRow.domain false) (Rows.wireKindsSpec.post enc Try.prog Try.f5 false true false false) := by
  refine returnsInHanded_of_change (C := Try.checked) own started (by kernel_rfl) Try.func5
    (ChangeSpec.witness6 (enc := enc) (C := Try.checked) false ⟨#[], #[.int .i64 0, .int .i64 0, .int .i64 0, .int .i64 0, .int .i64 0, .int .i64 0], []⟩ 8 (by kernel_rfl) (by kernel_rfl) (by kernel_rfl) (by kernel_rfl)) ?_
  intro W base args ds gs before hval0 hW hcnd _
  have hval : ∀ (j : Nat) t v, Try.f5.params[j]? = some t → args[j]? = some v → Value.okWide Try.prog W .any base t v := hval0
  have hW' := hW
  obtain ⟨p, q, hA0, hV, rfl, hfz, hnd⟩ := hW
  have hA : DataW.TrodAll enc Try.prog W 0 (fun _ => true) true Try.f5.params.toList args.toList ds p := hA0
  rw [Try.params5] at hA hval
  obtain ⟨v0, vs0, d0, ds0, p0, q0, hargs, rfl, rfl, h0, r0⟩ := trodAll_cons hA
  obtain ⟨v1, vs1, d1, ds1, p1, q1, rfl, rfl, rfl, h1, r1⟩ := trodAll_cons r0
  obtain ⟨v2, vs2, d2, ds2, p2, q2, rfl, rfl, rfl, h2, r2⟩ := trodAll_cons r1
  obtain ⟨v3, vs3, d3, ds3, p3, q3, rfl, rfl, rfl, h3, r3⟩ := trodAll_cons r2
  obtain ⟨v4, vs4, d4, ds4, p4, q4, rfl, rfl, rfl, h4, r4⟩ := trodAll_cons r3
  obtain ⟨v5, vs5, d5, ds5, p5, q5, rfl, rfl, rfl, h5, r5⟩ := trodAll_cons r4
  obtain ⟨rfl, rfl, rfl⟩ := trodAll_nil r5
  obtain rfl : args = #[v0, v1, v2, v3, v4, v5] := by cases args; simp_all
  obtain ⟨rfl, rfl⟩ := trodVars_none hV
  obtain ⟨l0, rfl, rfl, rfl, n0⟩ := open_int Try.underlying3 (hval 0 3 v0 rfl rfl) h0
  obtain ⟨l1, rfl, rfl, rfl, n1⟩ := open_int Try.underlying3 (hval 1 3 v1 rfl rfl) h1
  obtain ⟨l2, rfl, rfl, rfl, n2⟩ := open_int Try.underlying3 (hval 2 3 v2 rfl rfl) h2
  obtain ⟨l3, rfl, rfl, rfl, n3⟩ := open_int Try.underlying3 (hval 3 3 v3 rfl rfl) h3
  obtain ⟨l4, rfl, rfl, rfl, n4⟩ := open_int Try.underlying3 (hval 4 3 v4 rfl rfl) h4
  obtain ⟨l5, rfl, rfl, rfl, n5⟩ := open_int Try.underlying3 (hval 5 3 v5 rfl rfl) h5
  clear hA0 hval0
  simp only [List.append_nil] at hW'
  refine (walk l0 l1 l2 l3 l4 l5 n0 n1 n2 n3 n4 n5 W).mono fun e W' ⟨he, bel⟩ => ?_
  subst he
  exact ⟨_, rfl, _, _, _, [], _, [], hW', trodAll_mk1 (shut_bool Try.underlying4 _), (trodAll_cons_mk (shut_int Try.underlying3 n0) (trodAll_cons_mk (shut_int Try.underlying3 n1) (trodAll_cons_mk (shut_int Try.underlying3 n2) (trodAll_cons_mk (shut_int Try.underlying3 n3) (trodAll_cons_mk (shut_int Try.underlying3 n4) (trodAll_cons_mk (shut_int Try.underlying3 n5) trodAll_mk0)))))), rfl, bel.frame _, fun h => by cases h⟩

theorem over : Rows.wireKindsRow.holds Try.pinned (OpenSpec.ofChange Rows.wireKindsSpec) :=
  OpenClaim.holds_of_wide 5 Try.f5 rfl rfl rfl rfl rfl rfl rfl ⟨rfl, rfl, rfl, rfl, rfl⟩ rfl rfl rfl rfl rfl (by kernel_rfl) Try.func5 (by kernel_rfl)
    (of_decide_eq_true (by kernel_rfl)) (by unfold Func.isWrapper; first | (rw [if_pos (by decide +kernel)]; kernel_rfl) | (rw [if_neg (by decide +kernel)]; exact ⟨rfl, rfl⟩))
    (fun os started H enc _ => lifted os started H enc)

theorem proved : Rows.WireKindsSaid :=
  over
#print axioms proved
end Go.Proofs.Ytloogjdojojehaa.wireKinds
