/-
  For all texts and gaps: a run that comes again behind the gap is matched, no shorter than it is, and what is matched is the run itself. What is no run is answered by the case shown alone. No condition.
-/
import Derived.Test.YtloncdnnblkpdaaRows
import Derived.Test.YtloncdnnblkpdaaWShown
import Derived.ShutString
import Derived.ChangeOld
namespace Go.Proofs.Ytloncdnnblkpdaa.windowRuns
open Go.ChangeShapes Go.WideShapes Go.ChangeAt Go.RowKit
open Go.ChangeMaps (open_string shut_string)
set_option linter.unusedVariables false

theorem mid_at (A g : List Nat) {i : Nat} (hi : i < A.length) : (A ++ g ++ A).getD i 0 = A.getD i 0 ∧ (A ++ g ++ A).getD (A.length + g.length + i) 0 = A.getD i 0 := by
  constructor
  · rw [getD_app, if_pos (by rw [List.length_append]; omega), getD_app, if_pos hi]
  · rw [getD_app, if_neg (by rw [List.length_append]; omega)]
    congr 1
    rw [List.length_append]
    omega
/-- what the match of the run's second place is -/
theorem found (A g : List Nat) (h3 : 3 ≤ A.length) (h34 : A.length ≤ 34) (hk : A.length + g.length ≤ 512) :
    A.length ≤ (matchW (A ++ g ++ A) (A.length + g.length)).1 ∧ 1 ≤ (matchW (A ++ g ++ A) (A.length + g.length)).2 ∧ (matchW (A ++ g ++ A) (A.length + g.length)).2 ≤ A.length + g.length ∧
    ((A ++ g ++ A).drop (A.length + g.length - (matchW (A ++ g ++ A) (A.length + g.length)).2)).take A.length = A := by
  have hl : (A ++ g ++ A).length = A.length + g.length + A.length := by simp; omega
  have hge := matchW_ge (s := A ++ g ++ A) (p := A.length + g.length) (j := A.length + g.length) (m := A.length) (by omega) (by omega) hk (Nat.le_refl _) h3 h34 (by omega) (fun i hi => by
    rw [Nat.sub_self, Nat.zero_add, (mid_at A g hi).1, (mid_at A g hi).2])
  obtain ⟨q1, q2, q3, q4, q5, q6, q7, _⟩ := matchW_is (s := A ++ g ++ A) (p := A.length + g.length) (by omega)
  refine ⟨hge, q3, q5, ?_⟩
  refine getD_ext A.length (by rw [List.length_take, List.length_drop, hl]; omega) rfl fun i hi => ?_
  rw [getD_take _ _ _ hi, getD_drop, show A.length + g.length - (matchW (A ++ g ++ A) (A.length + g.length)).2 + i = A.length + g.length + i - (matchW (A ++ g ++ A) (A.length + g.length)).2 by omega, q7 i (by omega), (mid_at A g hi).2]
set_option maxHeartbeats 4000000 in
set_option maxRecDepth 100000 in
theorem walk (s : ByteArray) (x : Int) (hm : s.size ≤ maxLen) (hw : (Lit.int .u8 x).wf = true) (w : World) :
    Calls Try.prog 5 #[.string s, .int .u8 x] w fun e w' => e = .returned (.bool true) ∧ Below w.heap.size w w' := by
  have hSh := fun w => l8_shown w
  have HSh := Lib.hid hSh
  obtain ⟨gap, rfl, hgap⟩ := nat_u8 x hw
  clear hSh hm hw
  by_cases h1 : s.size < 3
  · have g1 : (s.size : Int) < 3 := by omega
    go_enter Try.func5, Try.ntmps5
    go_wp2_with (go_at_call 8; (with_reducible refine (HSh.out _).mono ?_); rintro e w1 ⟨rfl, hb1⟩)
    go_ret
    exact ⟨rfl, hb1⟩
  have g1 : ¬ (s.size : Int) < 3 := by omega
  by_cases h2 : 34 < s.size
  · have g2 : (34 : Int) < (s.size : Int) := by omega
    go_enter Try.func5, Try.ntmps5
    go_wp2_with (go_at_call 8; (with_reducible refine (HSh.out _).mono ?_); rintro e w1 ⟨rfl, hb1⟩)
    go_ret
    exact ⟨rfl, hb1⟩
  have g2 : ¬ (34 : Int) < (s.size : Int) := by omega
  have i1 : (gap : Int) < 256 := by omega
  have e3 : IntKind.i64.wrap (gap : Int) = (gap : Int) := IntWalk.i64_in _ (by omega)
  go_enter Try.func5, Try.ntmps5
  go_wp2_with (go_at_call 8; (with_reducible refine (HSh.out _).mono ?_); rintro e w1 ⟨rfl, hb1⟩)
  have HB1 := Lib.hid hb1
  clear hb1
  go_loopw [5, 6] (fun g i wr => ∃ (j : Nat) (G : ByteArray), j ≤ gap ∧ i = .int .i64 (j : Int) ∧ g = .string G ∧ G.size = 3 * j ∧ Below w.heap.size w wr) (fun _ i _ => gap - (intOf i).toNat)
  case atStart => exact ⟨0, ⟨#[]⟩, by omega, rfl, rfl, rfl, HB1.out⟩
  case round =>
    obtain ⟨j, G, hj, rfl, rfl, hG, gb⟩ := hrel
    clear HB1
    by_cases hlt : j < gap
    · have d1 : (j : Int) < (gap : Int) := by omega
      have e5 : IntKind.u8.wrap (j : Int) = (j : Int) := by rw [IntKind.wrap_u8]; omega
      have k := Blk.new' wr 5 (c := #[.int .u8 (j : Int), .int .u8 255, .int .u8 (j : Int)]) (ints .u8 [(j : Int), 255, (j : Int)]) rfl
      have hadd : ∀ w, (Op.stringOp .add G (bs [(j : Int), 255, (j : Int)])).run Try.prog w = .ok (.string (G ++ bs [(j : Int), 255, (j : Int)])) w := fun w => run_string_add_sum _ _ _ (by rw [bs_size]; simp; omega)
      have hsz : (G ++ bs [(j : Int), 255, (j : Int)]).size = 3 * (j + 1) := by rw [ByteArray.size_append, bs_size, hG]; simp; omega
      have HSZ := Lib.hid hsz
      have HR := Lib.hid k.whole
      have GB := Lib.hid (gb.alloc gb.size (.cells #[.int .u8 (j : Int), .int .u8 255, .int .u8 (j : Int)] 5))
      clear k hsz gb
      go_wp2_with (refine wpList_bytes_string rfl 37 9 5 _ rfl wr.heap.size 3 3 [(j : Int), 255, (j : Int)] rfl Try.underlying37 Try.underlying5 Try.underlying9 HR.out rfl ?_)
      go_roundw
      case rel => exact ⟨j + 1, _, by omega, by go_num, rfl, HSZ.out, GB.out⟩
      case measure => (simp [intOf]; try omega)
    · obtain rfl : j = gap := by omega
      have hf := found (sl s) (sl G) (by rw [sl_len]; omega) (by rw [sl_len]; omega)
      have hin : ∀ h : (matchW (sl s ++ sl G ++ sl s) (s.size + G.size)).1 ≠ 0, (matchW (sl s ++ sl G ++ sl s) (s.size + G.size)).2 ≤ 512 := fun h => (matchW_is h).2.2.2.1
      rw [sl_len, sl_len] at hf
      have a1 : ∀ w, (Op.stringOp .add s G).run Try.prog w = .ok (.string (s ++ G)) w := fun w => run_string_add_sum _ _ _ (by omega)
      have a2 : ∀ w, (Op.stringOp .add (s ++ G) s).run Try.prog w = .ok (.string (s ++ G ++ s)) w := fun w => run_string_add_sum _ _ _ (by rw [ByteArray.size_append]; omega)
      have hsl : sl (s ++ G ++ s) = sl s ++ sl G ++ sl s := by rw [sl_app, sl_app]
      have hts : (s ++ G ++ s).size = s.size + G.size + s.size := by rw [ByteArray.size_append, ByteArray.size_append]
      have hM := fun w => p_Match (s ++ G ++ s) ((s.size + G.size : Nat) : Int) w (by omega)
      have hmz : matchZ (sl (s ++ G ++ s)) ((s.size + G.size : Nat) : Int) = matchW (sl s ++ sl G ++ sl s) (s.size + G.size) := by unfold matchZ; rw [if_neg (by omega), hsl]; rfl
      rw [hmz, show ((s.size + G.size : Nat) : Int) = (s.size : Int) + (G.size : Int) by omega] at hM
      have HF := Lib.hid hf
      have HIN := Lib.hid hin
      have HM := Lib.hid hM
      have HSL := Lib.hid hsl
      have GB := Lib.hid gb
      clear hf hin hM hmz gb hsl
      generalize matchW (sl s ++ sl G ++ sl s) (s.size + G.size) = m at *
      obtain ⟨t, ht⟩ : ∃ t, s ++ G ++ s = t := ⟨_, rfl⟩
      rw [ht] at HM HSL hts a2
      have i3 : (G.size : Int) ≤ 765 := by omega
      clear hG
      go_wp2_with fail
      (with_reducible refine (HM.out _).mono ?_)
      rintro e w3 ⟨rfl, hb3⟩
      have hb4 := Lib.hid (GB.out.trans (hb3.mono GB.out.size))
      clear hb3 GB HM a1 a2
      by_cases h512 : 512 < s.size + G.size
      · have d1 : (512 : Int) < (s.size : Int) + (G.size : Int) := by omega
        clear h512
        by_cases hm0 : m.1 = 0
        · rw [hm0]
          clear hm0
          go_wp2
          go_ret
          exact ⟨rfl, hb4.out⟩
        · have e0 : ((m.1 : Int) == 0) = false := by rw [beq_eq_false_iff_ne]; omega
          have e1 : (m.2 : Int) ≤ 512 := by have := HIN.out hm0; omega
          clear hm0
          go_wp2
          go_ret
          exact ⟨rfl, hb4.out⟩
      · have d1 : ¬ (512 : Int) < (s.size : Int) + (G.size : Int) := by omega
        obtain ⟨f1, f2, f3, f4⟩ := HF.out (by omega)
        have hx : t.extract (s.size + G.size - m.2) (s.size + G.size - m.2 + s.size) = s := by
          rw [part_tx, HSL.out, f4, tx_sl]
        have c1 : (s.size : Int) ≤ (m.1 : Int) := by omega
        have c2 : (1 : Int) ≤ (m.2 : Int) := by omega
        have c3 : (m.2 : Int) ≤ (s.size : Int) + (G.size : Int) := by omega
        have t1 : (t.size : Int) = (s.size : Int) + (G.size : Int) + (s.size : Int) := by omega
        have c5 : ((t.size : Int) - (s.size : Int) - (m.2 : Int)).toNat = s.size + G.size - m.2 := by omega
        have c6 : ((t.size : Int) - (m.2 : Int)).toNat = s.size + G.size - m.2 + s.size := by omega
        have c7 : (0 : Int) ≤ (t.size : Int) - (s.size : Int) - (m.2 : Int) := by omega
        have c8 : (t.size : Int) - (s.size : Int) - (m.2 : Int) ≤ (t.size : Int) - (m.2 : Int) := by omega
        have c9 : (t.size : Int) - (m.2 : Int) ≤ (t.size : Int) := by omega
        have hx' : t.extract (s.size + G.size - m.2) (s.size + G.size + s.size - m.2) = s := by rw [show s.size + G.size + s.size - m.2 = s.size + G.size - m.2 + s.size by omega]; exact hx
        have HX := Lib.hid hx'
        clear h512 f4 HF HIN HSL ht h1 h2 hx hx'
        go_wp2
        go_ret
        exact ⟨congrArg (fun b => Ending.returned (.bool b)) (txt_eq HX.out), hb4.out⟩

set_option maxRecDepth 100000 in
theorem lifted (os : Os) (started : os.Started) (H : Type) (enc : TypeId × Value → H) :
    ReturnsInHanded {} Try.checked os 5 .any (Rows.windowRunsSpec.pre6 enc Try.prog Try.f5 Rows.windowRunsRow.domain false) (Rows.windowRunsSpec.post enc Try.prog Try.f5 false true false false) := by
  refine returnsInHanded_of_change (C := Try.checked) own started (by kernel_rfl) Try.func5
    (ChangeSpec.witness6 (enc := enc) (C := Try.checked) false ⟨#[], #[.string ByteArray.empty, .int .u8 0], []⟩ 8 (by kernel_rfl) (by kernel_rfl) (by kernel_rfl) (by kernel_rfl)) ?_
  intro W base args ds gs before hval0 hW hcnd _
  have hval : ∀ (j : Nat) t v, Try.f5.params[j]? = some t → args[j]? = some v → Value.okWide Try.prog W .any base t v := hval0
  have hW' := hW
  obtain ⟨p, q, hA0, hV, rfl, hfz, hnd⟩ := hW
  have hA : DataW.TrodAll enc Try.prog W 0 (fun _ => true) true Try.f5.params.toList args.toList ds p := hA0
  rw [Try.params5] at hA hval
  obtain ⟨v0, vs0, d0, ds0, p0, q0, hargs, rfl, rfl, h0, r0⟩ := trodAll_cons hA
  obtain ⟨v1, vs1, d1, ds1, p1, q1, rfl, rfl, rfl, h1, r1⟩ := trodAll_cons r0
  obtain ⟨rfl, rfl, rfl⟩ := trodAll_nil r1
  obtain rfl : args = #[v0, v1] := by cases args; simp_all
  obtain ⟨rfl, rfl⟩ := trodVars_none hV
  obtain ⟨l0, rfl, rfl, rfl, n0⟩ := open_string Try.underlying9 (hval 0 9 v0 rfl rfl) h0
  obtain ⟨l1, rfl, rfl, rfl, n1⟩ := open_int Try.underlying5 (hval 1 5 v1 rfl rfl) h1
  clear hA0 hval0
  simp only [List.append_nil] at hW'
  refine (walk l0 l1 n0 n1 W).mono fun e W' ⟨he, bel⟩ => ?_
  subst he
  exact ⟨_, rfl, _, _, _, [], _, [], hW', trodAll_mk1 (shut_bool Try.underlying4 _), (trodAll_cons_mk (shut_string Try.underlying9 n0) (trodAll_cons_mk (shut_int Try.underlying5 n1) trodAll_mk0)), rfl, bel.frame _, fun h => by cases h⟩

theorem over : Rows.windowRunsRow.holds Try.pinned (OpenSpec.ofChange Rows.windowRunsSpec) :=
  OpenClaim.holds_of_wide 5 Try.f5 rfl rfl rfl rfl rfl rfl rfl ⟨rfl, rfl, rfl, rfl, rfl⟩ rfl rfl rfl rfl rfl (by kernel_rfl) Try.func5 (by kernel_rfl)
    (of_decide_eq_true (by kernel_rfl)) (by unfold Func.isWrapper; first | (rw [if_pos (by decide +kernel)]; kernel_rfl) | (rw [if_neg (by decide +kernel)]; exact ⟨rfl, rfl⟩))
    (fun os started H enc _ => lifted os started H enc)

theorem proved : Rows.WindowRunsSaid :=
  over
#print axioms proved
end Go.Proofs.Ytloncdnnblkpdaa.windowRuns
