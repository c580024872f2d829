/-
  For all texts and places: a match stands ahead, no farther back than the window, no longer than may be, is the same bytes, and can't be longer. Longer texts than the bound, and the empty one, are answered by the case shown alone. No condition.
-/
import Derived.Test.YtloncdnnblkpdaaRows
import Derived.Test.YtloncdnnblkpdaaWShown
import Derived.ShutString
import Derived.ChangeOld
namespace Go.Proofs.Ytloncdnnblkpdaa.windowPlaces
open Go.ChangeShapes Go.WideShapes Go.ChangeAt Go.RowKit
open Go.ChangeMaps (open_string shut_string)
set_option linter.unusedVariables false

theorem nat_u16 (x : Int) (h : (Lit.int .u16 x).wf = true) : ∃ n : Nat, x = (n : Int) ∧ n < 65536 := by
  have : (IntKind.u16.min ≤ x) ∧ (x ≤ IntKind.u16.max) := by simpa [Lit.wf] using h
  have e1 : IntKind.u16.min = 0 := by decide
  have e2 : IntKind.u16.max = 65535 := by decide
  exact ⟨x.toNat, by omega, by omega⟩
set_option maxHeartbeats 4000000 in
set_option maxRecDepth 100000 in
theorem walk (s : ByteArray) (x : Int) (hm : s.size ≤ maxLen) (hw : (Lit.int .u16 x).wf = true) (w : World) :
    Calls Try.prog 6 #[.string s, .int .u16 x] w fun e w' => e = .returned (.bool true) ∧ Below w.heap.size w w' := by
  have hSh := fun w => l8_shown w
  have HSh := Lib.hid hSh
  obtain ⟨a, rfl, ha⟩ := nat_u16 x hw
  clear hSh hm hw
  by_cases h1 : 1500 < s.size
  · have g1 : (1500 : Int) < (s.size : Int) := by omega
    go_enter Try.func6, Try.ntmps6
    go_wp2_with (go_at_call 8; (with_reducible refine (HSh.out _).mono ?_); rintro e w1 ⟨rfl, hb1⟩)
    go_ret
    exact ⟨rfl, hb1⟩
  have g1 : ¬ (1500 : Int) < (s.size : Int) := by omega
  by_cases h2 : s.size = 0
  · have g2 : ((s.size : Int) == 0) = true := by rw [h2]; rfl
    clear h1 h2
    go_enter Try.func6, Try.ntmps6
    go_wp2_with (go_at_call 8; (with_reducible refine (HSh.out _).mono ?_); rintro e w1 ⟨rfl, hb1⟩)
    go_ret
    exact ⟨rfl, hb1⟩
  have g2 : ((s.size : Int) == 0) = false := by rw [beq_eq_false_iff_ne]; omega
  have i1 : (s.size : Int) ≤ 1500 := by omega
  have i2 : (0 : Int) < (s.size : Int) := by omega
  have hk := Nat.mod_lt a (show 0 < s.size by omega)
  have e1 : (a : Int) % (s.size : Int) = ((a % s.size : Nat) : Int) := by simp
  have e2 : (a : Int).tmod (s.size : Int) = ((a % s.size : Nat) : Int) := by rw [Int.tmod_eq_emod_of_nonneg (by omega)]; simp
  have e3 : IntKind.i64.wrap (a : Int) = (a : Int) := IntWalk.i64_in _ (by omega)
  have hM := fun w => p_Match s ((a % s.size : Nat) : Int) w (by omega)
  have hmz : matchZ (sl s) ((a % s.size : Nat) : Int) = matchW (sl s) (a % s.size) := by unfold matchZ; rw [if_neg (by omega)]; rfl
  rw [hmz] at hM
  have HM := Lib.hid hM
  have HA := Lib.hid ha
  clear h1 h2 hmz hM ha
  generalize a % s.size = k at *
  go_enter Try.func6, Try.ntmps6
  go_wp2_with (go_at_call 8; (with_reducible refine (HSh.out _).mono ?_); rintro e w1 ⟨rfl, hb1⟩)
  (with_reducible refine (HM.out _).mono ?_)
  rintro e w2 ⟨rfl, hb2⟩
  have HB := Lib.hid (hb1.trans (hb2.mono hb1.size))
  clear hb1 hb2 HM e1 e2 e3
  by_cases hm : (matchW (sl s) k).1 = 0
  · have hm2 := matchW_none hm
    rw [hm, hm2]
    clear hm hm2
    go_wp2
    go_ret
    exact ⟨rfl, HB.out⟩
  obtain ⟨h3, h34, hb1, hb512, hbp, hpe, hsame, hmost⟩ := matchW_is hm
  rw [sl_len] at hpe hmost
  have HSAME := Lib.hid hsame
  have HMOST := Lib.hid hmost
  clear hsame hmost hm
  generalize (matchW (sl s) k).1 = m1 at *
  generalize (matchW (sl s) k).2 = m2 at *
  have e0 : ((m1 : Int) == 0) = false := by rw [beq_eq_false_iff_ne]; omega
  have j2 : ¬ (m1 : Int) < 3 := by omega
  have j3 : ¬ (34 : Int) < (m1 : Int) := by omega
  have j4 : ¬ (m2 : Int) < 1 := by omega
  have j5 : ¬ (512 : Int) < (m2 : Int) := by omega
  have j6 : ¬ (k : Int) < (m2 : Int) := by omega
  have j7 : ¬ (s.size : Int) < (k : Int) + (m1 : Int) := by omega
  have j8 : (k : Int) < (s.size : Int) := by omega
  have j9 : (m1 : Int) ≤ 34 := by omega
  go_wp2_with fail
  go_loopw [8] (fun i wr => ∃ j : Nat, j ≤ m1 ∧ i = .int .i64 (j : Int) ∧ DrW w2 wr) (fun i _ => m1 - (intOf i).toNat)
  case atStart => exact ⟨0, by omega, rfl, DrW.refl _⟩
  case round =>
    obtain ⟨j, hj, rfl, gD⟩ := hrel
    have GD := Lib.hid gD
    clear gD
    have idx : ∀ (i y : Nat), i ≤ m1 → k + i < s.size → (sl s).getD (k + i - m2) 0 = y → ∀ w, (Instr.index 9 (.string s) (.int .i64 ((k : Int) + (i : Int) - (m2 : Int)))).run Try.prog w = .ok (.int .u8 (y : Int)) w := fun i y hi hl hy w => by
      have := index_sl s .i64 (k + i - m2) (by omega) w
      rw [hy, show ((k + i - m2 : Nat) : Int) = (k : Int) + (i : Int) - (m2 : Int) by omega] at this
      exact this
    by_cases hlt : j < m1
    · have d1 : (j : Int) < (m1 : Int) := by omega
      obtain ⟨y, hy⟩ : ∃ y, (sl s).getD (k + j) 0 = y := ⟨_, rfl⟩
      have hX := index_at s k j y (by omega) hy
      have hY := idx j y (by omega) (by omega) (by rw [HSAME.out j hlt]; exact hy)
      have d3 : ((y : Int) != (y : Int)) = false := by simp
      have j10 : (0 : Int) ≤ (k : Int) + (j : Int) - (m2 : Int) := by omega
      clear hy idx
      go_wp2_with fail
      go_quiet (fail)
      go_wp2
      go_roundw
      case rel => exact ⟨j + 1, by omega, by go_num, GD.out.trans ⟨_, rfl⟩⟩
      case measure => (simp [intOf]; try omega)
    · obtain rfl : j = m1 := by omega
      have hfin : ∀ wx, DrW w2 wx → Below w.heap.size w wx := fun wx hd => HB.out.trans (hd.below.mono HB.out.size)
      have HFIN := Lib.hid hfin
      have hmost := HMOST.out
      clear hfin HB HMOST HSAME
      by_cases c1 : j = 34
      · have d1 : ((j : Int) == 34) = true := by rw [c1]; rfl
        have d1' : decide ((j : Int) = 34) = true := by rw [c1]; rfl
        clear idx hmost c1
        go_wp2_with fail
        go_quiet (fail)
        go_wp2
        go_ret
        exact ⟨rfl, HFIN.out _ (GD.out.trans ⟨_, rfl⟩)⟩
      · have d1 : ((j : Int) == 34) = false := by rw [beq_eq_false_iff_ne]; omega
        have d1' : decide ((j : Int) = 34) = false := by simp; omega
        by_cases c2 : k + j = s.size
        · have d2 : ((k : Int) + (j : Int) == (s.size : Int)) = true := by rw [beq_iff_eq]; omega
          have d2' : decide ((k : Int) + (j : Int) = (s.size : Int)) = true := by simp; omega
          clear idx hmost c1 c2
          go_wp2_with fail
          go_quiet (fail)
          go_wp2
          go_ret
          exact ⟨rfl, HFIN.out _ (GD.out.trans ⟨_, rfl⟩)⟩
        · have d2 : ((k : Int) + (j : Int) == (s.size : Int)) = false := by rw [beq_eq_false_iff_ne]; omega
          have d2' : decide ((k : Int) + (j : Int) = (s.size : Int)) = false := by simp; omega
          have hne : (sl s).getD (k + j) 0 ≠ (sl s).getD (k + j - m2) 0 := by
            rcases hmost with h | h | h
            · exact absurd h c1
            · exact absurd h c2
            · exact h
          obtain ⟨y, hy⟩ : ∃ y, (sl s).getD (k + j) 0 = y := ⟨_, rfl⟩
          obtain ⟨z, hz⟩ : ∃ z, (sl s).getD (k + j - m2) 0 = z := ⟨_, rfl⟩
          have hX := index_at s k j y (by omega) hy
          have hY := idx j z (by omega) (by omega) hz
          rw [hy, hz] at hne
          have d3 : ((y : Int) != (z : Int)) = true := by rw [bne_iff_ne]; omega
          have j10 : (0 : Int) ≤ (k : Int) + (j : Int) - (m2 : Int) := by omega
          clear hy hz idx hmost c1 c2 hne
          go_wp2_with fail
          go_quiet (fail)
          go_wp2
          go_ret
          exact ⟨rfl, HFIN.out _ (GD.out.trans ⟨_, rfl⟩)⟩

set_option maxRecDepth 100000 in
theorem lifted (os : Os) (started : os.Started) (H : Type) (enc : TypeId × Value → H) :
    ReturnsInHanded {} Try.checked os 6 .any (Rows.windowPlacesSpec.pre6 enc Try.prog Try.f6 Rows.windowPlacesRow.domain false) (Rows.windowPlacesSpec.post enc Try.prog Try.f6 false true false false) := by
  refine returnsInHanded_of_change (C := Try.checked) own started (by kernel_rfl) Try.func6
    (ChangeSpec.witness6 (enc := enc) (C := Try.checked) false ⟨#[], #[.string ByteArray.empty, .int .u16 0], []⟩ 8 (by kernel_rfl) (by kernel_rfl) (by kernel_rfl) (by kernel_rfl)) ?_
  intro W base args ds gs before hval0 hW hcnd _
  have hval : ∀ (j : Nat) t v, Try.f6.params[j]? = some t → args[j]? = some v → Value.okWide Try.prog W .any base t v := hval0
  have hW' := hW
  obtain ⟨p, q, hA0, hV, rfl, hfz, hnd⟩ := hW
  have hA : DataW.TrodAll enc Try.prog W 0 (fun _ => true) true Try.f6.params.toList args.toList ds p := hA0
  rw [Try.params6] at hA hval
  obtain ⟨v0, vs0, d0, ds0, p0, q0, hargs, rfl, rfl, h0, r0⟩ := trodAll_cons hA
  obtain ⟨v1, vs1, d1, ds1, p1, q1, rfl, rfl, rfl, h1, r1⟩ := trodAll_cons r0
  obtain ⟨rfl, rfl, rfl⟩ := trodAll_nil r1
  obtain rfl : args = #[v0, v1] := by cases args; simp_all
  obtain ⟨rfl, rfl⟩ := trodVars_none hV
  obtain ⟨l0, rfl, rfl, rfl, n0⟩ := open_string Try.underlying9 (hval 0 9 v0 rfl rfl) h0
  obtain ⟨l1, rfl, rfl, rfl, n1⟩ := open_int Try.underlying39 (hval 1 39 v1 rfl rfl) h1
  clear hA0 hval0
  simp only [List.append_nil] at hW'
  refine (walk l0 l1 n0 n1 W).mono fun e W' ⟨he, bel⟩ => ?_
  subst he
  exact ⟨_, rfl, _, _, _, [], _, [], hW', trodAll_mk1 (shut_bool Try.underlying4 _), (trodAll_cons_mk (shut_string Try.underlying9 n0) (trodAll_cons_mk (shut_int Try.underlying39 n1) trodAll_mk0)), rfl, bel.frame _, fun h => by cases h⟩

theorem over : Rows.windowPlacesRow.holds Try.pinned (OpenSpec.ofChange Rows.windowPlacesSpec) :=
  OpenClaim.holds_of_wide 6 Try.f6 rfl rfl rfl rfl rfl rfl rfl ⟨rfl, rfl, rfl, rfl, rfl⟩ rfl rfl rfl rfl rfl (by kernel_rfl) Try.func6 (by kernel_rfl)
    (of_decide_eq_true (by kernel_rfl)) (by unfold Func.isWrapper; first | (rw [if_pos (by decide +kernel)]; kernel_rfl) | (rw [if_neg (by decide +kernel)]; exact ⟨rfl, rfl⟩))
    (fun os started H enc _ => lifted os started H enc)

theorem proved : Rows.WindowPlacesSaid :=
  over
#print axioms proved
end Go.Proofs.Ytloncdnnblkpdaa.windowPlaces
