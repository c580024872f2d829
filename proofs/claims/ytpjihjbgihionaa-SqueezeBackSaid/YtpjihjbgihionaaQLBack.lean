/-
  For all texts and cuts: what was squeezed is expanded, if there is room; with one byte less it is too much; its beginnings are nothing. Longer texts than the bound are answered by the case shown alone. No condition.
-/
import Derived.Test.YtpjihjbgihionaaRows
import Derived.Test.YtpjihjbgihionaaQC
import Derived.ShutString
import Derived.ChangeOld
namespace Go.Proofs.Ytpjihjbgihionaa.squeezeBack
open Go.ChangeShapes Go.WideShapes Go.ChangeAt Go.RowKit
open Go.ChangeMaps (open_string shut_string)
set_option linter.unusedVariables false

set_option maxHeartbeats 4000000 in
set_option maxRecDepth 100000 in
theorem walk (s : ByteArray) (x : Int) (hm : s.size ≤ maxLen) (hw : (Lit.int .u16 x).wf = true) (w : World) :
    Calls Try.prog 4 #[.string s, .int .u16 x] w fun e w' => e = .returned (.bool true) ∧ Below w.heap.size w w' := by
  have HS := Lib.hid (fun w => l9_shown w)
  obtain ⟨c, rfl, hc⟩ := nat_u16 x hw
  clear hw
  by_cases h1 : 1500 < s.size
  · have g1 : (1500 : Int) < (s.size : Int) := by omega
    go_enter Try.func4, Try.ntmps4
    go_wp2_with (go_at_call 9; (with_reducible refine (HS.out _).mono ?_); rintro e w1 ⟨rfl, hb1⟩)
    go_ret
    exact ⟨rfl, hb1⟩
  have g1 : ¬ (1500 : Int) < (s.size : Int) := by omega
  have i0 : (s.size : Int) ≤ 1500 := by omega
  have hzl := sqz_len (sl_bys s) (by rw [sl_len]; omega)
  have hA := fun w => q_Squeeze s w (by omega)
  have hB := fun w => q_back s (s.size : Int) w (by omega) (Int.le_refl _) (by omega)
  obtain ⟨⟨o2, e2⟩, h2⟩ : ∃ r, expandP (sqzW (sl s)) ((s.size : Int) - 1) = r := ⟨_, rfl⟩
  have hC := fun w => q_Expand (tx (sqzW (sl s))) ((s.size : Int) - 1) w (by rw [tx_size]; omega) (by omega) (by omega) o2 e2 (by rw [sl_tx (sqz_bys _)]; exact h2)
  have he2 : 0 < s.size → e2 = 90 := fun h => by
    have := sqz_over (sl_bys s) (by rw [sl_len]; omega) (by rw [sl_len]; exact h)
    rw [sl_len, h2] at this
    exact congrArg Prod.snd this
  obtain ⟨m, hm1⟩ : ∃ m : Nat, c % (sqzW (sl s)).length = m := ⟨_, rfl⟩
  have hmK : m < (sqzW (sl s)).length := by rw [← hm1]; exact Nat.mod_lt _ (by omega)
  have hD := fun w => q_Expand ((tx (sqzW (sl s))).extract 0 m) (s.size : Int) w (by rw [ByteArray.size_extract, tx_size]; omega) (by omega) (by omega) [] 40 (by
    rw [sl_head, sl_tx (sqz_bys _)]
    have := sqz_cut (sl_bys s) (by rw [sl_len]; omega) hmK
    rw [sl_len] at this
    exact this)
  have hzs : (tx (sqzW (sl s))).size = (sqzW (sl s)).length := tx_size _
  rw [← hzs] at hzl hm1 hmK
  generalize tx (sqzW (sl s)) = z at *
  have e1 : (c : Int) % (z.size : Int) = (m : Int) := by rw [← hm1]; simp
  have e1t : (c : Int).tmod (z.size : Int) = (m : Int) := by rw [Int.tmod_eq_emod_of_nonneg (by omega)]; exact e1
  have j1 : ((z.size : Int) == 0) = false := by rw [beq_eq_false_iff_ne]; omega
  have j2 : ¬ (z.size : Int) = 0 := by omega
  have j3 : (m : Int) ≤ (z.size : Int) := by omega
  have j4 : (m : Int).toNat = m := by omega
  have j5 : (0 : Int) ≤ (m : Int) := by omega
  have j6 : (z.size : Int) ≤ 20000 := by omega
  have j7 : (m : Int) ≤ 20000 := by omega
  have j8 : IntKind.i64.wrap (m : Int) = (m : Int) := IntWalk.i64_in _ (by omega)
  have htx := txt_same s
  have HA := Lib.hid hA
  have HB := Lib.hid hB
  have HC := Lib.hid hC
  have HD : Hid (∀ w, Calls Try.prog 12 #[.string (z.extract 0 m), .int .i64 (s.size : Int)] w (fun e w' => e = .returned (.tuple #[.string ⟨#[]⟩, .int .i64 40]) ∧ Below w.heap.size w w')) := Lib.hid hD
  have HE2 := Lib.hid he2
  clear hA hB hC hD he2 h2 hm1 hzs hzl
  by_cases h0 : s.size = 0
  · have g0 : ((s.size : Int) == 0) = true := by rw [h0]; rfl
    have g0' : (s.size : Int) - 1 = -1 := by omega
    clear h0
    go_enter Try.func4, Try.ntmps4
    go_wp2_with (first | (go_at_call 9; (with_reducible refine (HS.out _).mono ?_); rintro e w1 ⟨rfl, hb1⟩) | (go_at_call 10; (with_reducible refine (HA.out _).mono ?_); rintro e w2 ⟨rfl, hb2⟩) | (go_at_call 12; (with_reducible refine (HB.out _).mono ?_); rintro e w3 ⟨rfl, hb3⟩) | (go_at_call 12; (first | (with_reducible refine (HC.out _).mono ?_) | (rw [← g0']; with_reducible refine (HC.out _).mono ?_)); rintro e w4 ⟨rfl, hb4⟩) | (go_at_call 12; (with_reducible refine (HD.out _).mono ?_); rintro e w5 ⟨rfl, hb5⟩))
    go_ret
    have a2 := hb1.trans (hb2.mono hb1.size)
    have a3 := a2.trans (hb3.mono a2.size)
    have a4 := a3.trans (hb4.mono a3.size)
    exact ⟨rfl, a4.trans (hb5.mono a4.size)⟩
  · have g0 : ((s.size : Int) == 0) = false := by rw [beq_eq_false_iff_ne]; omega
    obtain rfl := HE2.out (by omega)
    go_enter Try.func4, Try.ntmps4
    go_wp2_with (first | (go_at_call 9; (with_reducible refine (HS.out _).mono ?_); rintro e w1 ⟨rfl, hb1⟩) | (go_at_call 10; (with_reducible refine (HA.out _).mono ?_); rintro e w2 ⟨rfl, hb2⟩) | (go_at_call 12; (with_reducible refine (HB.out _).mono ?_); rintro e w3 ⟨rfl, hb3⟩) | (go_at_call 12; (with_reducible refine (HC.out _).mono ?_); rintro e w4 ⟨rfl, hb4⟩) | (go_at_call 12; (with_reducible refine (HD.out _).mono ?_); rintro e w5 ⟨rfl, hb5⟩))
    go_ret
    have a2 := hb1.trans (hb2.mono hb1.size)
    have a3 := a2.trans (hb3.mono a2.size)
    have a4 := a3.trans (hb4.mono a3.size)
    exact ⟨rfl, a4.trans (hb5.mono a4.size)⟩

set_option maxRecDepth 100000 in
theorem lifted (os : Os) (started : os.Started) (H : Type) (enc : TypeId × Value → H) :
    ReturnsInHanded {} Try.checked os 4 .any (Rows.squeezeBackSpec.pre6 enc Try.prog Try.f4 Rows.squeezeBackRow.domain false) (Rows.squeezeBackSpec.post enc Try.prog Try.f4 false true false false) := by
  refine returnsInHanded_of_change (C := Try.checked) own started (by kernel_rfl) Try.func4
    (ChangeSpec.witness6 (enc := enc) (C := Try.checked) false ⟨#[], #[.string ByteArray.empty, .int .u16 0], []⟩ 8 (by kernel_rfl) (by kernel_rfl) (by kernel_rfl) (by kernel_rfl)) ?_
  intro W base args ds gs before hval0 hW hcnd _
  have hval : ∀ (j : Nat) t v, Try.f4.params[j]? = some t → args[j]? = some v → Value.okWide Try.prog W .any base t v := hval0
  have hW' := hW
  obtain ⟨p, q, hA0, hV, rfl, hfz, hnd⟩ := hW
  have hA : DataW.TrodAll enc Try.prog W 0 (fun _ => true) true Try.f4.params.toList args.toList ds p := hA0
  rw [Try.params4] at hA hval
  obtain ⟨v0, vs0, d0, ds0, p0, q0, hargs, rfl, rfl, h0, r0⟩ := trodAll_cons hA
  obtain ⟨v1, vs1, d1, ds1, p1, q1, rfl, rfl, rfl, h1, r1⟩ := trodAll_cons r0
  obtain ⟨rfl, rfl, rfl⟩ := trodAll_nil r1
  obtain rfl : args = #[v0, v1] := by cases args; simp_all
  obtain ⟨rfl, rfl⟩ := trodVars_none hV
  obtain ⟨l0, rfl, rfl, rfl, n0⟩ := open_string Try.underlying9 (hval 0 9 v0 rfl rfl) h0
  obtain ⟨l1, rfl, rfl, rfl, n1⟩ := open_int Try.underlying27 (hval 1 27 v1 rfl rfl) h1
  clear hA0 hval0
  simp only [List.append_nil] at hW'
  refine (walk l0 l1 n0 n1 W).mono fun e W' ⟨he, bel⟩ => ?_
  subst he
  exact ⟨_, rfl, _, _, _, [], _, [], hW', trodAll_mk1 (shut_bool Try.underlying4 _), (trodAll_cons_mk (shut_string Try.underlying9 n0) (trodAll_cons_mk (shut_int Try.underlying27 n1) trodAll_mk0)), rfl, bel.frame _, fun h => by cases h⟩

theorem over : Rows.squeezeBackRow.holds Try.pinned (OpenSpec.ofChange Rows.squeezeBackSpec) :=
  OpenClaim.holds_of_wide 4 Try.f4 rfl rfl rfl rfl rfl rfl rfl ⟨rfl, rfl, rfl, rfl, rfl⟩ rfl rfl rfl rfl rfl (by kernel_rfl) Try.func4 (by kernel_rfl)
    (of_decide_eq_true (by kernel_rfl)) (by unfold Func.isWrapper; first | (rw [if_pos (by decide +kernel)]; kernel_rfl) | (rw [if_neg (by decide +kernel)]; exact ⟨rfl, rfl⟩))
    (fun os started H enc _ => lifted os started H enc)

theorem proved : Rows.SqueezeBackSaid :=
  over
#print axioms proved
end Go.Proofs.Ytpjihjbgihionaa.squeezeBack
