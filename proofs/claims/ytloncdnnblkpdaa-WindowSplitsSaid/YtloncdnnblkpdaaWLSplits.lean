/-
  For all texts and places: the tokens, and what matches there, are the document's. Longer texts than the bound are answered by the case shown alone. No condition.
-/
import Derived.Test.YtloncdnnblkpdaaRows
import Derived.Test.YtloncdnnblkpdaaWShown
import Derived.ShutString
import Derived.ChangeOld
namespace Go.Proofs.Ytloncdnnblkpdaa.windowSplits
open Go.ChangeShapes Go.WideShapes Go.ChangeAt Go.RowKit
open Go.ChangeMaps (open_string shut_string)
set_option linter.unusedVariables false

set_option maxHeartbeats 4000000 in
set_option maxRecDepth 100000 in
theorem walk (s : ByteArray) (x : Int) (hm : s.size ≤ maxLen) (hw : (Lit.int .i64 x).wf = true) (w : World) :
    Calls Try.prog 3 #[.string s, .int .i64 x] w fun e w' => e = .returned (.bool true) ∧ Below w.heap.size w w' := by
  have hSh := fun w => l8_shown w
  have HSh := Lib.hid hSh
  clear hSh hm hw
  by_cases h1 : 1500 < s.size
  · have g1 : (1500 : Int) < (s.size : Int) := by omega
    go_enter Try.func3, Try.ntmps3
    go_wp2_with (go_at_call 8; (with_reducible refine (HSh.out _).mono ?_); rintro e w1 ⟨rfl, hb1⟩)
    go_ret
    exact ⟨rfl, hb1⟩
  have g1 : ¬ (1500 : Int) < (s.size : Int) := by omega
  have HM := Lib.hid (fun w => p_Match s x w (by omega))
  have HR := Lib.hid (fun w => r_Match s x w (by omega))
  have HP := Lib.hid (fun w => p_Split s w (by omega))
  have HQ := Lib.hid (fun w => r_Split s w (by omega))
  have hlen := splitW_len (sl s) s.size 0
  rw [sl_len] at hlen
  generalize matchZ (sl s) x = m at *
  generalize splitW (sl s) s.size 0 = T at *
  have hT : T.length ≤ 100000 := by omega
  clear hlen h1
  go_enter Try.func3, Try.ntmps3
  go_wp2_with (go_at_call 8; (with_reducible refine (HSh.out _).mono ?_); rintro e w1 ⟨rfl, hb1⟩)
  (with_reducible refine (HM.out _).mono ?_)
  rintro e w2 ⟨rfl, hb2⟩
  have hb3 := hb1.trans (hb2.mono hb1.size)
  clear hb1 hb2 HM
  go_wp2_with fail
  (with_reducible refine (HR.out _).mono ?_)
  rintro e w3 ⟨rfl, hd3⟩
  have hb4 := Lib.hid (hb3.trans (hd3.below.mono hb3.size))
  clear hb3 hd3 HR
  go_wp2_with fail
  (with_reducible refine (HP.out _).mono ?_)
  rintro e w4 ⟨v4, rfl, ho4, hb5⟩
  obtain ⟨p4, c4, rfl, hs4⟩ := ho4.shape
  rw [rowsT_len] at ho4 ⊢
  have HT := Lib.hid (l8_theirs T p4 c4 w4 ho4.sl hT)
  have hb6 := Lib.hid (hb4.out.trans (hb5.mono hb4.out.size))
  clear ho4 hs4 hb5 hb4 HP
  go_wp2_with fail
  (with_reducible refine HT.out.mono ?_)
  rintro e w5 ⟨v5, rfl, ho5, hb7⟩
  obtain ⟨p5, c5, rfl, hs5⟩ := ho5.shape
  rw [rowsT_len] at ho5 ⊢
  have HO5 := Lib.hid ho5
  have hb8 := Lib.hid (hb6.out.trans (hb7.mono hb6.out.size))
  clear ho5 hb7 hb6 HT
  go_wp2_with fail
  (with_reducible refine (HQ.out _).mono ?_)
  rintro e w6 ⟨v6, rfl, ho6, hb9⟩
  obtain ⟨p6, c6, rfl, hs6⟩ := ho6.shape
  rw [rowsT_len] at ho6 ⊢
  have HS := Lib.hid (r_Same T p5 p6 c5 c6 w6 (HO5.out.keep hb9).sl hs5 ho6.sl hs6 hT)
  have hb10 := Lib.hid (hb8.out.trans (hb9.mono hb8.out.size))
  clear HO5 hs5 ho6 hs6 hb9 hb8 HQ
  go_wp2_with fail
  (with_reducible refine HS.out.mono ?_)
  rintro e w7 ⟨rfl, hd⟩
  have hb11 := Lib.hid (hb10.out.trans (hd.below.mono hb10.out.size))
  clear hd hb10 HS
  go_wp2
  go_ret
  exact ⟨rfl, hb11.out⟩

set_option maxRecDepth 100000 in
theorem lifted (os : Os) (started : os.Started) (H : Type) (enc : TypeId × Value → H) :
    ReturnsInHanded {} Try.checked os 3 .any (Rows.windowSplitsSpec.pre6 enc Try.prog Try.f3 Rows.windowSplitsRow.domain false) (Rows.windowSplitsSpec.post enc Try.prog Try.f3 false true false false) := by
  refine returnsInHanded_of_change (C := Try.checked) own started (by kernel_rfl) Try.func3
    (ChangeSpec.witness6 (enc := enc) (C := Try.checked) false ⟨#[], #[.string ByteArray.empty, .int .i64 0], []⟩ 8 (by kernel_rfl) (by kernel_rfl) (by kernel_rfl) (by kernel_rfl)) ?_
  intro W base args ds gs before hval0 hW hcnd _
  have hval : ∀ (j : Nat) t v, Try.f3.params[j]? = some t → args[j]? = some v → Value.okWide Try.prog W .any base t v := hval0
  have hW' := hW
  obtain ⟨p, q, hA0, hV, rfl, hfz, hnd⟩ := hW
  have hA : DataW.TrodAll enc Try.prog W 0 (fun _ => true) true Try.f3.params.toList args.toList ds p := hA0
  rw [Try.params3] at hA hval
  obtain ⟨v0, vs0, d0, ds0, p0, q0, hargs, rfl, rfl, h0, r0⟩ := trodAll_cons hA
  obtain ⟨v1, vs1, d1, ds1, p1, q1, rfl, rfl, rfl, h1, r1⟩ := trodAll_cons r0
  obtain ⟨rfl, rfl, rfl⟩ := trodAll_nil r1
  obtain rfl : args = #[v0, v1] := by cases args; simp_all
  obtain ⟨rfl, rfl⟩ := trodVars_none hV
  obtain ⟨l0, rfl, rfl, rfl, n0⟩ := open_string Try.underlying9 (hval 0 9 v0 rfl rfl) h0
  obtain ⟨l1, rfl, rfl, rfl, n1⟩ := open_int Try.underlying3 (hval 1 3 v1 rfl rfl) h1
  clear hA0 hval0
  simp only [List.append_nil] at hW'
  refine (walk l0 l1 n0 n1 W).mono fun e W' ⟨he, bel⟩ => ?_
  subst he
  exact ⟨_, rfl, _, _, _, [], _, [], hW', trodAll_mk1 (shut_bool Try.underlying4 _), (trodAll_cons_mk (shut_string Try.underlying9 n0) (trodAll_cons_mk (shut_int Try.underlying3 n1) trodAll_mk0)), rfl, bel.frame _, fun h => by cases h⟩

theorem over : Rows.windowSplitsRow.holds Try.pinned (OpenSpec.ofChange Rows.windowSplitsSpec) :=
  OpenClaim.holds_of_wide 3 Try.f3 rfl rfl rfl rfl rfl rfl rfl ⟨rfl, rfl, rfl, rfl, rfl⟩ rfl rfl rfl rfl rfl (by kernel_rfl) Try.func3 (by kernel_rfl)
    (of_decide_eq_true (by kernel_rfl)) (by unfold Func.isWrapper; first | (rw [if_pos (by decide +kernel)]; kernel_rfl) | (rw [if_neg (by decide +kernel)]; exact ⟨rfl, rfl⟩))
    (fun os started H enc _ => lifted os started H enc)

theorem proved : Rows.WindowSplitsSaid :=
  over
#print axioms proved
end Go.Proofs.Ytloncdnnblkpdaa.windowSplits
