/-
  For all texts: the sum and the frame of the one, and the first frame and all frames of the other, are the document's, or its error. Longer texts than the bound are answered by the case shown alone. No condition.
-/
import Derived.Test.YtlolcpfkaoembaaRows
import Derived.Test.YtlolcpfkaoembaaKB
import Derived.Test.YtlolcpfkaoembaaKC
import Derived.Test.YtlolcpfkaoembaaG1
import Derived.ShutString
import Derived.ChangeOld
namespace Go.Proofs.Ytlolcpfkaoembaa.checkTells
open Go.ChangeShapes Go.WideShapes Go.ChangeAt Go.RowKit
open Go.ChangeMaps (open_string shut_string)
set_option linter.unusedVariables false

theorem both_frame (s : ByteArray) (hs : s.size ≤ 60000) : ∃ (f : ByteArray) (e : Nat),
    (∀ w : World, Calls Try.prog 10 #[.string s] w fun r w' => r = .returned (.tuple #[.string f, .int .i64 (e : Int)]) ∧ Below w.heap.size w w') ∧
    (∀ w : World, Calls Try.prog 11 #[.string s] w fun r w' => r = .returned (.tuple #[.string f, .int .i64 (e : Int)]) ∧ Below w.heap.size w w') := by
  by_cases h : s.size ≤ 1024
  · exact ⟨_, 0, fun w => k_Frame s w h _ rfl, fun w => kr_Frame s w h _ rfl⟩
  · exact ⟨⟨#[]⟩, 90, fun w => (k_Frame_no s w (by omega)).mono fun e w' ⟨h1, h2⟩ => ⟨h1, by rw [← h2]; exact Below.refl _ _⟩, fun w => (kr_Frame_no s w (by omega)).mono fun e w' ⟨h1, h2⟩ => ⟨h1, by rw [← h2]; exact Below.refl _ _⟩⟩
theorem both_first (t : ByteArray) (ht : t.size ≤ 60000) : ∃ (x r : ByteArray) (e : Nat),
    (∀ w : World, Calls Try.prog 12 #[.string t] w fun k w' => k = .returned (.tuple #[.string x, .string r, .int .i64 (e : Int)]) ∧ Below w.heap.size w w') ∧
    (∀ w : World, Calls Try.prog 13 #[.string t] w fun k w' => k = .returned (.tuple #[.string x, .string r, .int .i64 (e : Int)]) ∧ Below w.heap.size w w') :=
  ⟨_, _, _, fun w => k_First t w ht, fun w => kr_First t w ht⟩
set_option maxHeartbeats 2000000 in
set_option maxRecDepth 100000 in
theorem walk (s t : ByteArray) (n0 : s.size ≤ maxLen) (n1 : t.size ≤ maxLen) (w : World) :
    Calls Try.prog 3 #[.string s, .string t] w fun e w' => e = .returned (.bool true) ∧ Below w.heap.size w w' := by
  have HS := Lib.hid (fun w => k_shown w)
  by_cases h1 : 1200 < s.size
  · have g1 : (1200 : Int) < (s.size : Int) := by omega
    go_enter Try.func3, Try.ntmps3
    go_wp2_with (go_at_call 9; (with_reducible refine (HS.out _).mono ?_); rintro e w1 ⟨rfl, hb1⟩)
    go_ret
    exact ⟨rfl, hb1⟩
  have g1 : ¬ (1200 : Int) < (s.size : Int) := by omega
  by_cases h2 : 1200 < t.size
  · have g2 : (1200 : Int) < (t.size : Int) := by omega
    go_enter Try.func3, Try.ntmps3
    go_wp2_with (go_at_call 9; (with_reducible refine (HS.out _).mono ?_); rintro e w1 ⟨rfl, hb1⟩)
    go_ret
    exact ⟨rfl, hb1⟩
  have g2 : ¬ (1200 : Int) < (t.size : Int) := by omega
  have hs : s.size ≤ 60000 := by omega
  have ht : t.size ≤ 60000 := by omega
  obtain ⟨f, fe, hF, hFr⟩ := both_frame s hs
  obtain ⟨x, r, ge, hG, hGr⟩ := both_first t ht
  have HF := Lib.hid hF
  have HFr := Lib.hid hFr
  have HG := Lib.hid hG
  have HGr := Lib.hid hGr
  have HA := Lib.hid (fun w => k_All t w ht)
  have HAr := Lib.hid (fun w => kr_All t w ht)
  have hS1 := fun w => k_Sum s w (by omega)
  have hS2 := fun w => kr_Sum s w (by omega)
  generalize sumK (sl s) = sm at *
  have HS1 := Lib.hid hS1
  have HS2 := Lib.hid hS2
  have hal : ((allK (sl t)).1).length ≤ 1000000 := by
    have h := (taken_all (sl t)).2
    rw [← h, List.length_map]
    have h3 := frL_len (sl t)
    rw [sl_len] at h3
    omega
  have HAL := Lib.hid hal
  clear hF hFr hG hGr hS1 hS2 hal
  unfold AllRet at HA HAr
  generalize allK (sl t) = al at *
  obtain ⟨L, N⟩ := al
  dsimp only at HA HAr HAL
  go_enter Try.func3, Try.ntmps3
  go_wp2_with (first | (go_at_call 9; (with_reducible refine (HS.out _).mono ?_); rintro e w1 ⟨rfl, hb1⟩) | (go_at_call 10; (with_reducible refine (HF.out _).mono ?_); rintro e w2 ⟨rfl, hb2⟩) | (go_at_call 11; (with_reducible refine (HFr.out _).mono ?_); rintro e w3 ⟨rfl, hb3⟩) | (go_at_call 12; (with_reducible refine (HG.out _).mono ?_); rintro e w4 ⟨rfl, hb4⟩) | (go_at_call 13; (with_reducible refine (HGr.out _).mono ?_); rintro e w5 ⟨rfl, hb5⟩) | (go_at_call 14; (with_reducible refine (HA.out _).mono ?_); rintro e w6 ⟨v6, rfl, ho6, hb6⟩; have s6 := ho6.sl; obtain ⟨p6, c6, rfl⟩ := ho6.isSlice; have S6 := Lib.hid s6; clear s6 ho6) | (go_at_call 15; (with_reducible refine (HAr.out _).mono ?_); rintro e w7 ⟨v7, rfl, ho7, hb7⟩; have s7 := ho7.sl; obtain ⟨p7, c7, rfl⟩ := ho7.isSlice; have S7 := Lib.hid s7; clear s7 ho7) | (go_at_call 16; (with_reducible refine (HS1.out _).mono ?_); rintro e w8 ⟨rfl, hb8⟩) | (go_at_call 17; (with_reducible refine (HS2.out _).mono ?_); rintro e w9 ⟨rfl, rfl⟩))
  have q6 := (S6.out.below hb7).below hb8
  have q7 := S7.out.below hb8
  rw [rowsS_len] at q6 q7 ⊢
  refine (kr_Same L p6 p7 c6 c7 w8 HAL.out q6 q7).mono ?_
  rintro e w10 ⟨rfl, hb10⟩
  clear q6 q7 S6 S7
  go_wp2
  go_ret
  have a2 := hb1.trans (hb2.mono hb1.size)
  have a3 := a2.trans (hb3.mono a2.size)
  have a4 := a3.trans (hb4.mono a3.size)
  have a5 := a4.trans (hb5.mono a4.size)
  have a6 := a5.trans (hb6.mono a5.size)
  have a7 := a6.trans (hb7.mono a6.size)
  have a8 := a7.trans (hb8.mono a7.size)
  exact ⟨rfl, a8.trans (hb10.mono a8.size)⟩

set_option maxRecDepth 100000 in
theorem lifted (os : Os) (started : os.Started) (H : Type) (enc : TypeId × Value → H) :
    ReturnsInHanded {} Try.checked os 3 .any (Rows.checkTellsSpec.pre6 enc Try.prog Try.f3 Rows.checkTellsRow.domain false) (Rows.checkTellsSpec.post enc Try.prog Try.f3 false true false false) := by
  refine returnsInHanded_of_change (C := Try.checked) own started (by kernel_rfl) Try.func3
    (ChangeSpec.witness6 (enc := enc) (C := Try.checked) false ⟨#[], #[.string ByteArray.empty, .string ByteArray.empty], []⟩ 8 (by kernel_rfl) (by kernel_rfl) (by kernel_rfl) (by kernel_rfl)) ?_
  intro W base args ds gs before hval0 hW hcnd _
  have hval : ∀ (j : Nat) t v, Try.f3.params[j]? = some t → args[j]? = some v → Value.okWide Try.prog W .any base t v := hval0
  have hW' := hW
  obtain ⟨p, q, hA0, hV, rfl, hfz, hnd⟩ := hW
  have hA : DataW.TrodAll enc Try.prog W 0 (fun _ => true) true Try.f3.params.toList args.toList ds p := hA0
  rw [Try.params3] at hA hval
  obtain ⟨v0, vs0, d0, ds0, p0, q0, hargs, rfl, rfl, h0, r0⟩ := trodAll_cons hA
  obtain ⟨v1, vs1, d1, ds1, p1, q1, rfl, rfl, rfl, h1, r1⟩ := trodAll_cons r0
  obtain ⟨rfl, rfl, rfl⟩ := trodAll_nil r1
  obtain rfl : args = #[v0, v1] := by cases args; simp_all
  obtain ⟨rfl, rfl⟩ := trodVars_none hV
  obtain ⟨l0, rfl, rfl, rfl, n0⟩ := open_string Try.underlying9 (hval 0 9 v0 rfl rfl) h0
  obtain ⟨l1, rfl, rfl, rfl, n1⟩ := open_string Try.underlying9 (hval 1 9 v1 rfl rfl) h1
  clear hA0 hval0
  simp only [List.append_nil] at hW'
  refine (walk l0 l1 n0 n1 W).mono fun e W' ⟨he, bel⟩ => ?_
  subst he
  exact ⟨_, rfl, _, _, _, [], _, [], hW', trodAll_mk1 (shut_bool Try.underlying4 _), (trodAll_cons_mk (shut_string Try.underlying9 n0) (trodAll_cons_mk (shut_string Try.underlying9 n1) trodAll_mk0)), rfl, bel.frame _, fun h => by cases h⟩

theorem over : Rows.checkTellsRow.holds Try.pinned (OpenSpec.ofChange Rows.checkTellsSpec) :=
  OpenClaim.holds_of_wide 3 Try.f3 rfl rfl rfl rfl rfl rfl rfl ⟨rfl, rfl, rfl, rfl, rfl⟩ rfl rfl rfl rfl rfl (by kernel_rfl) Try.func3 (by kernel_rfl)
    (of_decide_eq_true (by kernel_rfl)) (by unfold Func.isWrapper; first | (rw [if_pos (by decide +kernel)]; kernel_rfl) | (rw [if_neg (by decide +kernel)]; exact ⟨rfl, rfl⟩))
    (fun os started H enc _ => lifted os started H enc)

theorem proved : Rows.CheckTellsSaid :=
  over
#print axioms proved
end Go.Proofs.Ytlolcpfkaoembaa.checkTells
