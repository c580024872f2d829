/-
  For all lists of pieces: what they are packed to, or the error, and how many bits they are, is the document's. Longer lists than the bound are answered by the case shown alone. No condition.
-/
import Derived.Test.YtpjfafefgmjmfaaRows
import Derived.Test.YtpjfafefgmjmfaaJShown
import Derived.Test.YtpjfafefgmjmfaaJRPackW
import Derived.Test.YtpjfafefgmjmfaaJOpen
import Derived.ShutString
import Derived.ChangeOld
namespace Go.Proofs.Ytpjfafefgmjmfaa.bitioPacks
open Go.ChangeShapes Go.WideShapes Go.ChangeAt Go.RowKit
open Go.ChangeMaps (open_string shut_string)
set_option linter.unusedVariables false

set_option maxHeartbeats 1000000 in
set_option maxRecDepth 100000 in
theorem walk (l : List (Nat × Int)) (p : Option Addr) (cap : Nat) (hu : ∀ q ∈ l, q.1 < 4294967296) (w : World) (hS : Sl w 2 (.slice p l.length cap) (rowsP l)) :
    Calls Try.prog 3 #[.slice p l.length cap] w fun e w' => e = .returned (.bool true) ∧ Below w.heap.size w w' := by
  have hSh := fun w => l6_shown w
  have HSh := Lib.hid hSh
  clear hSh
  by_cases h1 : 300 < l.length
  · have g1 : (300 : Int) < (l.length : Int) := by omega
    go_enter Try.func3, Try.ntmps3
    go_wp2_with (go_at_call 8; (with_reducible refine (HSh.out _).mono ?_); rintro e w1 ⟨rfl, hb1⟩)
    go_ret
    exact ⟨rfl, hb1⟩
  have g1 : ¬ (300 : Int) < (l.length : Int) := by omega
  obtain ⟨s, er, hE⟩ : ∃ (s : ByteArray) (er : Nat), ((∀ q ∈ l, mayP q) ∧ s = tx (bytesB (bitsP l)) ∧ er = 0) ∨ (¬ (∀ q ∈ l, mayP q) ∧ s = ⟨#[]⟩ ∧ er = 1) := by
    by_cases h : ∀ q ∈ l, mayP q
    · exact ⟨_, _, .inl ⟨h, rfl, rfl⟩⟩
    · exact ⟨_, _, .inr ⟨h, rfl, rfl⟩⟩
  have hP := fun w h => i_Pack l p cap w (by omega) hu h s er hE
  have hR := fun p cap w h => r_Pack l p cap w (by omega) hu h s er hE
  have hZ := fun w h => i_Size l p cap w (by omega) h
  have hRZ := fun p cap w h => r_Size l p cap w (by omega) hu h
  have hT := fun w h => l6_theirs l p cap w (by omega) h
  have HP := Lib.hid hP
  have HR := Lib.hid hR
  have HZ := Lib.hid hZ
  have HRZ := Lib.hid hRZ
  have HT := Lib.hid hT
  have hrl := rowsP_len l
  have HRL := Lib.hid hrl
  have hts := txt_same s
  clear hP hR hZ hRZ hT hE hrl
  generalize sizeP l = sz at *
  go_enter Try.func3, Try.ntmps3
  go_wp2_with (go_at_call 8; (with_reducible refine (HSh.out _).mono ?_); rintro e w1 ⟨rfl, hb1⟩)
  (with_reducible refine (HP.out _ (hS.below hb1)).mono ?_)
  rintro e w2 ⟨rfl, hb2⟩
  have c2 := hb1.trans (hb2.mono hb1.size)
  clear hb1 hb2
  go_wp2_with fail
  (with_reducible refine (HT.out _ (hS.below c2)).mono ?_)
  rintro e w3 ⟨v3, rfl, ho3, hb3⟩
  have c3 := c2.trans (hb3.mono c2.size)
  obtain ⟨p3, cap3, e3⟩ := ho3.isSlice
  have hs3 := ho3.sl
  rw [HRL.out] at e3
  subst e3
  clear c2 hb3 ho3
  go_wp2_with fail
  (with_reducible refine (HR.out _ _ _ hs3).mono ?_)
  rintro e w4 ⟨rfl, hb4⟩
  have c4 := c3.trans (hb4.mono c3.size)
  clear c3 hb4 hs3
  go_wp2_with fail
  (with_reducible refine (HZ.out _ (hS.below c4)).mono ?_)
  rintro e w5 ⟨rfl, hb5⟩
  have c5 := c4.trans (hb5.mono c4.size)
  clear c4 hb5
  go_wp2_with fail
  (with_reducible refine (HT.out _ (hS.below c5)).mono ?_)
  rintro e w6 ⟨v6, rfl, ho6, hb6⟩
  have c6 := c5.trans (hb6.mono c5.size)
  obtain ⟨p6, cap6, e6⟩ := ho6.isSlice
  have hs6 := ho6.sl
  rw [HRL.out] at e6
  subst e6
  clear c5 hb6 ho6
  go_wp2_with fail
  (with_reducible refine (HRZ.out _ _ _ hs6).mono ?_)
  rintro e w7 ⟨rfl, hb7⟩
  have c7 := c6.trans (hb7.mono c6.size)
  clear c6 hb7 hs6
  go_wp2
  go_ret
  exact ⟨rfl, c7⟩

set_option maxRecDepth 100000 in
theorem lifted (os : Os) (started : os.Started) (H : Type) (enc : TypeId × Value → H) :
    ReturnsInHanded {} Try.checked os 3 .any (Rows.bitioPacksSpec.pre6 enc Try.prog Try.f3 Rows.bitioPacksRow.domain false) (Rows.bitioPacksSpec.post enc Try.prog Try.f3 false true false false) := by
  refine returnsInHanded_of_change (C := Try.checked) own started (by kernel_rfl) Try.func3
    (ChangeSpec.witness6 (enc := enc) (C := Try.checked) false ⟨#[], #[.slice none 0 0], []⟩ 8 (by kernel_rfl) (by kernel_rfl) (by kernel_rfl) (by kernel_rfl)) ?_
  intro W base args ds gs before hval0 hW hcnd _
  have hval : ∀ (j : Nat) t v, Try.f3.params[j]? = some t → args[j]? = some v → Value.okWide Try.prog W .any base t v := hval0
  have hW' := hW
  obtain ⟨p, q, hA0, hV, rfl, hfz, hnd⟩ := hW
  have hA : DataW.TrodAll enc Try.prog W 0 (fun _ => true) true Try.f3.params.toList args.toList ds p := hA0
  rw [Try.params3] at hA hval
  obtain ⟨v0, vs0, d0, ds0, p0, q0, hargs, rfl, rfl, h0, r0⟩ := trodAll_cons hA
  obtain ⟨rfl, rfl, rfl⟩ := trodAll_nil r0
  obtain rfl : args = #[v0] := by cases args; simp_all
  obtain ⟨rfl, rfl⟩ := trodVars_none hV
  have k0 := h0
  have lt0 : ∀ x ∈ p0, x.block < W.heap.size := by obtain ⟨m, hm⟩ := k0; exact DataW.trod_lt m _ _ _ hm
  obtain ⟨a0, m0, c0, rfl⟩ := Go.WideShapes.okWide_slice Try.underlying22 (hval 0 22 v0 rfl rfl)
  obtain ⟨l0, rfl, S0, n0⟩ := open_pieces h0
  clear hA0 hval0
  simp only [List.append_nil] at hW'
  refine (walk l0 a0 c0 n0 W S0).mono fun e W' ⟨he, bel⟩ => ?_
  subst he
  exact ⟨_, rfl, _, _, _, [], _, [], hW', trodAll_mk1 (shut_bool Try.underlying4 _), (trodAll_cons_mk (Below.trod laidOut (by kernel_rfl) (of_decide_eq_true (by kernel_rfl)) k0 bel lt0) trodAll_mk0), rfl, bel.frame _, fun h => by cases h⟩

theorem over : Rows.bitioPacksRow.holds Try.pinned (OpenSpec.ofChange Rows.bitioPacksSpec) :=
  OpenClaim.holds_of_wide 3 Try.f3 rfl rfl rfl rfl rfl rfl rfl ⟨rfl, rfl, rfl, rfl, rfl⟩ rfl rfl rfl rfl rfl (by kernel_rfl) Try.func3 (by kernel_rfl)
    (of_decide_eq_true (by kernel_rfl)) (by unfold Func.isWrapper; first | (rw [if_pos (by decide +kernel)]; kernel_rfl) | (rw [if_neg (by decide +kernel)]; exact ⟨rfl, rfl⟩))
    (fun os started H enc _ => lifted os started H enc)

theorem proved : Rows.BitioPacksSaid :=
  over
#print axioms proved
end Go.Proofs.Ytpjfafefgmjmfaa.bitioPacks
