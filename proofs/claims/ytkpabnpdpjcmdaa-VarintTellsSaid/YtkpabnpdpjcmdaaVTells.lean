/-
  For all numbers, widths and texts: what varint puts and reads, each of its six calls, is the document's. Longer texts than the bound are answered by the case shown alone. No condition.
-/
import Derived.Test.YtkpabnpdpjcmdaaRows
import Derived.Test.YtkpabnpdpjcmdaaVShown
import Derived.Test.YtkpabnpdpjcmdaaVRText
import Derived.Test.YtkpabnpdpjcmdaaVRBig
import Derived.Test.YtkpabnpdpjcmdaaQTail
import Derived.ShutString
import Derived.ChangeOld
namespace Go.Proofs.Ytkpabnpdpjcmdaa.varintTells
open Go.ChangeShapes Go.WideShapes Go.ChangeAt Go.RowKit
open Go.ChangeMaps (open_string shut_string)
set_option linter.unusedVariables false

theorem both_fixed (s : ByteArray) (k : Int) (hs : s.size ≤ 65536) : ∃ (n er : Nat) (r : ByteArray),
    (∀ w, Calls Try.prog 13 #[.string s, .int .i64 k] w fun e w' => e = .returned (.tuple #[.int .u64 (n : Int), .string r, .int .i64 (er : Int)]) ∧ Below w.heap.size w w') ∧
    (∀ w, Calls Try.prog 14 #[.string s, .int .i64 k] w fun e w' => e = .returned (.tuple #[.int .u64 (n : Int), .string r, .int .i64 (er : Int)]) ∧ Below w.heap.size w w') := by
  by_cases h : k < 1 ∨ 8 < k
  · exact ⟨0, 1, _, fun w => v_Fixed_no s k w h, fun w => r_Fixed_no s k w h⟩
  · obtain ⟨j, rfl⟩ := Int.eq_ofNat_of_zero_le (show 0 ≤ k by omega)
    by_cases hz : j ≤ s.size
    · exact ⟨_, 0, _, fun w => v_Fixed s j w (by omega) (by omega) hs _ _ _ (.inl ⟨hz, rfl, rfl, rfl⟩), fun w => r_Fixed s j w (by omega) (by omega) hs _ _ _ (.inl ⟨hz, rfl, rfl, rfl⟩)⟩
    · exact ⟨0, 40, _, fun w => v_Fixed s j w (by omega) (by omega) hs _ _ _ (.inr ⟨by omega, rfl, rfl, rfl⟩), fun w => r_Fixed s j w (by omega) (by omega) hs _ _ _ (.inr ⟨by omega, rfl, rfl, rfl⟩)⟩
theorem both_big (n : Nat) (k : Int) (hn : n < 18446744073709551616) : ∃ (r : ByteArray),
    (∀ w, Calls Try.prog 19 #[.int .u64 (n : Int), .int .i64 k] w fun e w' => e = .returned (.string r) ∧ Below w.heap.size w w') ∧
    (∀ w, Calls Try.prog 20 #[.int .u64 (n : Int), .int .i64 k] w fun e w' => e = .returned (.string r) ∧ Below w.heap.size w w') := by
  by_cases h : k < 1 ∨ 8 < k
  · exact ⟨_, fun w => v_Big_no _ k w h, fun w => r_Big_no _ k w h⟩
  · obtain ⟨j, rfl⟩ := Int.eq_ofNat_of_zero_le (show 0 ≤ k by omega)
    exact ⟨_, fun w => v_Big n j w (by omega) (by omega) hn, fun w => r_Big n j w (by omega) (by omega) hn⟩
set_option maxHeartbeats 2000000 in
set_option maxRecDepth 100000 in
theorem walk (x0 k : Int) (s : ByteArray) (n0 : (Lit.int .u64 x0).wf = true) (n1 : (Lit.int .i64 k).wf = true) (n2 : s.size ≤ maxLen) (w : World) :
    Calls Try.prog 3 #[.int .u64 x0, .int .i64 k, .string s] w fun e w' => e = .returned (.bool true) ∧ Below w.heap.size w w' := by
  obtain ⟨n, rfl, hn⟩ := nat_u64 x0 n0
  have hS := fun w => l4_shown w
  have HS := Lib.hid hS
  clear hS n0
  by_cases h1 : 1024 < s.size
  · have g1 : (1024 : Int) < (s.size : Int) := by omega
    go_enter Try.func3, Try.ntmps3
    go_wp2_with (go_at_call 8; (with_reducible refine (HS.out _).mono ?_); rintro e w1 ⟨rfl, hb1⟩)
    go_ret
    exact ⟨rfl, hb1⟩
  have g1 : ¬ (1024 : Int) < (s.size : Int) := by omega
  have hs : s.size ≤ 65536 := by omega
  obtain ⟨gn, gk, ge, hg⟩ : ∃ n k g, getL (sl s) = (n, k, g) := ⟨_, _, _, rfl⟩
  obtain ⟨gr, hgr⟩ : ∃ r, tx ((sl s).drop gk) = r := ⟨_, rfl⟩
  obtain ⟨rx, ry, re, hr⟩ : ∃ n k g, readL (sl s) = (n, k, g) := ⟨_, _, _, rfl⟩
  obtain ⟨ra, hra⟩ : ∃ r, tx rx = r := ⟨_, rfl⟩
  obtain ⟨rb, hrb⟩ : ∃ r, tx ry = r := ⟨_, rfl⟩
  obtain ⟨fn, fe, fr, hF, hFr⟩ := both_fixed s k hs
  obtain ⟨bt, hB, hBr⟩ := both_big n k hn
  have hG := fun w => v_Get s w hs gn gk ge gr hg hgr
  have hGr := fun w => r_VGet s w hs gn gk ge gr hg hgr
  have hR := fun w => v_Read s w hs rx ry re ra rb hr hra hrb
  have hRr := fun w => rv_Read s w hs rx ry re ra rb hr hra hrb
  have hP := fun w => v_Put n w hn
  have hPr := fun w => r_VPut n w hn
  have hT := fun w => v_Text s w hs
  have hTr := fun w => rv_Text s w hs
  generalize tx (putL n) = pt at *
  generalize tx (putL s.size ++ sl s) = tt at *
  have HG := Lib.hid hG
  have HGr := Lib.hid hGr
  have HR := Lib.hid hR
  have HRr := Lib.hid hRr
  have HF := Lib.hid hF
  have HFr := Lib.hid hFr
  have HP := Lib.hid hP
  have HPr := Lib.hid hPr
  have HT := Lib.hid hT
  have HTr := Lib.hid hTr
  have HB := Lib.hid hB
  have HBr := Lib.hid hBr
  clear hG hGr hR hRr hF hFr hP hPr hT hTr hB hBr hg hgr hr hra hrb
  go_enter Try.func3, Try.ntmps3
  go_wp2_with fail
  refine (HS.out _).mono ?_
  rintro e w1 ⟨rfl, hb1⟩
  go_wp2_with (first | (go_at_call 9; (with_reducible refine (HG.out _).mono ?_); rintro e w2 ⟨rfl, hb2⟩) | (go_at_call 10; (with_reducible refine (HGr.out _).mono ?_); rintro e w3 ⟨rfl, hb3⟩) | (go_at_call 11; (with_reducible refine (HR.out _).mono ?_); rintro e w4 ⟨rfl, hb4⟩) | (go_at_call 12; (with_reducible refine (HRr.out _).mono ?_); rintro e w5 ⟨rfl, hb5⟩) | (go_at_call 13; (with_reducible refine (HF.out _).mono ?_); rintro e w6 ⟨rfl, hb6⟩) | (go_at_call 14; (with_reducible refine (HFr.out _).mono ?_); rintro e w7 ⟨rfl, hb7⟩) | (go_at_call 15; (with_reducible refine (HP.out _).mono ?_); rintro e w8 ⟨rfl, hb8⟩) | (go_at_call 16; (with_reducible refine (HPr.out _).mono ?_); rintro e w9 ⟨rfl, hb9⟩) | (go_at_call 17; (with_reducible refine (HT.out _).mono ?_); rintro e w10 ⟨rfl, hb10⟩) | (go_at_call 18; (with_reducible refine (HTr.out _).mono ?_); rintro e w11 ⟨rfl, hb11⟩) | (go_at_call 19; (with_reducible refine (HB.out _).mono ?_); rintro e w12 ⟨rfl, hb12⟩) | (go_at_call 20; (with_reducible refine (HBr.out _).mono ?_); rintro e w13 ⟨rfl, hb13⟩))
  go_ret
  have c2 := hb1.trans (hb2.mono hb1.size)
  have c3 := c2.trans (hb3.mono c2.size)
  have c4 := c3.trans (hb4.mono c3.size)
  have c5 := c4.trans (hb5.mono c4.size)
  have c6 := c5.trans (hb6.mono c5.size)
  have c7 := c6.trans (hb7.mono c6.size)
  have c8 := c7.trans (hb8.mono c7.size)
  have c9 := c8.trans (hb9.mono c8.size)
  have c10 := c9.trans (hb10.mono c9.size)
  have c11 := c10.trans (hb11.mono c10.size)
  have c12 := c11.trans (hb12.mono c11.size)
  exact ⟨rfl, c12.trans (hb13.mono c12.size)⟩

set_option maxRecDepth 100000 in
theorem lifted (os : Os) (started : os.Started) (H : Type) (enc : TypeId × Value → H) :
    ReturnsInHanded {} Try.checked os 3 .any (Rows.varintTellsSpec.pre6 enc Try.prog Try.f3 Rows.varintTellsRow.domain false) (Rows.varintTellsSpec.post enc Try.prog Try.f3 false true false false) := by
  refine returnsInHanded_of_change (C := Try.checked) own started (by kernel_rfl) Try.func3
    (ChangeSpec.witness6 (enc := enc) (C := Try.checked) false ⟨#[], #[.int .u64 0, .int .i64 0, .string ByteArray.empty], []⟩ 8 (by kernel_rfl) (by kernel_rfl) (by kernel_rfl) (by kernel_rfl)) ?_
  intro W base args ds gs before hval0 hW hcnd _
  have hval : ∀ (j : Nat) t v, Try.f3.params[j]? = some t → args[j]? = some v → Value.okWide Try.prog W .any base t v := hval0
  have hW' := hW
  obtain ⟨p, q, hA0, hV, rfl, hfz, hnd⟩ := hW
  have hA : DataW.TrodAll enc Try.prog W 0 (fun _ => true) true Try.f3.params.toList args.toList ds p := hA0
  rw [Try.params3] at hA hval
  obtain ⟨v0, vs0, d0, ds0, p0, q0, hargs, rfl, rfl, h0, r0⟩ := trodAll_cons hA
  obtain ⟨v1, vs1, d1, ds1, p1, q1, rfl, rfl, rfl, h1, r1⟩ := trodAll_cons r0
  obtain ⟨v2, vs2, d2, ds2, p2, q2, rfl, rfl, rfl, h2, r2⟩ := trodAll_cons r1
  obtain ⟨rfl, rfl, rfl⟩ := trodAll_nil r2
  obtain rfl : args = #[v0, v1, v2] := by cases args; simp_all
  obtain ⟨rfl, rfl⟩ := trodVars_none hV
  obtain ⟨l0, rfl, rfl, rfl, n0⟩ := open_int Try.underlying22 (hval 0 22 v0 rfl rfl) h0
  obtain ⟨l1, rfl, rfl, rfl, n1⟩ := open_int Try.underlying3 (hval 1 3 v1 rfl rfl) h1
  obtain ⟨l2, rfl, rfl, rfl, n2⟩ := open_string Try.underlying9 (hval 2 9 v2 rfl rfl) h2
  clear hA0 hval0
  simp only [List.append_nil] at hW'
  refine (walk l0 l1 l2 n0 n1 n2 W).mono fun e W' ⟨he, bel⟩ => ?_
  subst he
  exact ⟨_, rfl, _, _, _, [], _, [], hW', trodAll_mk1 (shut_bool Try.underlying4 _), (trodAll_cons_mk (shut_int Try.underlying22 n0) (trodAll_cons_mk (shut_int Try.underlying3 n1) (trodAll_cons_mk (shut_string Try.underlying9 n2) trodAll_mk0))), rfl, bel.frame _, fun h => by cases h⟩

theorem over : Rows.varintTellsRow.holds Try.pinned (OpenSpec.ofChange Rows.varintTellsSpec) :=
  OpenClaim.holds_of_wide 3 Try.f3 rfl rfl rfl rfl rfl rfl rfl ⟨rfl, rfl, rfl, rfl, rfl⟩ rfl rfl rfl rfl rfl (by kernel_rfl) Try.func3 (by kernel_rfl)
    (of_decide_eq_true (by kernel_rfl)) (by unfold Func.isWrapper; first | (rw [if_pos (by decide +kernel)]; kernel_rfl) | (rw [if_neg (by decide +kernel)]; exact ⟨rfl, rfl⟩))
    (fun os started H enc _ => lifted os started H enc)

theorem proved : Rows.VarintTellsSaid :=
  over
#print axioms proved
end Go.Proofs.Ytkpabnpdpjcmdaa.varintTells
