/-
  For all tokens: what they are joined to is the document's, or its error. Longer lists than the bound are answered by the case shown alone. No condition.
-/
import Derived.Test.YtloncdnnblkpdaaRows
import Derived.Test.YtloncdnnblkpdaaWRJ
import Derived.Test.YtloncdnnblkpdaaWOpen
import Derived.ShutString
import Derived.ChangeOld
namespace Go.Proofs.Ytloncdnnblkpdaa.windowJoins
open Go.ChangeShapes Go.WideShapes Go.ChangeAt Go.RowKit
open Go.ChangeMaps (open_string shut_string)
set_option linter.unusedVariables false

set_option maxHeartbeats 4000000 in
set_option maxRecDepth 100000 in
theorem walk (T : List (Nat × Int × Int)) (p : Option Addr) (cap : Nat) (most : Int) (hu : (∀ q ∈ T, q.1 < 256) ∧ (Value.slice p T.length cap = .slice none 0 0 ∨ ∃ ad n c, Value.slice p T.length cap = .slice (some ad) n c)) (hw : (Lit.int .i64 most).wf = true) (w : World) (hS : Sl w 3 (.slice p T.length cap) (rowsT T)) :
    Calls Try.prog 4 #[.slice p T.length cap, .int .i64 most] w fun e w' => e = .returned (.bool true) ∧ Below w.heap.size w w' := by
  have hSh := fun w => l8_shown w
  have HSh := Lib.hid hSh
  have HS := Lib.hid hS
  clear hSh hw hu hS
  by_cases h1 : 300 < T.length
  · have g1 : (300 : Int) < (T.length : Int) := by omega
    go_enter Try.func4, Try.ntmps4
    go_wp2_with (go_at_call 8; (with_reducible refine (HSh.out _).mono ?_); rintro e w1 ⟨rfl, hb1⟩)
    go_ret
    exact ⟨rfl, hb1⟩
  have g1 : ¬ (300 : Int) < (T.length : Int) := by omega
  obtain ⟨⟨out, er⟩, hR⟩ : ∃ r, joinW most T [] = r := ⟨_, rfl⟩
  have HJ := Lib.hid (fun wx (h : Below w.heap.size w wx) => j_Join T p cap most wx (HS.out.below h) (by omega) out er hR)
  have HT := Lib.hid (fun wx (h : Below w.heap.size w wx) => l8_theirs T p cap wx (HS.out.below h) (by omega))
  have HRJ := Lib.hid (fun q c wx hs => r_Join T q c most wx hs (by omega) out er hR)
  have hss := txt_same (tx out)
  clear hR h1
  go_enter Try.func4, Try.ntmps4
  go_wp2_with (go_at_call 8; (with_reducible refine (HSh.out _).mono ?_); rintro e w1 ⟨rfl, hb1⟩)
  (with_reducible refine (HJ.out _ hb1).mono ?_)
  rintro e w2 ⟨rfl, hb2⟩
  have hb3 := hb1.trans (hb2.mono hb1.size)
  clear hb1 hb2 HJ
  go_wp2_with fail
  (with_reducible refine (HT.out _ hb3).mono ?_)
  rintro e w3 ⟨v3, rfl, ho3, hb4⟩
  obtain ⟨p3, c3, rfl, hs3⟩ := ho3.shape
  rw [rowsT_len] at ho3 ⊢
  have hRJ := Lib.hid (HRJ.out p3 c3 w3 ho3.sl)
  have hb5 := Lib.hid (hb3.trans (hb4.mono hb3.size))
  clear ho3 hs3 hb3 hb4 HT HRJ
  go_wp2_with fail
  (with_reducible refine hRJ.out.mono ?_)
  rintro e w4 ⟨rfl, hb6⟩
  have hb7 := Lib.hid (hb5.out.trans (hb6.mono hb5.out.size))
  clear hb6 hRJ hb5
  go_wp2
  go_ret
  exact ⟨rfl, hb7.out⟩

set_option maxRecDepth 100000 in
theorem lifted (os : Os) (started : os.Started) (H : Type) (enc : TypeId × Value → H) :
    ReturnsInHanded {} Try.checked os 4 .any (Rows.windowJoinsSpec.pre6 enc Try.prog Try.f4 Rows.windowJoinsRow.domain false) (Rows.windowJoinsSpec.post enc Try.prog Try.f4 false true false false) := by
  refine returnsInHanded_of_change (C := Try.checked) own started (by kernel_rfl) Try.func4
    (ChangeSpec.witness6 (enc := enc) (C := Try.checked) false ⟨#[], #[.slice none 0 0, .int .i64 0], []⟩ 8 (by kernel_rfl) (by kernel_rfl) (by kernel_rfl) (by kernel_rfl)) ?_
  intro W base args ds gs before hval0 hW hcnd _
  have hval : ∀ (j : Nat) t v, Try.f4.params[j]? = some t → args[j]? = some v → Value.okWide Try.prog W .any base t v := hval0
  have hW' := hW
  obtain ⟨p, q, hA0, hV, rfl, hfz, hnd⟩ := hW
  have hA : DataW.TrodAll enc Try.prog W 0 (fun _ => true) true Try.f4.params.toList args.toList ds p := hA0
  rw [Try.params4] at hA hval
  obtain ⟨v0, vs0, d0, ds0, p0, q0, hargs, rfl, rfl, h0, r0⟩ := trodAll_cons hA
  obtain ⟨v1, vs1, d1, ds1, p1, q1, rfl, rfl, rfl, h1, r1⟩ := trodAll_cons r0
  obtain ⟨rfl, rfl, rfl⟩ := trodAll_nil r1
  obtain rfl : args = #[v0, v1] := by cases args; simp_all
  obtain ⟨rfl, rfl⟩ := trodVars_none hV
  have k0 := h0
  have lt0 : ∀ x ∈ p0, x.block < W.heap.size := by obtain ⟨m, hm⟩ := k0; exact DataW.trod_lt m _ _ _ hm
  obtain ⟨a0, m0, c0, rfl⟩ := Go.WideShapes.okWide_slice Try.underlying28 (hval 0 28 v0 rfl rfl)
  obtain ⟨l0, rfl, S0, n0⟩ := open_toks h0
  obtain ⟨l1, rfl, rfl, rfl, n1⟩ := open_int Try.underlying3 (hval 1 3 v1 rfl rfl) h1
  clear hA0 hval0
  simp only [List.append_nil] at hW'
  refine (walk l0 a0 c0 l1 n0 n1 W S0).mono fun e W' ⟨he, bel⟩ => ?_
  subst he
  exact ⟨_, rfl, _, _, _, [], _, [], hW', trodAll_mk1 (shut_bool Try.underlying4 _), (trodAll_cons_mk (Below.trod laidOut (by kernel_rfl) (of_decide_eq_true (by kernel_rfl)) k0 bel lt0) (trodAll_cons_mk (shut_int Try.underlying3 n1) trodAll_mk0)), rfl, bel.frame _, fun h => by cases h⟩

theorem over : Rows.windowJoinsRow.holds Try.pinned (OpenSpec.ofChange Rows.windowJoinsSpec) :=
  OpenClaim.holds_of_wide 4 Try.f4 rfl rfl rfl rfl rfl rfl rfl ⟨rfl, rfl, rfl, rfl, rfl⟩ rfl rfl rfl rfl rfl (by kernel_rfl) Try.func4 (by kernel_rfl)
    (of_decide_eq_true (by kernel_rfl)) (by unfold Func.isWrapper; first | (rw [if_pos (by decide +kernel)]; kernel_rfl) | (rw [if_neg (by decide +kernel)]; exact ⟨rfl, rfl⟩))
    (fun os started H enc _ => lifted os started H enc)

theorem proved : Rows.WindowJoinsSaid :=
  over
#print axioms proved
end Go.Proofs.Ytloncdnnblkpdaa.windowJoins
