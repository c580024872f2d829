/-
  For all keys and texts: fewer bytes than a seal has are too few; a nonce needs sixteen; longer keys and texts than the bound are answered by the case shown alone. No condition.
-/
import Derived.Test.YtleofmeejjikmaaRows
import Derived.Test.YtleofmeejjikmaaLShown
import Derived.Test.YtleofmeejjikmaaG2
import Derived.ShutString
import Derived.ChangeOld
namespace Go.Proofs.Ytleofmeejjikmaa.sealShort
open Go.ChangeShapes Go.WideShapes Go.ChangeAt Go.RowKit
open Go.ChangeMaps (open_string shut_string)
set_option linter.unusedVariables false

set_option maxHeartbeats 1000000 in
set_option maxRecDepth 100000 in
theorem walk (key s : ByteArray) (n0 : key.size ≤ maxLen) (n1 : s.size ≤ maxLen) (w : World) :
    Calls Try.prog 6 #[.string key, .string s] w fun e w' => e = .returned (.bool true) ∧ Below w.heap.size w w' := by
  have HS := Lib.hid (fun w => l5_shown w)
  by_cases h1 : 100 < key.size
  · have g1 : (100 : Int) < (key.size : Int) := by omega
    go_enter Try.func6, Try.ntmps6
    go_wp2_with (go_at_call 7; (with_reducible refine (HS.out _).mono ?_); rintro e w1 ⟨rfl, hb1⟩)
    go_ret
    exact ⟨rfl, hb1⟩
  have g1 : ¬ (100 : Int) < (key.size : Int) := by omega
  by_cases h2 : 400 < s.size
  · have g2 : (400 : Int) < (s.size : Int) := by omega
    go_enter Try.func6, Try.ntmps6
    go_wp2_with (go_at_call 7; (with_reducible refine (HS.out _).mono ?_); rintro e w1 ⟨rfl, hb1⟩)
    go_ret
    exact ⟨rfl, hb1⟩
  have g2 : ¬ (400 : Int) < (s.size : Int) := by omega
  obtain ⟨x, er, hx⟩ : ∃ x er, openT key s = (x, er) := ⟨_, _, rfl⟩
  have HO := Lib.hid (fun w => l_Open key s w (by omega) (by omega) x er hx)
  have HN := Lib.hid (fun w => l_Nonce s w (by omega))
  have lN := Lib.hid (nonceN_len s)
  generalize nonceN s = N at *
  have hq : (er = 40 ∧ s.size < 48 ∧ x = ⟨#[]⟩) ∨ (er = 0 ∧ ¬ s.size < 48) ∨ (er = 50 ∧ ¬ s.size < 48 ∧ x = ⟨#[]⟩) := by
    unfold openT at hx
    by_cases h3 : s.size < 48
    · rw [if_pos h3] at hx
      obtain ⟨rfl, rfl⟩ : x = ⟨#[]⟩ ∧ er = 40 := by simpa [eq_comm] using hx
      exact .inl ⟨rfl, h3, rfl⟩
    · rw [if_neg h3] at hx
      by_cases h4 : ptH s = sealN key (ptN s) (ptM s)
      · rw [if_pos h4] at hx
        exact .inr (.inl ⟨by simpa [eq_comm] using congrArg Prod.snd hx, h3⟩)
      · rw [if_neg h4] at hx
        obtain ⟨rfl, rfl⟩ : x = ⟨#[]⟩ ∧ er = 50 := by simpa [eq_comm] using hx
        exact .inr (.inr ⟨rfl, h3, rfl⟩)
  clear hx
  have d3 : decide ((s.size : Int) < 48) = decide (s.size < 48) := by rw [decide_eq_decide]; omega
  have d4 : decide ((16 : Int) ≤ (s.size : Int)) = decide (16 ≤ s.size) := by rw [decide_eq_decide]; omega
  generalize decide (16 ≤ s.size) = b16 at *
  have HQ := Lib.hid hq
  clear hq
  go_enter Try.func6, Try.ntmps6
  go_wp2_with fail
  refine (HS.out _).mono ?_
  rintro e w1 ⟨rfl, hb1⟩
  go_wp2_with fail
  refine (HO.out _).mono ?_
  rintro e w2 ⟨rfl, hb2⟩
  go_wp2_with fail
  refine (HN.out _).mono ?_
  rintro e w3 ⟨rfl, hb3⟩
  have c2 := hb1.trans (hb2.mono hb1.size)
  have c3 := c2.trans (hb3.mono c2.size)
  have K := Lib.hid (Blk.new w3 23 (ints .u8 (nn (zerN 16))))
  have Kb := below_setRow (c3.alloc c3.size (.cells (ints .u8 (nn (zerN 16))).toArray 23)) (b := w3.heap.size) c3.size (ints .u8 (nn N)).toArray
  rcases HQ.out with ⟨rfl, h3, rfl⟩ | ⟨rfl, h3⟩ | ⟨rfl, h3, rfl⟩
  all_goals
    simp only [h3, decide_true, decide_false] at d3
    go_wp2_with (first | (refine wpList_alloc_n rfl 23 rfl w3.heap.size rfl _ (alloc_b16 _) ?_) | (refine wpList_store_blk rfl 23 _ _ rfl w3.heap.size (ints .u8 (nn N)) rfl rfl K.out (by rw [size_b16', nc_len lN.out]) (by rw [nc_len lN.out]; rfl) (ints_one _ _) ?_))
    go_ret
    exact ⟨rfl, Kb⟩

set_option maxRecDepth 100000 in
theorem lifted (os : Os) (started : os.Started) (H : Type) (enc : TypeId × Value → H) :
    ReturnsInHanded {} Try.checked os 6 .any (Rows.sealShortSpec.pre6 enc Try.prog Try.f6 Rows.sealShortRow.domain false) (Rows.sealShortSpec.post enc Try.prog Try.f6 false true false false) := by
  refine returnsInHanded_of_change (C := Try.checked) own started (by kernel_rfl) Try.func6
    (ChangeSpec.witness6 (enc := enc) (C := Try.checked) false ⟨#[], #[.string ByteArray.empty, .string ByteArray.empty], []⟩ 8 (by kernel_rfl) (by kernel_rfl) (by kernel_rfl) (by kernel_rfl)) ?_
  intro W base args ds gs before hval0 hW hcnd _
  have hval : ∀ (j : Nat) t v, Try.f6.params[j]? = some t → args[j]? = some v → Value.okWide Try.prog W .any base t v := hval0
  have hW' := hW
  obtain ⟨p, q, hA0, hV, rfl, hfz, hnd⟩ := hW
  have hA : DataW.TrodAll enc Try.prog W 0 (fun _ => true) true Try.f6.params.toList args.toList ds p := hA0
  rw [Try.params6] at hA hval
  obtain ⟨v0, vs0, d0, ds0, p0, q0, hargs, rfl, rfl, h0, r0⟩ := trodAll_cons hA
  obtain ⟨v1, vs1, d1, ds1, p1, q1, rfl, rfl, rfl, h1, r1⟩ := trodAll_cons r0
  obtain ⟨rfl, rfl, rfl⟩ := trodAll_nil r1
  obtain rfl : args = #[v0, v1] := by cases args; simp_all
  obtain ⟨rfl, rfl⟩ := trodVars_none hV
  obtain ⟨l0, rfl, rfl, rfl, n0⟩ := open_string Try.underlying9 (hval 0 9 v0 rfl rfl) h0
  obtain ⟨l1, rfl, rfl, rfl, n1⟩ := open_string Try.underlying9 (hval 1 9 v1 rfl rfl) h1
  clear hA0 hval0
  simp only [List.append_nil] at hW'
  refine (walk l0 l1 n0 n1 W).mono fun e W' ⟨he, bel⟩ => ?_
  subst he
  exact ⟨_, rfl, _, _, _, [], _, [], hW', trodAll_mk1 (shut_bool Try.underlying4 _), (trodAll_cons_mk (shut_string Try.underlying9 n0) (trodAll_cons_mk (shut_string Try.underlying9 n1) trodAll_mk0)), rfl, bel.frame _, fun h => by cases h⟩

theorem over : Rows.sealShortRow.holds Try.pinned (OpenSpec.ofChange Rows.sealShortSpec) :=
  OpenClaim.holds_of_wide 6 Try.f6 rfl rfl rfl rfl rfl rfl rfl ⟨rfl, rfl, rfl, rfl, rfl⟩ rfl rfl rfl rfl rfl (by kernel_rfl) Try.func6 (by kernel_rfl)
    (of_decide_eq_true (by kernel_rfl)) (by unfold Func.isWrapper; first | (rw [if_pos (by decide +kernel)]; kernel_rfl) | (rw [if_neg (by decide +kernel)]; exact ⟨rfl, rfl⟩))
    (fun os started H enc _ => lifted os started H enc)

theorem proved : Rows.SealShortSaid :=
  over
#print axioms proved
end Go.Proofs.Ytleofmeejjikmaa.sealShort
