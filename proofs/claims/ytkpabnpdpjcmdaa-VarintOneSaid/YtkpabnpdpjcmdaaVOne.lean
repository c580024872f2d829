/-
  For every text: what Get reads as a number is that number's Put and what is behind, of ten bytes at most, and a byte less is too few; else it tells nothing, and that the text is short only of fewer than ten bytes. Longer texts than the bound are answered by the case shown alone. No condition.
-/
import Derived.Test.YtkpabnpdpjcmdaaRows
import Derived.Test.YtkpabnpdpjcmdaaVShown
import Derived.Test.YtkpabnpdpjcmdaaQTail
import Derived.ShutString
import Derived.ChangeOld
namespace Go.Proofs.Ytkpabnpdpjcmdaa.varintOne
open Go.ChangeShapes Go.WideShapes Go.ChangeAt Go.RowKit
open Go.ChangeMaps (open_string shut_string)
set_option linter.unusedVariables false

set_option maxHeartbeats 1000000 in
set_option maxRecDepth 100000 in
theorem walk (s : ByteArray) (n0 : s.size ≤ maxLen) (w : World) :
    Calls Try.prog 5 #[.string s] w fun e w' => e = .returned (.bool true) ∧ Below w.heap.size w w' := by
  have hS := fun w => l4_shown w
  have HS := Lib.hid hS
  clear hS
  by_cases h1 : 1024 < s.size
  · have g1 : (1024 : Int) < (s.size : Int) := by omega
    go_enter Try.func5, Try.ntmps5
    go_wp2_with (go_at_call 8; (with_reducible refine (HS.out _).mono ?_); rintro e w1 ⟨rfl, hb1⟩)
    go_ret
    exact ⟨rfl, hb1⟩
  · have g1 : ¬ (1024 : Int) < (s.size : Int) := by omega
    have hnil : tx ((sl s).drop s.size) = ⟨#[]⟩ := by rw [List.drop_eq_nil_of_le (by rw [sl_len]; exact Nat.le_refl _)]; rfl
    rcases getL_cases (sl s) with ⟨h, hl⟩ | h | ⟨n, k, h, hn, hp, hk1, hk2, hk3, hk4⟩
    · rw [sl_len] at h hl
      have hG := fun w => v_Get s w (by omega) 0 s.size 40 ⟨#[]⟩ h hnil
      have HG := Lib.hid hG
      have d1 : (s.size : Int) < 10 := by omega
      clear hG h hnil
      go_enter Try.func5, Try.ntmps5
      go_wp2_with (first | (go_at_call 8; (with_reducible refine (HS.out _).mono ?_); rintro e w1 ⟨rfl, hb1⟩) | (go_at_call 9; (with_reducible refine (HG.out _).mono ?_); rintro e w2 ⟨rfl, hb2⟩))
      go_ret
      exact ⟨rfl, hb1.trans (hb2.mono hb1.size)⟩
    · rw [sl_len] at h
      have hG := fun w => v_Get s w (by omega) 0 s.size 41 ⟨#[]⟩ h hnil
      have HG := Lib.hid hG
      clear hG h hnil
      go_enter Try.func5, Try.ntmps5
      go_wp2_with (first | (go_at_call 8; (with_reducible refine (HS.out _).mono ?_); rintro e w1 ⟨rfl, hb1⟩) | (go_at_call 9; (with_reducible refine (HG.out _).mono ?_); rintro e w2 ⟨rfl, hb2⟩))
      go_ret
      exact ⟨rfl, hb1.trans (hb2.mono hb1.size)⟩
    · rw [sl_len] at hk3
      have hG := fun w => v_Get s w (by omega) n k 0 _ h rfl
      have hP := fun w => v_Put n w hn
      have hlen : (putL n).length = k := by rw [hp, List.length_take, sl_len]; omega
      have hq : getL ((putL n).take (k - 1)) = (0, k - 1, 40) := by
        have e : (putL n).take (k - 1) = (sl s).take (k - 1) := by rw [hp, List.take_take]; congr 1; omega
        have e2 : ((sl s).take (k - 1)).length = k - 1 := by rw [List.length_take, sl_len]; omega
        have := get_high ((sl s).take (k - 1)) (fun j hj => by rw [e2] at hj; rw [getD_take _ _ _ hj]; exact hk4 j (by omega)) (by omega)
        rw [e, this, e2]
      have ht := tx_size (putL n)
      rw [hlen] at ht
      have hsum : tx (putL n) ++ tx ((sl s).drop k) = s := by rw [hp, ← tx_app, List.take_append_drop, tx_sl]
      have hsl : sl (tx (putL n)) = putL n := sl_tx (put_bys hn)
      have hqG := fun w => v_Get ((tx (putL n)).extract 0 (k - 1)) w (by rw [ByteArray.size_extract]; omega) 0 (k - 1) 40 _ (by rw [sl_head, hsl]; exact hq) rfl
      have hrs : (tx ((sl s).drop k)).size = s.size - k := by rw [tx_size, List.length_drop, sl_len]
      generalize tx ((sl s).drop k) = r at *
      generalize tx (putL n) = t at *
      generalize tx (List.drop (k - 1) (sl (t.extract 0 (k - 1)))) = q at *
      have hadd : ∀ w, (Op.stringOp .add t r).run Try.prog w = .ok (.string s) w := fun w => by
        rw [run_string_add_sum _ _ _ (by omega), hsum]
      have HG := Lib.hid hG
      have HP := Lib.hid hP
      have HQ := Lib.hid hqG
      have HT := Lib.hid ht
      have hts : (t.size : Int) = (k : Int) := by omega
      have d1 : (k : Int) ≤ 10 := by omega
      have d2 : (1 : Int) ≤ (k : Int) := by omega
      have d3 : ((k : Int) - 1).toNat = k - 1 := by omega
      clear hG hP hqG h hnil hp hlen hq ht hsum hsl hrs
      go_enter Try.func5, Try.ntmps5
      go_wp2_with (first | (go_at_call 8; (with_reducible refine (HS.out _).mono ?_); rintro e w1 ⟨rfl, hb1⟩) | (go_at_call 15; (with_reducible refine (HP.out _).mono ?_); rintro e w3 ⟨rfl, hb3⟩) | (go_at_call 9; first | ((with_reducible refine (HQ.out _).mono ?_); rintro e w4 ⟨rfl, hb4⟩) | ((with_reducible refine (HG.out _).mono ?_); rintro e w2 ⟨rfl, hb2⟩)))
      go_ret
      have c2 := hb1.trans (hb2.mono hb1.size)
      have c3 := c2.trans (hb3.mono c2.size)
      exact ⟨rfl, c3.trans (hb4.mono c3.size)⟩

set_option maxRecDepth 100000 in
theorem lifted (os : Os) (started : os.Started) (H : Type) (enc : TypeId × Value → H) :
    ReturnsInHanded {} Try.checked os 5 .any (Rows.varintOneSpec.pre6 enc Try.prog Try.f5 Rows.varintOneRow.domain false) (Rows.varintOneSpec.post enc Try.prog Try.f5 false true false false) := by
  refine returnsInHanded_of_change (C := Try.checked) own started (by kernel_rfl) Try.func5
    (ChangeSpec.witness6 (enc := enc) (C := Try.checked) false ⟨#[], #[.string ByteArray.empty], []⟩ 8 (by kernel_rfl) (by kernel_rfl) (by kernel_rfl) (by kernel_rfl)) ?_
  intro W base args ds gs before hval0 hW hcnd _
  have hval : ∀ (j : Nat) t v, Try.f5.params[j]? = some t → args[j]? = some v → Value.okWide Try.prog W .any base t v := hval0
  have hW' := hW
  obtain ⟨p, q, hA0, hV, rfl, hfz, hnd⟩ := hW
  have hA : DataW.TrodAll enc Try.prog W 0 (fun _ => true) true Try.f5.params.toList args.toList ds p := hA0
  rw [Try.params5] at hA hval
  obtain ⟨v0, vs0, d0, ds0, p0, q0, hargs, rfl, rfl, h0, r0⟩ := trodAll_cons hA
  obtain ⟨rfl, rfl, rfl⟩ := trodAll_nil r0
  obtain rfl : args = #[v0] := by cases args; simp_all
  obtain ⟨rfl, rfl⟩ := trodVars_none hV
  obtain ⟨l0, rfl, rfl, rfl, n0⟩ := open_string Try.underlying9 (hval 0 9 v0 rfl rfl) h0
  clear hA0 hval0
  simp only [List.append_nil] at hW'
  refine (walk l0 n0 W).mono fun e W' ⟨he, bel⟩ => ?_
  subst he
  exact ⟨_, rfl, _, _, _, [], _, [], hW', trodAll_mk1 (shut_bool Try.underlying4 _), (trodAll_cons_mk (shut_string Try.underlying9 n0) trodAll_mk0), rfl, bel.frame _, fun h => by cases h⟩

theorem over : Rows.varintOneRow.holds Try.pinned (OpenSpec.ofChange Rows.varintOneSpec) :=
  OpenClaim.holds_of_wide 5 Try.f5 rfl rfl rfl rfl rfl rfl rfl ⟨rfl, rfl, rfl, rfl, rfl⟩ rfl rfl rfl rfl rfl (by kernel_rfl) Try.func5 (by kernel_rfl)
    (of_decide_eq_true (by kernel_rfl)) (by unfold Func.isWrapper; first | (rw [if_pos (by decide +kernel)]; kernel_rfl) | (rw [if_neg (by decide +kernel)]; exact ⟨rfl, rfl⟩))
    (fun os started H enc _ => lifted os started H enc)

theorem proved : Rows.VarintOneSaid :=
  over
#print axioms proved
end Go.Proofs.Ytkpabnpdpjcmdaa.varintOne
