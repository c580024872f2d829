/-
  For every key, text and count of zeros: the seal by a key with bytes 0 behind it, as far as 64 bytes, is the seal by the key; the seal by a key of more than 64 bytes is the one by its name's bytes; longer texts and keys than the bound are answered by the anchor alone. No condition.
-/
import Derived.Test.YtofgjplcpdgedaaRows
import Derived.WalkKit
import Derived.ProofKit
import Derived.OpenShut
import Derived.ShutString
import Derived.ChangeOld
import Derived.Below
import Derived.Test.YtofgjplcpdgedaaMacs
namespace Go.Proofs.Ytofgjplcpdgedaa.digestMacs
open Go.ChangeShapes Go.WideShapes Go.ChangeAt Go.RowKit
open Go.ChangeMaps (open_string shut_string)
set_option linter.unusedVariables false

theorem is_zero : is ⟨#[0]⟩ = [0] := by decide
theorem padK_zero (k : ByteArray) (h : k.size < 64) : padK (k ++ ⟨#[0]⟩) = padK k := by
  unfold padK
  rw [is_app, is_zero, ByteArray.size_append, show (⟨#[0]⟩ : ByteArray).size = 1 from rfl]
  unfold zer
  rw [show 64 - k.size = (64 - (k.size + 1)) + 1 by omega, List.replicate_succ]
  simp
theorem macOf_pad (k k' s : ByteArray) (h : padK k = padK k') : macOf k s = macOf k' s := by
  have e : ∀ m, maskL k m = maskL k' m := fun m => by unfold maskL; rw [h]
  unfold macOf innerL
  rw [e, e]
theorem macL_short (k s : ByteArray) (h : k.size ≤ 64) : macL k s = macOf k s := by
  unfold macL keyOf; rw [if_pos h]
theorem macL_long (k s : ByteArray) (h : 64 < k.size) : macL k s = macL (bs (sumL k)) s := by
  rw [macL_short (bs (sumL k)) s (by rw [bs_size, sumL_len]; omega)]
  unfold macL keyOf; rw [if_neg (by omega)]

set_option maxHeartbeats 1000000 in
set_option maxRecDepth 100000 in
theorem walk (key s : ByteArray) (z : Int) (wk : key.size ≤ maxLen) (ws : s.size ≤ maxLen) (wz : (Lit.int .u8 z).wf = true) (w : World) :
    Calls Try.prog 4 #[.string key, .string s, .int .u8 z] w fun e w' => e = .returned (.bool true) ∧ Below w.heap.size w w' := by
  obtain ⟨b0, b1⟩ : 0 ≤ z ∧ z ≤ 255 := by
    have := bounds_u8 wz
    omega
  unfold maxLen at wk ws
  have hsh := fun w => l_shown w
  by_cases h1 : 2048 < s.size
  · have g1 : decide ((2048 : Int) < (s.size : Int)) = true := by simp; omega
    go_enter Try.func4, Try.ntmps4
    go_wp2_with (go_at_call 8; refine (l_shown _).mono ?_; rintro e w1 ⟨rfl, hb1⟩)
    go_ret
    exact ⟨rfl, hb1⟩
  · have g1 : decide ((2048 : Int) < (s.size : Int)) = false := by simp; omega
    by_cases h2 : 300 < key.size
    · have g2 : decide ((300 : Int) < (key.size : Int)) = true := by simp; omega
      go_enter Try.func4, Try.ntmps4
      go_wp2_with (go_at_call 8; refine (l_shown _).mono ?_; rintro e w1 ⟨rfl, hb1⟩)
      go_ret
      exact ⟨rfl, hb1⟩
    · have g2 : decide ((300 : Int) < (key.size : Int)) = false := by simp; omega
      by_cases h3 : 64 < key.size
      · have g3 : decide ((64 : Int) < (key.size : Int)) = true := by simp; omega
        have hm1 : ∀ w, Calls Try.prog 11 #[.string key, .string s] w fun e w' => e = .returned (.agg (ints .u8 (macL key s)).toArray) ∧ Below w.heap.size w w' := fun w => d_Mac key s w (by omega) (by omega)
        have hm2 : ∀ w, Calls Try.prog 11 #[.string (bs (sumL key)), .string s] w fun e w' => e = .returned (.agg (ints .u8 (macL key s)).toArray) ∧ Below w.heap.size w w' := fun w => by
          rw [macL_long key s h3]; exact d_Mac _ s w (by rw [bs_size, sumL_len]; omega) (by omega)
        have hS : ∀ w, Calls Try.prog 9 #[.string key] w fun e w' => e = .returned (.agg (ints .u8 (sumL key)).toArray) ∧ Below w.heap.size w w' := fun w => d_Sum key w (by omega)
        have hB := fun w => r_Bytes (sumL key) w (sumL_len _)
        have he := eql_hash (macL key s) (macL_octets _ _) (macL_len _ _)
        generalize macL key s = M at *
        generalize sumL key = S at *
        have HM1 := Lib.hid hm1
        have HM2 := Lib.hid hm2
        have HS := Lib.hid hS
        have HB := Lib.hid hB
        clear hm1 hm2 hS hB
        go_enter Try.func4, Try.ntmps4
        go_wp2_with fail
        refine (l_shown _).mono ?_
        rintro e w1 ⟨rfl, hb1⟩
        go_wp2_with fail
        refine (HM1.out _).mono ?_
        rintro e w2 ⟨rfl, hb2⟩
        go_wp2_with fail
        refine (HS.out _).mono ?_
        rintro e w3 ⟨rfl, hb3⟩
        go_wp2_with fail
        refine (HB.out _).mono ?_
        rintro e w4 ⟨rfl, hb4⟩
        go_wp2_with fail
        refine (HM2.out _).mono ?_
        rintro e w5 ⟨rfl, hb5⟩
        have c2 := hb1.trans (hb2.mono hb1.size)
        have c3 := c2.trans (hb3.mono c2.size)
        have c4 := c3.trans (hb4.mono c3.size)
        have c5 := c4.trans (hb5.mono c4.size)
        go_wp2_with fail
        go_ret
        exact ⟨rfl, c5⟩
      · have g3 : decide ((64 : Int) < (key.size : Int)) = false := by simp; omega
        have hm1 : ∀ w, Calls Try.prog 11 #[.string key, .string s] w fun e w' => e = .returned (.agg (ints .u8 (macOf key s)).toArray) ∧ Below w.heap.size w w' := fun w => by
          rw [← macL_short key s (by omega)]; exact d_Mac key s w (by omega) (by omega)
        have hm2 : ∀ k w, k.size ≤ 64 → padK k = padK key → Calls Try.prog 11 #[.string k, .string s] w fun e w' => e = .returned (.agg (ints .u8 (macOf key s)).toArray) ∧ Below w.heap.size w w' := fun k w hk hp => by
          rw [← macOf_pad k key s hp, ← macL_short k s hk]; exact d_Mac k s w (by omega) (by omega)
        have he := eql_hash (macOf key s) (by rw [← macL_short key s (by omega)]; exact macL_octets _ _) (by rw [← macL_short key s (by omega)]; exact macL_len _ _)
        generalize macOf key s = M at *
        have HM1 := Lib.hid hm1
        have HM2 := Lib.hid hm2
        clear hm1 hm2
        go_enter Try.func4, Try.ntmps4
        go_wp2_with fail
        refine (l_shown _).mono ?_
        rintro e w1 ⟨rfl, hb1⟩
        go_wp2_with fail
        go_loop [7, 8] (fun x i => ∃ (n : Nat) (k : ByteArray), (n : Int) ≤ z ∧ i = .int .i64 n ∧ x = .string k ∧ k.size ≤ 64 ∧ Hid (padK k = padK key)) (fun _ i => (256 - intOf i).toNat)
        case atStart => exact ⟨0, key, by omega, rfl, rfl, by omega, Lib.hid rfl⟩
        case round =>
          obtain ⟨n, k, hn, rfl, rfl, hks, hp⟩ := hrel
          by_cases q1 : (n : Int) < z
          · by_cases q2 : k.size < 64
            · have r1 : decide ((n : Int) < z) = true := by simpa using q1
              have r2 : decide ((k.size : Int) < 64) = true := by simp; omega
              have hsum : k.size + 1 ≤ 9223372036854775807 := by omega
              have hcat := fun w' => run_string_add_sum (P := Try.prog) w' k ⟨#[0]⟩ (by show k.size + 1 ≤ _; omega)
              go_wp2_with fail
              go_round
              case rel => exact ⟨n + 1, k ++ ⟨#[0]⟩, by omega, by go_num, rfl, by rw [ByteArray.size_append]; show k.size + 1 ≤ 64; omega, Lib.hid (by rw [padK_zero k q2]; exact hp.out)⟩
              case measure => simp [intOf]; omega
            · have r1 : decide ((n : Int) < z) = true := by simpa using q1
              have r2 : decide ((k.size : Int) < 64) = false := by simp; omega
              go_wp2_with fail
              refine (HM2.out k _ hks hp.out).mono ?_
              rintro e w2 ⟨rfl, hb2⟩
              go_wp2_with fail
              refine (HM1.out _).mono ?_
              rintro e w3 ⟨rfl, hb3⟩
              have c2 := hb1.trans (hb2.mono hb1.size)
              have c3 := c2.trans (hb3.mono c2.size)
              go_wp2_with fail
              go_ret
              exact ⟨rfl, c3⟩
          · have r1 : decide ((n : Int) < z) = false := by simp; omega
            go_wp2_with fail
            refine (HM2.out k _ hks hp.out).mono ?_
            rintro e w2 ⟨rfl, hb2⟩
            go_wp2_with fail
            refine (HM1.out _).mono ?_
            rintro e w3 ⟨rfl, hb3⟩
            have c2 := hb1.trans (hb2.mono hb1.size)
            have c3 := c2.trans (hb3.mono c2.size)
            go_wp2_with fail
            go_ret
            exact ⟨rfl, c3⟩

theorem own : ownKnob Try.prog.godebug = none := by kernel_rfl
set_option maxRecDepth 100000 in
theorem lifted (os : Os) (started : os.Started) (H : Type) (enc : TypeId × Value → H) :
    ReturnsInHanded {} Try.checked os 4 .any (Rows.digestMacsSpec.pre6 enc Try.prog Try.f4 Rows.digestMacsRow.domain false) (Rows.digestMacsSpec.post enc Try.prog Try.f4 false true false false) := by
  refine returnsInHanded_of_change (C := Try.checked) own started (by kernel_rfl) Try.func4
    (ChangeSpec.witness6 (enc := enc) (C := Try.checked) false ⟨#[], #[.string ByteArray.empty, .string ByteArray.empty, .int .u8 0], []⟩ 8 (by kernel_rfl) (by kernel_rfl) (by kernel_rfl) (by kernel_rfl)) ?_
  intro W base args ds gs before hval0 hW hcnd _
  have hval : ∀ (j : Nat) t v, Try.f4.params[j]? = some t → args[j]? = some v → Value.okWide Try.prog W .any base t v := hval0
  have hW' := hW
  obtain ⟨p, q, hA0, hV, rfl, hfz, hnd⟩ := hW
  have hA : DataW.TrodAll enc Try.prog W 0 (fun _ => true) true Try.f4.params.toList args.toList ds p := hA0
  rw [Try.params4] at hA hval
  obtain ⟨v0, vs0, d0, ds0, p0, q0, hargs, rfl, rfl, h0, r0⟩ := trodAll_cons hA
  obtain ⟨v1, vs1, d1, ds1, p1, q1, rfl, rfl, rfl, h1, r1⟩ := trodAll_cons r0
  obtain ⟨v2, vs2, d2, ds2, p2, q2, rfl, rfl, rfl, h2, r2⟩ := trodAll_cons r1
  obtain ⟨rfl, rfl, rfl⟩ := trodAll_nil r2
  obtain rfl : args = #[v0, v1, v2] := by cases args; simp_all
  obtain ⟨rfl, rfl⟩ := trodVars_none hV
  obtain ⟨a0, rfl, rfl, rfl, w0⟩ := open_string Try.underlying9 (hval 0 9 v0 rfl rfl) h0
  obtain ⟨a1, rfl, rfl, rfl, w1⟩ := open_string Try.underlying9 (hval 1 9 v1 rfl rfl) h1
  obtain ⟨a2, rfl, rfl, rfl, w2⟩ := open_int Try.underlying5 (hval 2 5 v2 rfl rfl) h2
  clear hA0 hval0
  simp only [List.append_nil] at hW'
  refine (walk a0 a1 a2 w0 w1 w2 W).mono fun e W' ⟨he, bel⟩ => ?_
  subst he
  exact ⟨_, rfl, _, _, _, [], _, [], hW', trodAll_mk1 (shut_bool Try.underlying4 _), (trodAll_cons_mk (shut_string Try.underlying9 w0) (trodAll_cons_mk (shut_string Try.underlying9 w1) (trodAll_cons_mk (shut_int Try.underlying5 w2) trodAll_mk0))), rfl, bel.frame _, fun h => by cases h⟩

theorem over : Rows.digestMacsRow.holds Try.pinned (OpenSpec.ofChange Rows.digestMacsSpec) :=
  OpenClaim.holds_of_wide 4 Try.f4 rfl rfl rfl rfl rfl rfl rfl ⟨rfl, rfl, rfl, rfl, rfl⟩ rfl rfl rfl rfl rfl (by kernel_rfl) Try.func4 (by kernel_rfl)
    (of_decide_eq_true (by kernel_rfl)) (by unfold Func.isWrapper; first | (rw [if_pos (by decide +kernel)]; kernel_rfl) | (rw [if_neg (by decide +kernel)]; exact ⟨rfl, rfl⟩))
    (fun os started H enc _ => lifted os started H enc)

theorem proved : Rows.DigestMacsSaid :=
  over
#print axioms proved
end Go.Proofs.Ytofgjplcpdgedaa.digestMacs
