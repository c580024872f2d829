/-
  For all texts, keys, numbers and hashes: the name of a text, its seal by a key, the length that it is filled up to, and a hash's digits are the document's. Longer texts than the bound are answered by the case shown alone. No condition.
-/
import Derived.Test.YtadppbjchacjiaaRows
import Derived.Test.YtadppbjchacjiaaOpenA
import Derived.Test.YtadppbjchacjiaaDMacL
import Derived.Test.YtadppbjchacjiaaDRHex
import Derived.Test.YtadppbjchacjiaaQTail
import Derived.ShutString
import Derived.ChangeOld
namespace Go.Proofs.Ytadppbjchacjiaa.digestTells
open Go.ChangeShapes Go.WideShapes Go.ChangeAt Go.RowKit
open Go.ChangeMaps (open_string shut_string)
set_option linter.unusedVariables false

theorem cells_h32 : Try.prog.cellsOf 23 = 32 := by kernel_rfl
set_option maxHeartbeats 2000000 in
set_option maxRecDepth 100000 in
theorem walk (s key : ByteArray) (n : Int) (l3 : List Nat) (n0 : s.size ≤ maxLen) (n1 : key.size ≤ maxLen) (n2 : (Lit.int .i64 n).wf = true) (n3 : l3.length = 32) (o3 : Bys l3) (w : World) :
    Calls Try.prog 3 #[.string s, .string key, .int .i64 n, .agg (ints .u8 (nn l3)).toArray] w fun e w' => e = .returned (.bool true) ∧ Below w.heap.size w w' := by
  obtain ⟨b0, b1⟩ : -9223372036854775808 ≤ n ∧ n ≤ 9223372036854775807 := by
    have := bounds_i64 n2
    omega
  have hlo : (nn l3).length = 32 := by rw [nn_length, n3]
  have hoo := oct_nn o3
  generalize nn l3 = h at *
  have hS := fun w => l_shown w
  have HS := Lib.hid hS
  have k0 : Blk (w.alloc (.cells (ints .u8 h).toArray 23)) w.heap.size 23 (ints .u8 h) := Blk.new _ _ _
  have kb : Below w.heap.size w (w.alloc (.cells (ints .u8 h).toArray 23)) := (Below.refl _ _).alloc (Nat.le_refl _) _
  have HLO := Lib.hid hlo
  clear hS n2
  by_cases h1 : 2048 < s.size
  · have g1 : (2048 : Int) < (s.size : Int) := by omega
    clear hoo hlo
    go_enter Try.func3, Try.ntmps3
    go_wp2_with (go_at_call 8; (with_reducible refine (HS.out _).mono ?_); rintro e w1 ⟨rfl, hb1⟩)
    go_ret
    exact ⟨rfl, kb.trans (hb1.mono kb.size)⟩
  have g1 : ¬ (2048 : Int) < (s.size : Int) := by omega
  by_cases h2 : 300 < key.size
  · have g2 : (300 : Int) < (key.size : Int) := by omega
    clear hoo hlo
    go_enter Try.func3, Try.ntmps3
    go_wp2_with (go_at_call 8; (with_reducible refine (HS.out _).mono ?_); rintro e w1 ⟨rfl, hb1⟩)
    go_ret
    exact ⟨rfl, kb.trans (hb1.mono kb.size)⟩
  have g2 : ¬ (300 : Int) < (key.size : Int) := by omega
  have hA : ∀ w, Calls Try.prog 9 #[.string s] w fun e w' => e = .returned (.agg (ints .u8 (sumL s)).toArray) ∧ Below w.heap.size w w' := fun w => d_Sum s w (by omega)
  have hAr := fun w => r_Sum' s w (by omega)
  have hB := fun w => d_Mac key s w (by omega) (by omega)
  have hBr := fun w => r_Mac key s w (by omega) (by omega)
  have hC := fun w => d_Whole n w b0 b1
  have hCr := fun w => r_Whole n w b0 b1
  have hD := fun w => d_Hex h w hlo hoo
  have hDr := fun w => r_Hex h w hlo hoo
  have e1 := eql_hash (sumL s) (sumL_octets _) (sumL_len _)
  have e2 := eql_hash (macL key s) (macL_octets _ _) (macL_len _ _)
  generalize macL key s = M at *
  generalize sumL s = S at *
  generalize bs (hexT h 32) = X at *
  generalize wholeZ n = Z at *
  have HA := Lib.hid hA
  have HAr := Lib.hid hAr
  have HB := Lib.hid hB
  have HBr := Lib.hid hBr
  have HC := Lib.hid hC
  have HCr := Lib.hid hCr
  have HD := Lib.hid hD
  have HDr := Lib.hid hDr
  clear hA hAr hB hBr hC hCr hD hDr hoo hlo
  go_enter Try.func3, Try.ntmps3
  go_wp2_with fail
  generalize World.alloc w _ = w0 at *
  refine (HS.out _).mono ?_
  rintro e w5 ⟨rfl, hb1⟩
  have j0 := k0.below hb1 k0.lt
  have jb := kb.trans (hb1.mono kb.size)
  clear k0 kb hb1
  go_wp2_with fail
  have hQ0 : ∀ wx, NewBut w5 wx → wx.rangeAt w.heap.size 0 (ints .u8 h) := fun wx hx => (j0.below hx j0.lt).whole
  have HQ0 := Lib.hid hQ0
  clear hQ0 j0
  have hA' : ∀ wx, NewBut w5 wx → Calls Try.prog 9 #[.string s] wx fun e w' => e = .returned (.agg (ints .u8 S).toArray) ∧ NewBut w5 w' := fun wx h => (HA.out wx).mono fun _ _ ⟨q1, q2⟩ => ⟨q1, h.trans (q2.mono h.size)⟩
  have hAr' : ∀ wx, NewBut w5 wx → Calls Try.prog 10 #[.string s] wx fun e w' => e = .returned (.agg (ints .u8 S).toArray) ∧ NewBut w5 w' := fun wx h => (HAr.out wx).mono fun _ _ ⟨q1, q2⟩ => ⟨q1, h.trans (q2.mono h.size)⟩
  have hB' : ∀ wx, NewBut w5 wx → Calls Try.prog 11 #[.string key, .string s] wx fun e w' => e = .returned (.agg (ints .u8 M).toArray) ∧ NewBut w5 w' := fun wx h => (HB.out wx).mono fun _ _ ⟨q1, q2⟩ => ⟨q1, h.trans (q2.mono h.size)⟩
  have hBr' : ∀ wx, NewBut w5 wx → Calls Try.prog 12 #[.string key, .string s] wx fun e w' => e = .returned (.agg (ints .u8 M).toArray) ∧ NewBut w5 w' := fun wx h => (HBr.out wx).mono fun _ _ ⟨q1, q2⟩ => ⟨q1, h.trans (q2.mono h.size)⟩
  have hC' : ∀ wx, NewBut w5 wx → Calls Try.prog 13 #[.int .i64 n] wx fun e w' => e = .returned (.int .i64 Z) ∧ NewBut w5 w' := fun wx h => (HC.out wx).mono fun _ _ ⟨q1, q2⟩ => ⟨q1, by subst q2; exact h⟩
  have hCr' : ∀ wx, NewBut w5 wx → Calls Try.prog 14 #[.int .i64 n] wx fun e w' => e = .returned (.int .i64 Z) ∧ NewBut w5 w' := fun wx h => (HCr.out wx).mono fun _ _ ⟨q1, q2⟩ => ⟨q1, by subst q2; exact h⟩
  have hD' : ∀ wx, NewBut w5 wx → Calls Try.prog 15 #[.agg (ints .u8 h).toArray] wx fun e w' => e = .returned (.string X) ∧ NewBut w5 w' := fun wx h => (HD.out wx).mono fun _ _ ⟨q1, q2⟩ => ⟨q1, h.trans (q2.mono h.size)⟩
  have hDr' : ∀ wx, NewBut w5 wx → Calls Try.prog 16 #[.agg (ints .u8 h).toArray] wx fun e w' => e = .returned (.string X) ∧ NewBut w5 w' := fun wx h => (HDr.out wx).mono fun _ _ ⟨q1, q2⟩ => ⟨q1, h.trans (q2.mono h.size)⟩
  have HA' := Lib.hid hA'
  have HAr' := Lib.hid hAr'
  have HB' := Lib.hid hB'
  have HBr' := Lib.hid hBr'
  have HC' := Lib.hid hC'
  have HCr' := Lib.hid hCr'
  have HD' := Lib.hid hD'
  have HDr' := Lib.hid hDr'
  clear hA' hAr' hB' hBr' hC' hCr' hD' hDr'
  refine region_quiet_tail (C := NewBut w5) 28 mixed (by kernel_rfl) (show Below _ _ _ from (Below.refl _ _).drew) ?_
  simp only [List.take_succ_cons, List.take_zero, List.drop_succ_cons, List.drop_zero]
  repeat (first | (refine wpQuiet_load_row rfl 23 _ rfl w.heap.size 0 rfl (ints .u8 h) (fun wx hx => HQ0.out wx hx) Try.underlying23 rfl (by rw [size_hash, ints_length, HLO.out]) ?_) | (refine wpQuiet_step (fun K' hK' => ?_); go_simp; first | (refine ⟨_, fun _ _ => rfl, hK' _ ?_⟩; clear hK' K') | ((with_reducible refine ⟨_, fun wx hx => HA'.out wx hx, hK' _ ?_⟩); clear hK' K') | ((with_reducible refine ⟨_, fun wx hx => HAr'.out wx hx, hK' _ ?_⟩); clear hK' K') | ((with_reducible refine ⟨_, fun wx hx => HB'.out wx hx, hK' _ ?_⟩); clear hK' K') | ((with_reducible refine ⟨_, fun wx hx => HBr'.out wx hx, hK' _ ?_⟩); clear hK' K') | ((with_reducible refine ⟨_, fun wx hx => HC'.out wx hx, hK' _ ?_⟩); clear hK' K') | ((with_reducible refine ⟨_, fun wx hx => HCr'.out wx hx, hK' _ ?_⟩); clear hK' K') | ((with_reducible refine ⟨_, fun wx hx => HD'.out wx hx, hK' _ ?_⟩); clear hK' K') | ((with_reducible refine ⟨_, fun wx hx => HDr'.out wx hx, hK' _ ?_⟩); clear hK' K')))
  refine wpQuiet_nil ?_
  intro w7 hb7
  go_wp2
  go_ret
  exact ⟨rfl, jb.trans (hb7.mono jb.size)⟩

set_option maxRecDepth 100000 in
theorem lifted (os : Os) (started : os.Started) (H : Type) (enc : TypeId × Value → H) :
    ReturnsInHanded {} Try.checked os 3 .any (Rows.digestTellsSpec.pre6 enc Try.prog Try.f3 Rows.digestTellsRow.domain false) (Rows.digestTellsSpec.post enc Try.prog Try.f3 false true false false) := by
  refine returnsInHanded_of_change (C := Try.checked) own started (by kernel_rfl) Try.func3
    (ChangeSpec.witness6 (enc := enc) (C := Try.checked) false ⟨#[], #[.string ByteArray.empty, .string ByteArray.empty, .int .i64 0, .agg (ints .u8 (List.replicate 32 0)).toArray], []⟩ 8 (by kernel_rfl) (by kernel_rfl) (by kernel_rfl) (by kernel_rfl)) ?_
  intro W base args ds gs before hval0 hW hcnd _
  have hval : ∀ (j : Nat) t v, Try.f3.params[j]? = some t → args[j]? = some v → Value.okWide Try.prog W .any base t v := hval0
  have hW' := hW
  obtain ⟨p, q, hA0, hV, rfl, hfz, hnd⟩ := hW
  have hA : DataW.TrodAll enc Try.prog W 0 (fun _ => true) true Try.f3.params.toList args.toList ds p := hA0
  rw [Try.params3] at hA hval
  obtain ⟨v0, vs0, d0, ds0, p0, q0, hargs, rfl, rfl, h0, r0⟩ := trodAll_cons hA
  obtain ⟨v1, vs1, d1, ds1, p1, q1, rfl, rfl, rfl, h1, r1⟩ := trodAll_cons r0
  obtain ⟨v2, vs2, d2, ds2, p2, q2, rfl, rfl, rfl, h2, r2⟩ := trodAll_cons r1
  obtain ⟨v3, vs3, d3, ds3, p3, q3, rfl, rfl, rfl, h3, r3⟩ := trodAll_cons r2
  obtain ⟨rfl, rfl, rfl⟩ := trodAll_nil r3
  obtain rfl : args = #[v0, v1, v2, v3] := by cases args; simp_all
  obtain ⟨rfl, rfl⟩ := trodVars_none hV
  obtain ⟨l0, rfl, rfl, rfl, n0⟩ := open_string Try.underlying9 (hval 0 9 v0 rfl rfl) h0
  obtain ⟨l1, rfl, rfl, rfl, n1⟩ := open_string Try.underlying9 (hval 1 9 v1 rfl rfl) h1
  obtain ⟨l2, rfl, rfl, rfl, n2⟩ := open_int Try.underlying3 (hval 2 3 v2 rfl rfl) h2
  have k3 := h3
  have lt3 : ∀ x ∈ p3, x.block < W.heap.size := by obtain ⟨m, hm⟩ := k3; exact DataW.trod_lt m _ _ _ hm
  obtain ⟨cs3, hcs3, _, _⟩ : ∃ cs, v3 = .agg cs ∧ cs.size = Try.prog.cellsOf 23 ∧ Row.okWide Try.prog W .any base 23 cs := by
    have := hval 3 23 v3 rfl rfl
    simpa [Value.okWide, Try.underlying23] using this
  obtain ⟨l3, hl3, n3, o3⟩ := open_bys Try.underlying23 Try.underlying5 cells_u8 cells_h32 cs3 hcs3 h3
  clear hcs3
  subst hl3
  clear hA0 hval0
  simp only [List.append_nil] at hW'
  refine (walk l0 l1 l2 l3 n0 n1 n2 n3 o3 W).mono fun e W' ⟨he, bel⟩ => ?_
  subst he
  exact ⟨_, rfl, _, _, _, [], _, [], hW', trodAll_mk1 (shut_bool Try.underlying4 _), (trodAll_cons_mk (shut_string Try.underlying9 n0) (trodAll_cons_mk (shut_string Try.underlying9 n1) (trodAll_cons_mk (shut_int Try.underlying3 n2) (trodAll_cons_mk (Below.trod laidOut (by kernel_rfl) (of_decide_eq_true (by kernel_rfl)) k3 bel lt3) trodAll_mk0)))), rfl, bel.frame _, fun h => by cases h⟩

theorem over : Rows.digestTellsRow.holds Try.pinned (OpenSpec.ofChange Rows.digestTellsSpec) :=
  OpenClaim.holds_of_wide 3 Try.f3 rfl rfl rfl rfl rfl rfl rfl ⟨rfl, rfl, rfl, rfl, rfl⟩ rfl rfl rfl rfl rfl (by kernel_rfl) Try.func3 (by kernel_rfl)
    (of_decide_eq_true (by kernel_rfl)) (by unfold Func.isWrapper; first | (rw [if_pos (by decide +kernel)]; kernel_rfl) | (rw [if_neg (by decide +kernel)]; exact ⟨rfl, rfl⟩))
    (fun os started H enc _ => lifted os started H enc)

theorem proved : Rows.DigestTellsSaid :=
  over
#print axioms proved
end Go.Proofs.Ytadppbjchacjiaa.digestTells
