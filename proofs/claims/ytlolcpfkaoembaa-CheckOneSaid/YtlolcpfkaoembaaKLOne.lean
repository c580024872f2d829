/-
  For all texts, places and bytes: a text with one byte another has another sum. Longer texts than the bound are answered by the case shown alone. No condition.
-/
import Derived.Test.YtlolcpfkaoembaaRows
import Derived.Test.YtlolcpfkaoembaaKB
import Derived.Test.YtlolcpfkaoembaaKA
import Derived.Test.YtlolcpfkaoembaaG1
import Derived.ShutString
import Derived.ChangeOld
namespace Go.Proofs.Ytlolcpfkaoembaa.checkOne
open Go.ChangeShapes Go.WideShapes Go.ChangeAt Go.RowKit
open Go.ChangeMaps (open_string shut_string)
set_option linter.unusedVariables false

theorem nat_u16 (x : Int) (h : (Lit.int .u16 x).wf = true) : ∃ n : Nat, x = (n : Int) ∧ n < 65536 := by
  have := bounds_u16 h
  exact ⟨x.toNat, by omega, by omega⟩
set_option maxHeartbeats 2000000 in
set_option maxRecDepth 100000 in
theorem walk (s : ByteArray) (x1 x2 : Int) (n0 : s.size ≤ maxLen) (n1 : (Lit.int .u16 x1).wf = true) (n2 : (Lit.int .u8 x2).wf = true) (w : World) :
    Calls Try.prog 8 #[.string s, .int .u16 x1, .int .u8 x2] w fun e w' => e = .returned (.bool true) ∧ Below w.heap.size w w' := by
  obtain ⟨at0, rfl, hat⟩ := nat_u16 x1 n1
  obtain ⟨y, rfl, hy⟩ := nat_u8 x2 n2
  have HS := Lib.hid (fun w => k_shown w)
  clear n1 n2
  by_cases h1 : 1000 < s.size
  · have g1 : (1000 : Int) < (s.size : Int) := by omega
    go_enter Try.func8, Try.ntmps8
    go_wp2_with (go_at_call 9; (with_reducible refine (HS.out _).mono ?_); rintro e w1 ⟨rfl, hb1⟩)
    go_ret
    exact ⟨rfl, hb1⟩
  have g1 : ¬ (1000 : Int) < (s.size : Int) := by omega
  by_cases h2 : s.size = 0
  · have g2 : ((s.size : Int) == 0) = true := by simp [h2]
    go_enter Try.func8, Try.ntmps8
    go_wp2_with (go_at_call 9; (with_reducible refine (HS.out _).mono ?_); rintro e w1 ⟨rfl, hb1⟩)
    go_ret
    exact ⟨rfl, hb1⟩
  have g2 : ((s.size : Int) == 0) = false := by rw [beq_eq_false_iff_ne]; omega
  by_cases h3 : y = 0
  · subst h3
    go_enter Try.func8, Try.ntmps8
    go_wp2_with (go_at_call 9; (with_reducible refine (HS.out _).mono ?_); rintro e w1 ⟨rfl, hb1⟩)
    go_ret
    exact ⟨rfl, hb1⟩
  have g3 : ((y : Int) == 0) = false := by rw [beq_eq_false_iff_ne]; omega
  obtain ⟨p, hp, hpl⟩ : ∃ p, at0 % s.size = p ∧ p < s.size := ⟨_, rfl, Nat.mod_lt _ (by omega)⟩
  have e1 : (at0 : Int) % (s.size : Int) = (p : Int) := by rw [← hp]; simp
  have e2 : (at0 : Int).tmod (s.size : Int) = (p : Int) := by rw [Int.tmod_eq_emod_of_nonneg (by omega)]; exact e1
  have hlen := sl_len s
  have hne := sumK_one (sl_bys s) (p := p) (y := y) (by omega) hy h3
  have hbys : Bys ((sl s).set p ((sl s).getD p 0 ^^^ y)) := fun i => by
    rw [getD_set _ _ _ _ (by omega)]
    split
    · exact Nat.xor_lt_two_pow (n := 8) (sl_bys s _) hy
    · exact sl_bys s i
  have hx := xorB ((sl s).getD p 0) y (sl_bys s p) hy
  have HZ : Hid (∃ z, (sl s).getD p 0 = z) := Lib.hid ⟨_, rfl⟩
  obtain ⟨t, ht⟩ : ∃ t, tx ((sl s).set p ((sl s).getD p 0 ^^^ y)) = t := ⟨_, rfl⟩
  have htl : sl t = (sl s).set p ((sl s).getD p 0 ^^^ y) := by rw [← ht]; exact sl_tx hbys
  have htz : t.size = s.size := by rw [← ht, tx_size, List.length_set, hlen]
  have hS1 := fun w => k_Sum s w (by omega)
  have hS2 := fun w => k_Sum t w (by omega)
  simp only [htl] at hS2
  obtain ⟨A, hA⟩ : ∃ A, sumK (sl s) = A := ⟨_, rfl⟩
  obtain ⟨B, hB⟩ : ∃ B, sumK ((sl s).set p ((sl s).getD p 0 ^^^ y)) = B := ⟨_, rfl⟩
  rw [hA, hB] at hne
  simp only [hA] at hS1
  simp only [hB] at hS2
  have hgn : ((B : Int) != (A : Int)) = true := by simp; omega
  have HS1 := Lib.hid hS1
  have HS2 := Lib.hid hS2
  have HT := Lib.hid ht
  have HIS := Lib.hid (is_sl s)
  have HLN := Lib.hid hlen
  have z0 : ¬ (s.size : Int) = 0 := by omega
  clear hS1 hS2 ht hA hB htl hbys hlen hne hp
  generalize (sl s).getD p 0 ^^^ y = v at *
  obtain ⟨z, hz⟩ := HZ.out
  rw [hz] at hx
  have HZ2 := Lib.hid hz
  clear hz HZ
  go_enter Try.func8, Try.ntmps8
  go_wp2_with (first | (go_at_call 9; (with_reducible refine (HS.out _).mono ?_); rintro e w1 ⟨rfl, hb1⟩) | (refine wpList_bytes_at rfl 9 38 5 _ rfl w1.heap.size s rfl Try.underlying9 Try.underlying38 Try.underlying5 (Nat.le_refl _) n0 ?_; intro cap5 w5 how5 hb5; rw [HIS.out] at how5; have hol : p < (nn (sl s)).length := (by rw [nn_length, HLN.out]; exact hpl); have c5 := how5.cell hol; have f5 := how5.free hol; rw [nn_getD, HZ2.out] at c5; have o5 := how5.set hol (v : Int); rw [nn_set] at o5; have O5 := Lib.hid o5; have b5 := Lib.hid (hb5.setCell (p := ⟨w1.heap.size, p, none⟩) (Nat.le_refl _) (.int .u8 (v : Int))); clear how5 hol o5 hb5) | (refine wpList_string_ownM rfl 38 9 5 _ rfl w1.heap.size _ _ rfl Try.underlying38 Try.underlying5 Try.underlying9 O5.out ?_; rw [show bs (nn ((sl s).set p v)) = t from HT.out]) | (go_at_call 16; first | ((with_reducible refine (HS2.out _).mono ?_); rintro e w2 ⟨rfl, hb2⟩) | ((with_reducible refine (HS1.out _).mono ?_); rintro e w3 ⟨rfl, hb3⟩)))
  go_ret
  have c1 := hb1.trans (b5.out.mono hb1.size)
  have c2 := c1.trans (hb2.mono c1.size)
  exact ⟨rfl, c2.trans (hb3.mono c2.size)⟩
set_option maxRecDepth 100000 in
theorem lifted (os : Os) (started : os.Started) (H : Type) (enc : TypeId × Value → H) :
    ReturnsInHanded {} Try.checked os 8 .any (Rows.checkOneSpec.pre6 enc Try.prog Try.f8 Rows.checkOneRow.domain false) (Rows.checkOneSpec.post enc Try.prog Try.f8 false true false false) := by
  refine returnsInHanded_of_change (C := Try.checked) own started (by kernel_rfl) Try.func8
    (ChangeSpec.witness6 (enc := enc) (C := Try.checked) false ⟨#[], #[.string ByteArray.empty, .int .u16 0, .int .u8 0], []⟩ 8 (by kernel_rfl) (by kernel_rfl) (by kernel_rfl) (by kernel_rfl)) ?_
  intro W base args ds gs before hval0 hW hcnd _
  have hval : ∀ (j : Nat) t v, Try.f8.params[j]? = some t → args[j]? = some v → Value.okWide Try.prog W .any base t v := hval0
  have hW' := hW
  obtain ⟨p, q, hA0, hV, rfl, hfz, hnd⟩ := hW
  have hA : DataW.TrodAll enc Try.prog W 0 (fun _ => true) true Try.f8.params.toList args.toList ds p := hA0
  rw [Try.params8] at hA hval
  obtain ⟨v0, vs0, d0, ds0, p0, q0, hargs, rfl, rfl, h0, r0⟩ := trodAll_cons hA
  obtain ⟨v1, vs1, d1, ds1, p1, q1, rfl, rfl, rfl, h1, r1⟩ := trodAll_cons r0
  obtain ⟨v2, vs2, d2, ds2, p2, q2, rfl, rfl, rfl, h2, r2⟩ := trodAll_cons r1
  obtain ⟨rfl, rfl, rfl⟩ := trodAll_nil r2
  obtain rfl : args = #[v0, v1, v2] := by cases args; simp_all
  obtain ⟨rfl, rfl⟩ := trodVars_none hV
  obtain ⟨l0, rfl, rfl, rfl, n0⟩ := open_string Try.underlying9 (hval 0 9 v0 rfl rfl) h0
  obtain ⟨l1, rfl, rfl, rfl, n1⟩ := open_int Try.underlying35 (hval 1 35 v1 rfl rfl) h1
  obtain ⟨l2, rfl, rfl, rfl, n2⟩ := open_int Try.underlying5 (hval 2 5 v2 rfl rfl) h2
  clear hA0 hval0
  simp only [List.append_nil] at hW'
  refine (walk l0 l1 l2 n0 n1 n2 W).mono fun e W' ⟨he, bel⟩ => ?_
  subst he
  exact ⟨_, rfl, _, _, _, [], _, [], hW', trodAll_mk1 (shut_bool Try.underlying4 _), (trodAll_cons_mk (shut_string Try.underlying9 n0) (trodAll_cons_mk (shut_int Try.underlying35 n1) (trodAll_cons_mk (shut_int Try.underlying5 n2) trodAll_mk0))), rfl, bel.frame _, fun h => by cases h⟩

theorem over : Rows.checkOneRow.holds Try.pinned (OpenSpec.ofChange Rows.checkOneSpec) :=
  OpenClaim.holds_of_wide 8 Try.f8 rfl rfl rfl rfl rfl rfl rfl ⟨rfl, rfl, rfl, rfl, rfl⟩ rfl rfl rfl rfl rfl (by kernel_rfl) Try.func8 (by kernel_rfl)
    (of_decide_eq_true (by kernel_rfl)) (by unfold Func.isWrapper; first | (rw [if_pos (by decide +kernel)]; kernel_rfl) | (rw [if_neg (by decide +kernel)]; exact ⟨rfl, rfl⟩))
    (fun os started H enc _ => lifted os started H enc)

theorem proved : Rows.CheckOneSaid :=
  over
#print axioms proved
end Go.Proofs.Ytlolcpfkaoembaa.checkOne
