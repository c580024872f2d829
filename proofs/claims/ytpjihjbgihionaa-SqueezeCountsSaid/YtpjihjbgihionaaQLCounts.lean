/-
  For all tokens and texts: how often symbols come in the tokens is the document's; in those of the text they are as many as tokens, and the end. Longer ones than the bounds are answered by the case shown alone. No condition.
-/
import Derived.Test.YtpjihjbgihionaaRows
import Derived.Test.YtpjihjbgihionaaQC
import Derived.Test.YtpjihjbgihionaaQRFr
import Derived.Test.YtpjihjbgihionaaWB
import Derived.ShutString
import Derived.ChangeOld
namespace Go.Proofs.Ytpjihjbgihionaa.squeezeCounts
open Go.ChangeShapes Go.WideShapes Go.ChangeAt Go.RowKit
open Go.ChangeMaps (open_string shut_string)
set_option linter.unusedVariables false

theorem sum_take (F : List Nat) {j : Nat} (h : j < F.length) : (F.take (j + 1)).sum = (F.take j).sum + F.getD j 0 := by
  rw [take_snoc F j h, List.sum_append]
  simp
theorem sum_le (F : List Nat) (j : Nat) : (F.take j).sum ≤ F.sum := by
  conv => rhs; rw [← List.take_append_drop j F, List.sum_append]
  omega
set_option maxHeartbeats 8000000 in
set_option maxRecDepth 100000 in
theorem walk (T : List (Nat × Int × Int)) (p : Option Addr) (cap : Nat) (s : ByteArray) (hu : (∀ q ∈ T, q.1 < 256) ∧ (Value.slice p T.length cap = .slice none 0 0 ∨ ∃ ad n c, Value.slice p T.length cap = .slice (some ad) n c)) (hm : s.size ≤ maxLen) (w : World) (hS : Sl w 3 (.slice p T.length cap) (rowsTk T)) :
    Calls Try.prog 5 #[.slice p T.length cap, .string s] w fun e w' => e = .returned (.bool true) ∧ Below w.heap.size w w' := by
  have HSh := Lib.hid (fun w => l9_shown w)
  by_cases h1 : 300 < T.length
  · have g1 : (300 : Int) < (T.length : Int) := by omega
    clear hS hu
    go_enter Try.func5, Try.ntmps5
    go_wp2_with (go_at_call 9; (with_reducible refine (HSh.out _).mono ?_); rintro e w1 ⟨rfl, hb1⟩)
    go_ret
    exact ⟨rfl, hb1⟩
  have g1 : ¬ (300 : Int) < (T.length : Int) := by omega
  by_cases h2 : 1500 < s.size
  · have g2 : (1500 : Int) < (s.size : Int) := by omega
    clear hS hu
    go_enter Try.func5, Try.ntmps5
    go_wp2_with (go_at_call 9; (with_reducible refine (HSh.out _).mono ?_); rintro e w1 ⟨rfl, hb1⟩)
    go_ret
    exact ⟨rfl, hb1⟩
  have g2 : ¬ (1500 : Int) < (s.size : Int) := by omega
  obtain ⟨i0, hi0, hz0, hz1, hz2⟩ := info_parts2 info_rt
  have hF := fun w1 (h : Below w.heap.size w w1) => q_Freq T p cap w1 (by omega) hu.1 (hS.below h)
  have hR := fun q c w1 hp (h : Sl w1 3 (.slice q T.length c) (rowsTk T)) => r_Freq T q c w1 (by omega) hu.1 hp h
  have hfl := freqA_len T
  obtain ⟨F, hFF⟩ : ∃ F, freqA T = F := ⟨_, rfl⟩
  rw [hFF] at hF hR hfl
  have hok := split_ok (sl_bys s)
  have hSp := fun w1 => p_Split s w1 (by omega)
  have hTl := splitW_len (sl s) s.size 0
  rw [sl_len] at hok hTl
  obtain ⟨Y, hY⟩ : ∃ Y, splitW (sl s) s.size 0 = Y := ⟨_, rfl⟩
  rw [hY] at hok hSp hTl
  have hF2 := fun q c w1 (h : Sl w1 3 (.slice q Y.length c) (rowsTk Y)) => q_Freq Y q c w1 (by omega) (fun t ht => okT_c (hok t ht)) h
  rw [freqA_ok hok] at hF2
  have hsum := freq_sum hok
  have hgl := freqT_len Y
  obtain ⟨G, hGG⟩ : ∃ G, freqT Y = G := ⟨_, rfl⟩
  rw [hGG] at hF2 hsum hgl
  have hY1 : Y.length ≤ 1500 := by omega
  obtain ⟨N, hN⟩ : ∃ N, Y.length = N := ⟨_, rfl⟩
  rw [hN] at hF2 hsum hY1
  have HS := Lib.hid hS
  have HF := Lib.hid hF
  have HR := Lib.hid hR
  have HFL := Lib.hid hfl
  have HSP := Lib.hid hSp
  have HF2 := Lib.hid hF2
  have HSUM := Lib.hid hsum
  have HGL := Lib.hid hgl
  have HN := Lib.hid hN
  clear hS hF hR hfl hSp hF2 hsum hgl hN hY hok hTl hFF hGG hu
  go_enter Try.func5, Try.ntmps5
  go_wp2_with (go_at_call 9; (with_reducible refine (HSh.out _).mono ?_); rintro e w1 ⟨rfl, hb1⟩)
  have HB1 := Lib.hid hb1
  have k0 := Lib.hid (OwnR.empty w1 w1.heap.size 33 3 (Nat.le_refl _))
  have kb := Lib.hid ((Below.refl w1.heap.size w1).alloc (Nat.le_refl _) (.cells #[] 33))
  clear hb1
  go_loopw [5, 6] (fun l i wr => ∃ (j : Nat) (lv : Value), lv = l ∧ i = .int .i64 (j : Int) ∧ j ≤ T.length ∧ OwnR wr w1.heap.size 33 3 lv (rowsTk (T.take j)) ∧ Below w1.heap.size w1 wr) (fun _ i _ => T.length - (intOf i).toNat)
  case atStart => exact ⟨0, _, rfl, rfl, by omega, k0.out, kb.out⟩
  case round =>
    obtain ⟨j, lv, rfl, rfl, hj, gO, gb⟩ := hrel
    clear k0 kb
    by_cases hlt : j < T.length
    · have d1 : (j : Int) < (T.length : Int) := by omega
      obtain ⟨a, rfl, hc⟩ := (HS.out.below (HB1.out.trans (gb.mono HB1.out.size))).row (rowsTk_at hlt)
      have hsn := rowsTk_take hlt
      have htl : (T.take j).length = j := by rw [List.length_take]; omega
      obtain ⟨q1, q2, q3, q4, q5, q6, q7, q8⟩ := tok_more T[j] (Nat.le_of_eq htl) (by omega) gO gb
      obtain ⟨c, n, b, ht⟩ : ∃ c n b, T[j] = (c, n, b) := ⟨_, _, _, rfl⟩
      rw [ht] at hc hsn q1 q2 q3 q4 q5 q6 q7
      have HC := Lib.hid hc
      have HSN := Lib.hid hsn
      have Q1 := Lib.hid q1
      have Q2 := Lib.hid q2
      have Q3 := Lib.hid q3
      have Q4 := Lib.hid q4
      have Q5 := Lib.hid q5
      have Q6 := Lib.hid q6
      have Q7 := Lib.hid q7
      have Q8 := Lib.hid q8
      clear hc hsn htl ht q1 q2 q3 q4 q5 q6 q7 q8 gO gb
      go_wp2_with (first | (refine wpList_load_addr rfl 34 _ rfl _ rfl (rowT (c, n, b)) HC.out Try.underlying34 rfl size_tk ?_; rw [rowT_arr]) | (refine wpList_append_rows rfl _ _ 31 rfl w1.heap.size 33 i0 (.agg #[.int .u8 0, .int .i64 0, .int .i64 0]) 3 24 Try.underlying31 hi0 hz0 hz1 hz2 rfl (by decide) _ (rowsTk (T.take j)) rfl Q2.out (.slice (some ⟨wr.heap.size, 0, none⟩) 1 1) [rowT (c, n, b)] rfl Q1.out Q4.out Q5.out Q6.out Q7.out (.inr ⟨_, _, _, rfl⟩) ?_; intro v7 w7 ho7 hg7 hv7))
      go_roundw
      case rel => exact ⟨j + 1, v7, rfl, by go_num, by omega, by rw [HSN.out]; exact ho7, Q3.out.grown hg7 Q7.out (fun k e => (Q8.out k e).1)⟩
      case measure => (simp [intOf]; try omega)
    · obtain rfl : j = T.length := by omega
      rw [List.take_length] at gO
      obtain ⟨p3, c3, hv3, hsh3⟩ := gO.shape
      rw [rowsTk_len] at hv3
      have hs3 := gO.sl
      rw [hv3] at hs3
      have hb2 := HB1.out.trans (gb.mono HB1.out.size)
      have hF := Lib.hid (HF.out wr hb2)
      have HB2 := Lib.hid hb2
      have HS3 := Lib.hid hs3
      have HSH := Lib.hid hsh3
      obtain ⟨K, hK⟩ : ∃ K, T.length = K := ⟨_, rfl⟩
      have HKK := Lib.hid hK
      clear gO gb hs3 hb2 hsh3 HF
      rw [hK] at hv3
      subst hv3
      clear hK
      go_wp2_with fail
      refine hF.out.mono ?_
      rintro e w3 ⟨g3, rfl, hG3, hg3, hb3⟩
      have hR := HR.out p3 c3 w3 HSH.out (HS3.out.below hb3)
      rw [HKK.out] at hR
      have hR := Lib.hid hR
      have HB3 := Lib.hid (HB2.out.trans (hb3.mono HB2.out.size))
      have HG3 := Lib.hid hG3
      clear hG3 hg3 hb3 HR hF HB2 HS3
      go_wp2_with fail
      refine hR.out.mono ?_
      rintro e w4 ⟨g4, c4, rest4, rfl, hG4, hg4, hb4⟩
      rw [HFL.out]
      have HB4 := Lib.hid (HB3.out.trans (hb4.mono HB3.out.size))
      have HG3' := Lib.hid (HG3.out.below hb4 HG3.out.lt)
      have HG4 := Lib.hid hG4
      clear hG4 hg4 hb4 hR HB3 HG3
      go_wp2_with fail
      go_loopw [9] (fun i wr => ∃ j : Nat, j ≤ 289 ∧ i = .int .i64 (j : Int) ∧ Blk wr g3 3 (ints .i64 (nn F)) ∧ Blk wr g4 3 (ints .i64 (nn F) ++ rest4) ∧ Below w.heap.size w wr) (fun i _ => 289 - (intOf i).toNat)
      case atStart => exact ⟨0, by omega, rfl, HG3'.out, HG4.out, HB4.out⟩
      case round =>
        obtain ⟨j, hj, rfl, gA, gB, gb⟩ := hrel
        clear HG3' HG4 HB4
        by_cases hlt : j < 289
        · have d1 : (j : Int) < 289 := by omega
          have ca := gA.nat (j := j) (by rw [HFL.out]; exact hlt)
          have cb := gB.natR (j := j) (by rw [HFL.out]; exact hlt)
          obtain ⟨x, hx⟩ : ∃ x, F.getD j 0 = x := ⟨_, rfl⟩
          rw [hx] at ca cb
          have e1 : ((x : Int) != (x : Int)) = false := by simp
          have GA := Lib.hid gA
          have GB := Lib.hid gB
          have GBB := Lib.hid gb
          clear hx gA gB gb
          go_wp2_with fail
          go_quiet (fail)
          go_wp2
          go_roundw
          case rel => exact ⟨j + 1, by omega, by go_num, GA.out.drewN _, GB.out.drewN _, below_drewN GBB.out _⟩
          case measure => (simp [intOf]; try omega)
        · obtain rfl : j = 289 := by omega
          have hSp := Lib.hid (HSP.out wr)
          have HB5 := Lib.hid gb
          clear gA gB gb HSP
          go_wp2_with fail
          refine hSp.out.mono ?_
          rintro e w6 ⟨v6, rfl, ho6, hb6⟩
          obtain ⟨p6, c6, hv6⟩ := ho6.isSlice
          rw [rowsTk_len, HN.out] at hv6
          have hs6 := ho6.sl
          rw [hv6] at hs6
          have hF2 := Lib.hid (HF2.out p6 c6 w6 hs6)
          have HB6 := Lib.hid (HB5.out.trans (hb6.mono HB5.out.size))
          clear ho6 hs6 hb6 HF2 HB5 hSp
          subst hv6
          go_wp2_with fail
          refine hF2.out.mono ?_
          rintro e w7 ⟨g7, rfl, hG7, hg7, hb7⟩
          have HB7 := Lib.hid (HB6.out.trans (hb7.mono HB6.out.size))
          have HG7 := Lib.hid hG7
          clear hG7 hg7 hb7 hF2 HB6
          go_wp2_with fail
          go_loop [10, 13] (fun n i => ∃ j q : Nat, j ≤ 289 ∧ i = .int .i64 (j : Int) ∧ n = .int .i64 (q : Int) ∧ (G.take j).sum = q) (fun _ i => 289 - (intOf i).toNat)
          case atStart => exact ⟨0, 0, by omega, rfl, rfl, rfl⟩
          case round =>
            obtain ⟨j, q, hj, rfl, rfl, hq⟩ := hrel
            by_cases hlt : j < 289
            · have d1 : (j : Int) < 289 := by omega
              have ca := HG7.out.nat (j := j) (by rw [HGL.out]; exact hlt)
              have hst := sum_take G (j := j) (by rw [HGL.out]; exact hlt)
              have hle := sum_le G (j + 1)
              rw [HSUM.out] at hle
              obtain ⟨x, hx⟩ : ∃ x, G.getD j 0 = x := ⟨_, rfl⟩
              rw [hx] at ca hst
              rw [hst] at hle
              rw [hq] at hst hle
              have i1 : (q : Int) ≤ 2000 := by omega
              have i2 : (x : Int) ≤ 2000 := by omega
              have HST := Lib.hid hst
              clear hx hst hle hq
              go_wp2
              go_round
              case rel => exact ⟨j + 1, q + x, by omega, by go_num, by go_num, HST.out⟩
              case measure => (simp [intOf]; try omega)
            · obtain rfl : j = 289 := by omega
              rw [List.take_of_length_le (by rw [HGL.out]; omega), HSUM.out] at hq
              subst hq
              have i3 : (N : Int) ≤ 1500 := by omega
              have e9 : (((N + 1 : Nat) : Int) == (N : Int) + 1) = true := by simp
              have HB7' := HB7.out
              go_wp2
              go_ret
              exact ⟨rfl, HB7'⟩

set_option maxRecDepth 100000 in
theorem lifted (os : Os) (started : os.Started) (H : Type) (enc : TypeId × Value → H) :
    ReturnsInHanded {} Try.checked os 5 .any (Rows.squeezeCountsSpec.pre6 enc Try.prog Try.f5 Rows.squeezeCountsRow.domain false) (Rows.squeezeCountsSpec.post enc Try.prog Try.f5 false true false false) := by
  refine returnsInHanded_of_change (C := Try.checked) own started (by kernel_rfl) Try.func5
    (ChangeSpec.witness6 (enc := enc) (C := Try.checked) false ⟨#[], #[.slice none 0 0, .string ByteArray.empty], []⟩ 8 (by kernel_rfl) (by kernel_rfl) (by kernel_rfl) (by kernel_rfl)) ?_
  intro W base args ds gs before hval0 hW hcnd _
  have hval : ∀ (j : Nat) t v, Try.f5.params[j]? = some t → args[j]? = some v → Value.okWide Try.prog W .any base t v := hval0
  have hW' := hW
  obtain ⟨p, q, hA0, hV, rfl, hfz, hnd⟩ := hW
  have hA : DataW.TrodAll enc Try.prog W 0 (fun _ => true) true Try.f5.params.toList args.toList ds p := hA0
  rw [Try.params5] at hA hval
  obtain ⟨v0, vs0, d0, ds0, p0, q0, hargs, rfl, rfl, h0, r0⟩ := trodAll_cons hA
  obtain ⟨v1, vs1, d1, ds1, p1, q1, rfl, rfl, rfl, h1, r1⟩ := trodAll_cons r0
  obtain ⟨rfl, rfl, rfl⟩ := trodAll_nil r1
  obtain rfl : args = #[v0, v1] := by cases args; simp_all
  obtain ⟨rfl, rfl⟩ := trodVars_none hV
  have k0 := h0
  have lt0 : ∀ x ∈ p0, x.block < W.heap.size := by obtain ⟨m, hm⟩ := k0; exact DataW.trod_lt m _ _ _ hm
  obtain ⟨a0, m0, c0, rfl⟩ := Go.WideShapes.okWide_slice Try.underlying30 (hval 0 30 v0 rfl rfl)
  obtain ⟨l0, rfl, S0, n0⟩ := open_toks h0
  obtain ⟨l1, rfl, rfl, rfl, n1⟩ := open_string Try.underlying9 (hval 1 9 v1 rfl rfl) h1
  clear hA0 hval0
  simp only [List.append_nil] at hW'
  refine (walk l0 a0 c0 l1 n0 n1 W S0).mono fun e W' ⟨he, bel⟩ => ?_
  subst he
  exact ⟨_, rfl, _, _, _, [], _, [], hW', trodAll_mk1 (shut_bool Try.underlying4 _), (trodAll_cons_mk (Below.trod laidOut (by kernel_rfl) (of_decide_eq_true (by kernel_rfl)) k0 bel lt0) (trodAll_cons_mk (shut_string Try.underlying9 n1) trodAll_mk0)), rfl, bel.frame _, fun h => by cases h⟩

theorem over : Rows.squeezeCountsRow.holds Try.pinned (OpenSpec.ofChange Rows.squeezeCountsSpec) :=
  OpenClaim.holds_of_wide 5 Try.f5 rfl rfl rfl rfl rfl rfl rfl ⟨rfl, rfl, rfl, rfl, rfl⟩ rfl rfl rfl rfl rfl (by kernel_rfl) Try.func5 (by kernel_rfl)
    (of_decide_eq_true (by kernel_rfl)) (by unfold Func.isWrapper; first | (rw [if_pos (by decide +kernel)]; kernel_rfl) | (rw [if_neg (by decide +kernel)]; exact ⟨rfl, rfl⟩))
    (fun os started H enc _ => lifted os started H enc)

theorem proved : Rows.SqueezeCountsSaid :=
  over
#print axioms proved
end Go.Proofs.Ytpjihjbgihionaa.squeezeCounts
