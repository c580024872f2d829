/- Walks of areCode, turned and Codes. -/
import Derived.Test.YtpjdlkbpnodcdaaPCnt
import Derived.Test.YtpjdlkbpnodcdaaJ1
import Derived.WalkMore
namespace Go.Proofs.Ytpjdlkbpnodcdaa
open Go.RowKit
set_option linter.unusedVariables false

section
variable {P : Program} {ops : Array Oper} {rest : List Oper} {o : Oper} {a : Act} {w : World} {Q : Exit → Act → World → Prop}
theorem wpList_load_blkH (hgd : Region.wanted o (yielded ops a.tmps) = true) (ty : TypeId) (x : Operand) (ho : o.op = .load ty x)
    (g : Nat) (hx : a.eval x = .pointer (some ⟨g, 0, none⟩)) {t : TypeId} {cs : List Value} {d : TypeDesc} (hg : Blk w g t cs)
    (hu : P.underlying ty = some d) (hd : (match d with | .struct _ | .array _ _ => true | _ => false) = true) (hi : (P.info? ty).map (·.size) = some cs.length)
    (h : wpList P ops Q rest (a.put o.dst (.agg cs.toArray)) w) : wpList P ops Q (o :: rest) a w := by
  unfold wpList
  rw [if_pos hgd]
  exact .inl (wp_load_row ty x ho g hx t cs.toArray (0, 0) d hg hu hd (by simpa using hi) h)
end
/-- lengths of a code -/
def RightI (l : List Int) : Prop := l.length ≤ 300 ∧ (∀ x ∈ l, ¬ NoLen x) ∧ (kraftW (clL l) = 2 ^ 15 ∨ (cntN (clL l) 1 = 1 ∧ lgN (clL l) 1 = 1))
theorem RightI.nat {l : List Int} (h : RightI l) : ∃ L : List Nat, l = nn L ∧ RightN L := by
  obtain ⟨h1, h2, h3⟩ := h
  have e : l = nn (clL l) := by
    unfold nn clL
    rw [List.map_map]
    conv => lhs; rw [← List.map_id l]
    refine List.map_congr_left fun x hx => ?_
    have := h2 x hx
    unfold NoLen at this
    show x = ((clN x : Nat) : Int)
    unfold clN
    split <;> omega
  exact ⟨clL l, e, by rw [clL_len]; exact h1, clL_le l, h3⟩
theorem RightN.int {L : List Nat} (h : RightN L) : RightI (nn L) := by
  obtain ⟨h1, h2, h3⟩ := h
  refine ⟨by rw [nn_length]; exact h1, fun x hx => ?_, by rw [clL_nn h2]; exact h3⟩
  obtain ⟨n, hn, rfl⟩ := List.mem_map.1 hx
  obtain ⟨i, hi, rfl⟩ := mem_getD hn
  have := h2 i
  unfold NoLen
  omega
set_option maxRecDepth 100000 in
set_option maxHeartbeats 2000000 in
theorem p_areCode (l : List Int) (p : Option Addr) (cap : Nat) (w : World) (hl : l.length ≤ 310) (hS : Sl w 1 (.slice p l.length cap) (rowsI l)) (b : Bool) (hb : (b = true ∧ RightI l) ∨ (b = false ∧ ¬ RightI l)) :
    Calls Try.prog 32 #[.slice p l.length cap] w fun e w' => e = .returned (.bool b) ∧ Below w.heap.size w w' := by
  have HBB := Lib.hid hb
  by_cases hlen : l.length ≤ 300
  · have d0 : decide (300 < l.length) = false := decide_eq_false (by omega)
    have d0' : decide ((300 : Int) < (l.length : Int)) = false := decide_eq_false (by omega)
    by_cases hv : ∀ x ∈ l, ¬ NoLen x
    · have hH := pn_Has l p cap w (by omega) hS false (.inr ⟨rfl, hv⟩)
      have hC := p_count l p cap w (by omega) hS
      have hK := fun w1 (h : Below w.heap.size w w1) => p_Kraft l p cap w1 hl (hS.below h)
      have hclen := cntL_len (clL l)
      have hA := fun w1 => p_all (clL l) w1 (by rw [clL_len]; exact hl) (clL_le l)
      have hg1 : (cntL (clL l)).getD 1 0 = cntN (clL l) 1 := cntL_getD (by omega)
      have HH := Lib.hid hH
      have HC := Lib.hid hC
      have HKR := Lib.hid hK
      have HCL := Lib.hid hclen
      have HA := Lib.hid hA
      have HG1 := Lib.hid hg1
      obtain ⟨c, hcc⟩ : ∃ c, cntL (clL l) = c := ⟨_, rfl⟩
      rw [hcc] at HC HCL HG1
      have HA' : Hid (∀ w1, Calls Try.prog 38 #[.agg (ints .i64 (nn c)).toArray] w1 fun e w' => e = .returned (.int .i64 ((lgN (clL l) 1 : Nat) : Int)) ∧ Below w1.heap.size w1 w') := Lib.hid (fun w1 => by rw [← hcc]; exact HA.out w1)
      clear hH hC hK hclen hA hg1 HA hcc hS hb
      go_enter Try.func32, Try.ntmps32
      go_wp2_with fail
      (with_reducible refine HH.out.mono ?_)
      rintro e w9 ⟨rfl, rfl⟩
      go_wp2_with fail
      (with_reducible refine HC.out.mono ?_)
      rintro e w1 ⟨rfl, hb1⟩
      obtain ⟨m, hm⟩ : ∃ m, w1.heap.size = m := ⟨_, rfl⟩
      obtain ⟨w2, hw2⟩ : ∃ w2, (w1.alloc (.cells (ints .i64 (nn (zerN 16))).toArray 65)).setRow w1.heap.size (ints .i64 (nn c)).toArray = w2 := ⟨_, rfl⟩
      have KZ := Blk.new' w1 65 (ints .i64 (nn (zerN 16))) rfl
      have K2 : Blk w2 w1.heap.size 65 (ints .i64 (nn c)) := by rw [← hw2]; exact KZ.row _ (by rw [ints_length, ints_length, nn_length, nn_length, HCL.out, zerN_len])
      have Kb : Below w.heap.size w w2 := by rw [← hw2]; exact below_setRow (hb1.alloc hb1.size _) hb1.size _
      have hKR := HKR.out w2 Kb
      have HK := Lib.hid hKR
      have KZ := Lib.hid KZ
      have HK2 := Lib.hid K2
      have HKb := Lib.hid Kb
      have HW2 := Lib.hid hw2
      clear hKR K2 Kb HC HH hb1 HKR hm hw2
      go_wp2_with (first | (refine wpList_alloc_n rfl 65 rfl w1.heap.size rfl _ (alloc_cnts _) ?_) | (refine wpList_store_blk rfl 65 _ _ rfl w1.heap.size (ints .i64 (nn c)) rfl rfl KZ.out (ints16 HCL.out) (by rw [ints_length, ints_length, nn_length, nn_length, HCL.out, zerN_len]) (ints_one _ _) ?_))
      rw [HW2.out]
      clear KZ HW2
      generalize w1.heap.size = g at *
      (with_reducible refine HK.out.mono ?_)
      rintro e w3 ⟨rfl, hb3⟩
      have K3 := HK2.out.below hb3 HK2.out.lt
      have Kb3 := HKb.out.trans (hb3.mono HKb.out.size)
      have c1 := K3.nat (j := 1) (by rw [HCL.out]; omega)
      rw [HG1.out] at c1
      have hA := HA'.out w3
      have HA := Lib.hid hA
      have K3 := Lib.hid K3
      have Kb3 := Lib.hid Kb3
      obtain ⟨kr, hkr⟩ : ∃ x, kraftW (clL l) = x := ⟨_, rfl⟩
      obtain ⟨c1v, hc1v⟩ : ∃ x, cntN (clL l) 1 = x := ⟨_, rfl⟩
      obtain ⟨al, hal⟩ : ∃ x, lgN (clL l) 1 = x := ⟨_, rfl⟩
      rw [hc1v] at c1
      rw [hal] at HA
      rw [hkr]
      have hR : (b = true ∧ (kr = 32768 ∨ (c1v = 1 ∧ al = 1))) ∨ (b = false ∧ ¬ (kr = 32768 ∨ (c1v = 1 ∧ al = 1))) := by
        rcases HBB.out with ⟨h, h1, h2, h3⟩ | ⟨h, hn⟩
        · rw [hkr, hc1v, hal] at h3
          exact .inl ⟨h, h3⟩
        · refine .inr ⟨h, fun h' => hn ⟨hlen, hv, ?_⟩⟩
          rw [hkr, hc1v, hal]
          exact h'
      have HR := Lib.hid hR
      clear hR hkr hc1v hal hA hb3 HK HK2 HKb HBB HA' HG1 hv
      by_cases k1 : kr = 32768
      · have e1 : ((kr : Int) == 32768) = true := by rw [beq_iff_eq]; omega
        obtain rfl : b = true := by rcases HR.out with ⟨h, _⟩ | ⟨_, h⟩; exact h; exact absurd (.inl k1) h
        clear k1
        go_wp2
        go_ret
        exact ⟨rfl, Kb3.out⟩
      · have e1 : ((kr : Int) == 32768) = false := by rw [beq_eq_false_iff_ne]; omega
        by_cases k2 : c1v = 1
        · have e2 : ((c1v : Int) == 1) = true := by rw [beq_iff_eq]; omega
          have hkk : b = decide (al = 1) := by
            rcases HR.out with ⟨h, h2⟩ | ⟨h, h2⟩
            · rw [h, decide_eq_true]; rcases h2 with h2 | h2; exact absurd h2 k1; exact h2.2
            · rw [h, decide_eq_false]; exact fun h3 => h2 (.inr ⟨k2, h3⟩)
          have e3 : ((al : Int) == 1) = b := by
            rw [hkk]
            by_cases h : al = 1
            · rw [decide_eq_true h, beq_iff_eq]; omega
            · rw [decide_eq_false h, beq_eq_false_iff_ne]; omega
          clear k1 k2 hkk
          go_wp2_with (refine wpList_load_blkH rfl 65 _ rfl g rfl K3.out Try.underlying65 rfl (ints16 HCL.out) ?_)
          (with_reducible refine HA.out.mono ?_)
          rintro e w4 ⟨rfl, hb4⟩
          go_wp2
          have Kb4 := Kb3.out.trans (hb4.mono Kb3.out.size)
          go_ret
          exact ⟨rfl, Kb4⟩
        · have e2 : ((c1v : Int) == 1) = false := by rw [beq_eq_false_iff_ne]; omega
          obtain rfl : b = false := by
            rcases HR.out with ⟨_, h⟩ | ⟨h, _⟩
            · rcases h with h | h
              · exact absurd h k1
              · exact absurd h.1 k2
            · exact h
          clear k1 k2
          go_wp2
          go_ret
          exact ⟨rfl, Kb3.out⟩
    · obtain rfl : b = false := by
        rcases HBB.out with ⟨_, h⟩ | ⟨h, _⟩
        · exact absurd h.2.1 hv
        · exact h
      have hex : ∃ x ∈ l, NoLen x := by
        obtain ⟨d, hd⟩ := Classical.not_forall.1 hv
        obtain ⟨hd1, hd2⟩ := Classical.not_imp.1 hd
        exact ⟨d, hd1, Classical.not_not.1 hd2⟩
      have hH := pn_Has l p cap w (by omega) hS true (.inl ⟨rfl, hex⟩)
      have HH := Lib.hid hH
      clear hH hS hb hv hex
      go_enter Try.func32, Try.ntmps32
      go_wp2_with fail
      (with_reducible refine HH.out.mono ?_)
      rintro e w9 ⟨rfl, rfl⟩
      go_wp2
      go_ret
      exact ⟨rfl, Below.refl _ _⟩
  · obtain rfl : b = false := by
      rcases HBB.out with ⟨_, h⟩ | ⟨h, _⟩
      · exact absurd h.1 hlen
      · exact h
    have d0 : decide (300 < l.length) = true := decide_eq_true (by omega)
    have d0' : decide ((300 : Int) < (l.length : Int)) = true := decide_eq_true (by omega)
    clear hb hS
    go_enter Try.func32, Try.ntmps32
    go_wp2
    go_ret
    exact ⟨rfl, Below.refl _ _⟩
theorem and_one_i64 (b : Nat) (h : b < 9223372036854775808) : bits .and .i64 (b : Int) 1 = ((b % 2 : Nat) : Int) := by
  have := (bits_nat .i64 63 (by decide) (fun n h0 h1 => by rw [IntKind.wrap_i64]; omega) b 1 (by omega) (by decide)).1
  rw [Nat.and_one_is_mod] at this
  exact this
/-- what is turned round by then -/
theorem turn_or {a y i : Nat} (h : 2 ^ i ∣ a) (hy : y < 2 ^ i) : a ||| y = a + y := by
  obtain ⟨q, rfl⟩ := h
  rw [Nat.or_comm, Nat.mul_comm, or_add y q i hy, Nat.add_comm]
set_option maxRecDepth 100000 in
set_option maxHeartbeats 1000000 in
theorem p_turned (v n : Nat) (w : World) (hn : 1 ≤ n) (hn15 : n ≤ 15) (hv : v < 2 ^ n) :
    Calls Try.prog 35 #[.int .i64 (v : Int), .int .i64 (n : Int)] w fun e w' => e = .returned (.int .u32 ((revN v n : Nat) : Int)) ∧ w = w' := by
  have hpn : 2 ^ n ≤ 2 ^ 15 := Nat.pow_le_pow_right (by decide) hn15
  have hv15 : v < 32768 := by omega
  have HV := Lib.hid hv
  clear hv hpn
  go_enter Try.func35, Try.ntmps35
  go_wp2
  go_step3
  go_wp2
  go_step3
  go_wp2
  go_loop [0, 5, 6, 11, 14] (fun x m t _ _ => ∃ j : Nat, j ≤ n ∧ x = .int .i64 ((v / 2 ^ j : Nat) : Int) ∧ m = .int .u32 ((revN v j * 2 ^ (n - j) : Nat) : Int) ∧ t = .int .i64 ((n : Int) - 1 - (j : Int))) (fun _ _ t _ _ => (intOf t + 1).toNat)
  case atStart => exact ⟨0, by omega, by simp, by rw [revN_zero, Nat.zero_mul]; rfl, by simp⟩
  case round =>
    obtain ⟨j, hj, rfl, rfl, rfl⟩ := hrel
    obtain ⟨x, hx⟩ : ∃ x, v / 2 ^ j = x := ⟨_, rfl⟩
    have hx15 : x < 32768 := by rw [← hx]; exact Nat.lt_of_le_of_lt (Nat.div_le_self _ _) hv15
    by_cases h0 : x = 0
    · have hlow := revN_low (v := v) (t := j) (by rw [hx]; exact h0) (n - j)
      rw [show j + (n - j) = n by omega] at hlow
      have HLOW := Lib.hid hlow
      have e1 : ((x : Int) == 0) = true := by rw [beq_iff_eq]; omega
      rw [hx]
      clear hlow hx h0
      go_wp2
      go_ret
      exact ⟨by rw [HLOW.out]; rfl, rfl⟩
    · have hjn : j < n := by
        rcases Nat.lt_or_ge j n with h | h
        · exact h
        · have : j = n := by omega
          subst this
          have := Nat.div_eq_of_lt HV.out
          omega
      have hsu := revN_succ v j
      rw [hx] at hsu
      have hdj : v / 2 ^ (j + 1) = x / 2 := by rw [Nat.pow_succ, ← Nat.div_div_eq_div_mul, hx]
      have e1 : ((x : Int) == 0) = false := by rw [beq_eq_false_iff_ne]; omega
      have e2 : bits .and .i64 (x : Int) 1 = (x : Int) % 2 := by rw [and_one_i64 x (by omega)]; omega
      have e3 : (x : Int).fdiv (2 ^ min (Int.toNat 1) IntKind.i64.bits) = ((x / 2 : Nat) : Int) := by
        rw [show ((2 : Int) ^ min (Int.toNat 1) IntKind.i64.bits) = 2 from rfl, Int.fdiv_eq_ediv_of_nonneg _ (by omega)]
        omega
      obtain ⟨k, hk⟩ : ∃ k, n - 1 - j = k := ⟨_, rfl⟩
      have e4 : (n : Int) - 1 - (j : Int) = (k : Int) := by omega
      have e5 : n - j = k + 1 := by omega
      have e6 : n - (j + 1) = k := by omega
      have i2 : (k : Int).toNat = k := by omega
      have i3 : (0 : Int) ≤ (k : Int) := by omega
      have hk15 : k ≤ 14 := by omega
      have hpk : 2 ^ k ≤ 2 ^ 14 := Nat.pow_le_pow_right (by decide) hk15
      have hmade := Nat.mul_le_mul (show revN v j ≤ 2 ^ j from Nat.le_of_lt (revN_lt v j)) (Nat.le_refl (2 ^ (k + 1)))
      rw [← Nat.pow_add] at hmade
      have hmd : 2 ^ (j + (k + 1)) ≤ 2 ^ 15 := Nat.pow_le_pow_right (by decide) (by omega)
      rw [hx, e5, e4]
      have hmm : revN v j * 2 ^ (k + 1) + 2 ^ k ≤ 100000 := by omega
      by_cases hb : x % 2 = 1
      · have hor := turn_or (a := revN v j * 2 ^ (k + 1)) (y := 2 ^ k) (i := k + 1) (Nat.dvd_mul_left _ _) (Nat.pow_lt_pow_right (by decide) (by omega))
        have hnew : revN v j * 2 ^ (k + 1) + 2 ^ k = revN v (j + 1) * 2 ^ k := by
          rw [hsu, hb, Nat.pow_succ, Nat.add_mul, Nat.one_mul, Nat.mul_assoc, Nat.mul_comm 2 (2 ^ k)]
        rw [hnew] at hor hmm
        obtain ⟨a, ha⟩ : ∃ a, revN v j * 2 ^ (k + 1) = a := ⟨_, rfl⟩
        obtain ⟨b, hb'⟩ : ∃ b, revN v (j + 1) * 2 ^ k = b := ⟨_, rfl⟩
        obtain ⟨q, hq⟩ : ∃ q, 2 ^ k = q := ⟨_, rfl⟩
        have hp2 : (2 : Int) ^ k = (q : Int) := by rw [← hq]; simp
        rw [ha, hb', hq] at hor
        rw [hb'] at hmm
        rw [ha] at hmade hnew ⊢
        rw [hb', hq] at hnew
        have hw : IntKind.u32.wrap (q : Int) = (q : Int) := wraps_u32 _ (by omega) (by omega)
        have hor2 : bits .or .u32 (a : Int) (q : Int) = (b : Int) := by rw [or_u32 _ _ (by omega) (by omega), hor]
        have e7 : ((x : Int) % 2 == 1) = true := by rw [beq_iff_eq]; omega
        have HB := Lib.hid hb'
        have HDJ := Lib.hid hdj
        have HE6 := Lib.hid e6
        have i4 : (k : Int) ≤ 14 := by omega
        clear hsu hdj hor hnew ha hb' hq hmm hmade hmd hpk hb hx h0 hk e5 e6
        go_wp2
        go_round
        case rel => exact ⟨j + 1, by omega, by rw [HDJ.out]; simp, by rw [HE6.out, HB.out], by first | rfl | go_num | (congr 1; omega)⟩
        case measure => (simp [intOf]; try omega)
      · have hb0 : x % 2 = 0 := by omega
        have hnew : revN v j * 2 ^ (k + 1) = revN v (j + 1) * 2 ^ k := by
          rw [hsu, hb0, Nat.pow_succ, Nat.add_zero, Nat.mul_assoc, Nat.mul_comm 2 (2 ^ k)]
        rw [hnew]
        have e7 : ((x : Int) % 2 == 1) = false := by rw [beq_eq_false_iff_ne]; omega
        have HDJ := Lib.hid hdj
        have HE6 := Lib.hid e6
        have i4 : (k : Int) ≤ 14 := by omega
        clear hsu hdj hnew hmm hmade hmd hpk hb hb0 hx h0 hk e5 e6
        go_wp2
        go_round
        case rel => exact ⟨j + 1, by omega, by rw [HDJ.out]; simp, by rw [HE6.out], by first | rfl | go_num | (congr 1; omega)⟩
        case measure => (simp [intOf]; try omega)
end Go.Proofs.Ytpjdlkbpnodcdaa
