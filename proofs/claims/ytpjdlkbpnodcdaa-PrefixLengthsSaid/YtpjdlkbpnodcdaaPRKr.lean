/- Walks of the reference's Kraft, right and turned. -/
import Derived.Test.YtpjdlkbpnodcdaaPFacts
import Derived.Test.YtpjdlkbpnodcdaaPOpen
namespace Go.Proofs.Ytpjdlkbpnodcdaa
open Go.RowKit
set_option linter.unusedVariables false

set_option maxRecDepth 100000 in
set_option maxHeartbeats 1000000 in
theorem r_Kraft (l : List Int) (p : Option Addr) (cap : Nat) (w : World) (hl : l.length ≤ 310) (hS : Sl w 1 (.slice p l.length cap) (rowsI l)) :
    Calls Try.prog 17 #[.slice p l.length cap] w fun e w' => e = .returned (.int .i64 ((kraftW (clL l) : Nat) : Int)) ∧ w = w' := by
  have hst := fun j => sumW_yes (g := wgtL (clL l)) (p := fun _ => true) (m := j) rfl
  have hbd := fun j => sumW_bound (p := fun _ => true) (wgtL_le (clL l)) j
  have hk : kraftW (clL l) = sumW (wgtL (clL l)) (fun _ => true) l.length := by unfold kraftW; rw [clL_len]
  have hwg : ∀ j, wgtL (clL l) j = wgt (clN (l.getD j 0)) := fun j => by unfold wgtL; rw [clL_getD]
  rw [hk]
  have z0 : sumW (wgtL (clL l)) (fun _ => true) 0 = 0 := rfl
  generalize sumW (wgtL (clL l)) (fun _ => true) = SU at *
  have HST := Lib.hid hst
  have HBD := Lib.hid hbd
  have HWG := Lib.hid hwg
  have HS := Lib.hid hS
  clear hst hbd hk hwg hS
  go_enter Try.func17, Try.ntmps17
  go_wp2
  go_loop [3, 4] (fun n i => ∃ j : Nat, j ≤ l.length ∧ i = .int .i64 (j : Int) ∧ n = .int .i64 ((SU j : Nat) : Int)) (fun _ i => l.length - (intOf i).toNat)
  case atStart => exact ⟨0, by omega, rfl, by rw [z0]; rfl⟩
  case round =>
    obtain ⟨j, hj, rfl, rfl⟩ := hrel
    clear z0
    by_cases hlt : j < l.length
    · have d1 : (j : Int) < (l.length : Int) := by omega
      obtain ⟨a, rfl, hc⟩ := SlI.cell HS.out hlt
      have hst := HST.out j
      have hbd := HBD.out j
      rw [HWG.out j] at hst
      obtain ⟨x, hx⟩ : ∃ x, l.getD j 0 = x := ⟨_, rfl⟩
      rw [hx] at hc hst
      obtain ⟨N, hN⟩ : ∃ N, SU j = N := ⟨_, rfl⟩
      rw [hN] at hst hbd ⊢
      have iN : (N : Int) ≤ 10000000 := by omega
      clear hx hN
      by_cases h1 : 1 ≤ x
      · by_cases h15 : x ≤ 15
        · obtain ⟨k, rfl⟩ : ∃ k : Nat, x = (k : Int) := ⟨x.toNat, by omega⟩
          have hcl : clN (k : Int) = k := by unfold clN; rw [if_pos ⟨h1, h15⟩]; omega
          obtain ⟨m, hm⟩ : ∃ m, 15 - k = m := ⟨_, rfl⟩
          have hw1 : wgt k = 2 ^ m := by unfold wgt; rw [if_neg (by omega), hm]
          rw [hcl, hw1] at hst
          have hp : (2 : Nat) ^ m ≤ 2 ^ 15 := Nat.pow_le_pow_right (by decide) (by omega)
          obtain ⟨q, hq⟩ : ∃ q, 2 ^ m = q := ⟨_, rfl⟩
          have hp2 : (2 : Int) ^ m = (q : Int) := by rw [← hq]; simp
          rw [hq] at hst hp
          have e4 : (15 : Int) - (k : Int) = (m : Int) := by omega
          have i2 : (m : Int).toNat = m := by omega
          have i3 : (0 : Int) ≤ (m : Int) := by omega
          have i4 : (m : Int) ≤ 15 := by omega
          have i5 : (q : Int) ≤ 32768 := by omega
          have hw64 : wrap64 (q : Int) = (q : Int) := Go.IntWalk.wrap64_in _ ⟨by omega, by omega⟩
          have HST1 := Lib.hid hst
          clear hst hbd hq hw1 hcl hp hm
          go_wp2
          go_round
          case rel => exact ⟨j + 1, by omega, by go_num, by rw [HST1.out]; go_num⟩
          case measure => (simp [intOf]; try omega)
        · have t2 : decide (x ≤ 15) = false := decide_eq_false h15
          have hcl : clN x = 0 := by unfold clN; rw [if_neg (by omega)]
          rw [hcl, show wgt 0 = 0 from rfl, Nat.add_zero] at hst
          have HST1 := Lib.hid hst
          clear hst hbd hcl h15
          go_wp2
          go_round
          case rel => exact ⟨j + 1, by omega, by go_num, by rw [HST1.out]; rfl⟩
          case measure => (simp [intOf]; try omega)
      · have t1 : decide (1 ≤ x) = false := decide_eq_false h1
        have hcl : clN x = 0 := by unfold clN; rw [if_neg (by omega)]
        rw [hcl, show wgt 0 = 0 from rfl, Nat.add_zero] at hst
        have HST1 := Lib.hid hst
        clear hst hbd hcl h1
        go_wp2
        go_round
        case rel => exact ⟨j + 1, by omega, by go_num, by rw [HST1.out]; rfl⟩
        case measure => (simp [intOf]; try omega)
    · obtain rfl : j = l.length := by omega
      go_wp2
      go_ret
      exact ⟨rfl, rfl⟩
theorem used_lg {l : List Int} (h : ∀ x ∈ l, ¬ NoLen x) : usedI l = lgN (clL l) 1 := by
  have e : l = nn (clL l) := by
    unfold nn clL
    rw [List.map_map]
    conv => lhs; rw [← List.map_id l]
    refine List.map_congr_left fun x hx => ?_
    have := h x hx
    unfold NoLen at this
    show x = ((clN x : Nat) : Int)
    unfold clN
    split <;> omega
  rw [lgN_trees (fr := clL l) rfl (fun _ => Iff.rfl), ← usedI_nn, ← e]
theorem right_iff {l : List Int} (h300 : l.length ≤ 300) (h : ∀ x ∈ l, ¬ NoLen x) : RightI l ↔ (kraftW (clL l) = 32768 ∨ (usedI l = 1 ∧ kraftW (clL l) = 16384)) := by
  rw [used_lg h]
  constructor
  · rintro ⟨_, _, hk | hk⟩
    · exact .inl hk
    · exact .inr ((single_iff (clL_le l)).1 hk)
  · rintro (hk | hk)
    · exact ⟨h300, h, .inl hk⟩
    · exact ⟨h300, h, .inr ((single_iff (clL_le l)).2 hk)⟩
set_option maxRecDepth 100000 in
set_option maxHeartbeats 1000000 in
theorem r_right (l : List Int) (p : Option Addr) (cap : Nat) (w : World) (hl : l.length ≤ 310) (hS : Sl w 1 (.slice p l.length cap) (rowsI l)) (b : Bool) (hb : (b = true ∧ RightI l) ∨ (b = false ∧ ¬ RightI l)) :
    Calls Try.prog 36 #[.slice p l.length cap] w fun e w' => e = .returned (.bool b) ∧ w = w' := by
  have hK := fun n (h : ((kraftW (clL l) : Nat) : Int) = n) => by
    have := r_Kraft l p cap w hl hS
    rw [h] at this
    exact this
  have HS := Lib.hid hS
  have HB := Lib.hid hb
  have HK := Lib.hid hK
  clear hS hb hK
  go_enter Try.func36, Try.ntmps36
  go_wp2
  go_loop [3, 4] (fun u i => ∃ j : Nat, j ≤ l.length ∧ i = .int .i64 (j : Int) ∧ u = .int .i64 (usedI (l.take j) : Int) ∧ ∀ x ∈ l.take j, ¬ NoLen x) (fun _ i => l.length - (intOf i).toNat)
  case atStart => exact ⟨0, by omega, rfl, rfl, fun x h => by simp at h⟩
  case round =>
    obtain ⟨j, hj, rfl, rfl, gn⟩ := hrel
    by_cases hlt : j < l.length
    · have d1 : (j : Int) < (l.length : Int) := by omega
      obtain ⟨a, rfl, hc⟩ := SlI.cell HS.out hlt
      have hsn := take_snocI l j hlt
      have hus := usedI_snoc (l.take j) (l.getD j 0)
      rw [← hsn] at hus
      have hmem := getD_memI l j hlt
      have hle := usedI_le (l.take j)
      have hle2 : (l.take j).length ≤ j := by simp; omega
      obtain ⟨x, hx⟩ : ∃ x, l.getD j 0 = x := ⟨_, rfl⟩
      rw [hx] at hc hsn hus hmem
      obtain ⟨U, hU⟩ : ∃ U, usedI (l.take j) = U := ⟨_, rfl⟩
      rw [hU] at hus hle ⊢
      have iU : (U : Int) ≤ 310 := by omega
      have HSN := Lib.hid hsn
      have HMEM := Lib.hid hmem
      have HUS := Lib.hid hus
      have GN := Lib.hid gn
      clear hx gn hsn hmem hus hle hle2 hU
      by_cases h0 : x < 0
      · have hbf : b = false := by
          rcases HB.out with ⟨_, h⟩ | ⟨h, _⟩
          · exact absurd (.inl h0) (h.2.1 x HMEM.out)
          · exact h
        subst hbf
        go_wp2
        go_ret
        exact ⟨rfl, rfl⟩
      · have t1 : decide (x < 0) = false := decide_eq_false h0
        by_cases h15 : 15 < x
        · have hbf : b = false := by
            rcases HB.out with ⟨_, h⟩ | ⟨h, _⟩
            · exact absurd (.inr h15) (h.2.1 x HMEM.out)
            · exact h
          subst hbf
          clear h0
          go_wp2
          go_ret
          exact ⟨rfl, rfl⟩
        · have t2 : decide (15 < x) = false := decide_eq_false h15
          have hnew : ∀ y ∈ l.take (j + 1), ¬ NoLen y := fun y hy => by
            rw [HSN.out] at hy
            rcases List.mem_append.1 hy with h | h
            · exact GN.out y h
            · rw [List.mem_singleton.1 h]; unfold NoLen; omega
          have HNEW := Lib.hid hnew
          clear hnew
          by_cases hp : 0 < x
          · clear h0 h15
            go_wp2
            go_round
            case rel => exact ⟨j + 1, by omega, by go_num, by rw [HUS.out, if_pos hp]; go_num, HNEW.out⟩
            case measure => (simp [intOf]; try omega)
          · clear h0 h15
            go_wp2
            go_round
            case rel => exact ⟨j + 1, by omega, by go_num, by rw [HUS.out, if_neg hp]; rfl, HNEW.out⟩
            case measure => (simp [intOf]; try omega)
    · obtain rfl : j = l.length := by omega
      rw [List.take_length] at gn ⊢
      have hri := fun h => right_iff (l := l) h gn
      have hKK := HK.out
      obtain ⟨U, hU⟩ : ∃ U, usedI l = U := ⟨_, rfl⟩
      obtain ⟨K, hKd⟩ : ∃ K, kraftW (clL l) = K := ⟨_, rfl⟩
      rw [hU] at hri ⊢
      rw [hKd] at hri hKK
      have HC := Lib.hid (hKK _ rfl)
      have hB := HB.out
      have h300' : RightI l → l.length ≤ 300 := fun h => h.1
      clear hKK HK gn hlt hU hKd HB
      by_cases h3 : l.length ≤ 300
      · have hri := hri h3
        have t0 : (l.length : Int) ≤ 300 := by omega
        by_cases hk1 : K = 32768
        · have hbt : b = true := by
            rcases hB with ⟨h, _⟩ | ⟨_, h⟩
            · exact h
            · exact absurd (hri.2 (.inl hk1)) h
          subst hbt
          have t1 : ((K : Int) == 32768) = true := by rw [beq_iff_eq]; omega
          clear hri hB h300' hk1
          go_wp2_with (go_at_call 17; (with_reducible refine HC.out.mono ?_); rintro e w1 ⟨rfl, rfl⟩)
          go_ret
          exact ⟨rfl, rfl⟩
        · have t1 : ((K : Int) == 32768) = false := by rw [beq_eq_false_iff_ne]; omega
          by_cases hu : U = 1
          · have t2 : ((U : Int) == 1) = true := by rw [beq_iff_eq]; omega
            by_cases hk2 : K = 16384
            · have hbt : b = true := by
                rcases hB with ⟨h, _⟩ | ⟨_, h⟩
                · exact h
                · exact absurd (hri.2 (.inr ⟨hu, hk2⟩)) h
              subst hbt
              have t3 : ((K : Int) == 16384) = true := by rw [beq_iff_eq]; omega
              clear hri hB h300' hk1 hu hk2
              go_wp2_with (go_at_call 17; (with_reducible refine HC.out.mono ?_); rintro e w1 ⟨rfl, rfl⟩)
              go_ret
              exact ⟨rfl, rfl⟩
            · have hbt : b = false := by
                rcases hB with ⟨_, h⟩ | ⟨h, _⟩
                · rcases hri.1 h with h' | h'
                  · exact absurd h' hk1
                  · exact absurd h'.2 hk2
                · exact h
              subst hbt
              have t3 : ((K : Int) == 16384) = false := by rw [beq_eq_false_iff_ne]; omega
              clear hri hB h300' hk1 hu hk2
              go_wp2_with (go_at_call 17; (with_reducible refine HC.out.mono ?_); rintro e w1 ⟨rfl, rfl⟩)
              go_ret
              exact ⟨rfl, rfl⟩
          · have t2 : ((U : Int) == 1) = false := by rw [beq_eq_false_iff_ne]; omega
            have hbt : b = false := by
              rcases hB with ⟨_, h⟩ | ⟨h, _⟩
              · rcases hri.1 h with h' | h'
                · exact absurd h' hk1
                · exact absurd h'.1 hu
              · exact h
            subst hbt
            clear hri hB h300' hk1 hu
            go_wp2_with (go_at_call 17; (with_reducible refine HC.out.mono ?_); rintro e w1 ⟨rfl, rfl⟩)
            go_ret
            exact ⟨rfl, rfl⟩
      · have hbf : b = false := by
          rcases hB with ⟨_, h⟩ | ⟨h, _⟩
          · exact absurd (h300' h) h3
          · exact h
        subst hbf
        have t0 : decide ((l.length : Int) ≤ 300) = false := decide_eq_false (by omega)
        have t0n : decide (l.length ≤ 300) = false := decide_eq_false h3
        clear hri hB h300' h3 HC
        go_wp2
        go_ret
        exact ⟨rfl, rfl⟩
theorem or_u32n (a b : Nat) (ha : a < 4294967296) (hb : b < 4294967296) : bits .or .u32 (a : Int) (b : Int) = ((a ||| b : Nat) : Int) := or_u32 a b ha hb
set_option maxRecDepth 100000 in
set_option maxHeartbeats 1000000 in
theorem r_turned (v n : Nat) (w : World) (hn15 : n ≤ 15) (hv15 : v < 32768) :
    Calls Try.prog 37 #[.int .u32 (v : Int), .int .i64 (n : Int)] w fun e w' => e = .returned (.int .u32 ((revN v n : Nat) : Int)) ∧ w = w' := by
  go_enter Try.func37, Try.ntmps37
  go_wp2
  go_loop [5, 6] (fun o i => ∃ j : Nat, j ≤ n ∧ i = .int .i64 (j : Int) ∧ o = .int .u32 ((revN v j : Nat) : Int)) (fun _ i => n - (intOf i).toNat)
  case atStart => exact ⟨0, by omega, rfl, by rw [revN_zero]; rfl⟩
  case round =>
    obtain ⟨j, hj, rfl, rfl⟩ := hrel
    by_cases hlt : j < n
    · have d1 : (j : Int) < (n : Int) := by omega
      have d1n : decide (j < n) = true := decide_eq_true hlt
      have hsu := revN_succ v j
      have hrl := revN_lt v j
      have hpj : 2 ^ j ≤ 2 ^ 14 := Nat.pow_le_pow_right (by decide) (by omega)
      obtain ⟨r, hr⟩ : ∃ r, revN v j = r := ⟨_, rfl⟩
      rw [hr] at hsu hrl ⊢
      have i2 : (j : Int).toNat = j := by omega
      have i3 : (0 : Int) ≤ (j : Int) := by omega
      have i4 : (j : Int) ≤ 15 := by omega
      have ir : (r : Int) ≤ 16384 := by omega
      obtain ⟨x, hx⟩ : ∃ x, v / 2 ^ j = x := ⟨_, rfl⟩
      have hx15 : x < 32768 := by rw [← hx]; exact Nat.lt_of_le_of_lt (Nat.div_le_self _ _) hv15
      have e6 : (v : Int) / 2 ^ j = (x : Int) := by
        rw [← hx, show ((2 : Int) ^ j) = ((2 ^ j : Nat) : Int) by simp]
        exact (Int.natCast_ediv _ _).symm
      rw [hx] at hsu
      have hb2 : x % 2 < 2 := Nat.mod_lt _ (by decide)
      obtain ⟨b, hb⟩ : ∃ b, x % 2 = b := ⟨_, rfl⟩
      rw [hb] at hsu hb2
      have e5 : bits .and .u32 (x : Int) 1 = (b : Int) := by
        have := (bits_nat .u32 32 (by decide) (fun n h0 h1 => by rw [IntKind.wrap_u32]; omega) x 1 (by omega) (by omega)).1
        rw [show ((1 : Nat) : Int) = 1 from rfl] at this
        rw [this, Nat.and_one_is_mod, hb]
      have hor : bits .or .u32 ((r : Int) * 2) (b : Int) = ((r * 2 + b : Nat) : Int) := by
        have e := or_u32n (r * 2) b (by omega) (by omega)
        rw [show ((r * 2 : Nat) : Int) = (r : Int) * 2 by omega] at e
        rw [e, Nat.or_comm]
        have := or_add b r 1 (by omega)
        rw [show r * 2 = r * 2 ^ 1 by omega, this, Nat.add_comm]
      have HSU := Lib.hid hsu
      have E6 := Lib.hid e6
      have E5 := Lib.hid e5
      have HOR := Lib.hid hor
      clear hsu hrl hpj hr hx hb
      go_wp2
      go_round
      case rel => exact ⟨j + 1, by omega, by go_num, by rw [HSU.out]; first | rfl | rw [E6.out, E5.out, HOR.out] | go_num⟩
      case measure => (simp [intOf]; try omega)
    · obtain rfl : j = n := by omega
      go_wp2
      go_ret
      exact ⟨rfl, rfl⟩
end Go.Proofs.Ytpjdlkbpnodcdaa
