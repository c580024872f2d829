/- Walks of the reference's Kraft, right and turned. -/
import Derived.Test.YtpjihjbgihionaaPF
import Derived.Test.YtpjihjbgihionaaJ1
namespace Go.Proofs.Ytpjihjbgihionaa
open Go.RowKit
set_option linter.unusedVariables false

set_option maxRecDepth 100000 in
set_option maxHeartbeats 1000000 in
theorem r_Kraft (l : List Int) (p : Option Addr) (cap : Nat) (w : World) (hl : l.length ≤ 310) (hS : Sl w 1 (.slice p l.length cap) (rowsI l)) :
    Calls Try.prog 72 #[.slice p l.length cap] w fun e w' => e = .returned (.int .i64 ((kraftW (clL l) : Nat) : Int)) ∧ w = w' := by
  have hst := fun j => sumW_yes (g := wgtL (clL l)) (p := fun _ => true) (m := j) rfl
  have hbd := fun j => sumW_bound (p := fun _ => true) (wgtL_le (clL l)) j
  have hk : kraftW (clL l) = sumW (wgtL (clL l)) (fun _ => true) l.length := by unfold kraftW; rw [clL_len]
  have hwg : ∀ j, wgtL (clL l) j = wgt (clN (l.getD j 0)) := fun j => by unfold wgtL; rw [clL_getD]
  rw [hk]
  have z0 : sumW (wgtL (clL l)) (fun _ => true) 0 = 0 := rfl
  generalize sumW (wgtL (clL l)) (fun _ => true) = SU at *
  have HST := Lib.hid hst
  have HBD := Lib.hid hbd
  have HWG := Lib.hid hwg
  have HS := Lib.hid hS
  clear hst hbd hk hwg hS
  go_enter Try.func72, Try.ntmps72
  go_wp2
  go_loop [3, 4] (fun n i => ∃ j : Nat, j ≤ l.length ∧ i = .int .i64 (j : Int) ∧ n = .int .i64 ((SU j : Nat) : Int)) (fun _ i => l.length - (intOf i).toNat)
  case atStart => exact ⟨0, by omega, rfl, by rw [z0]; rfl⟩
  case round =>
    obtain ⟨j, hj, rfl, rfl⟩ := hrel
    clear z0
    by_cases hlt : j < l.length
    · have d1 : (j : Int) < (l.length : Int) := by omega
      obtain ⟨a, rfl, hc⟩ := SlI.cell HS.out hlt
      have hst := HST.out j
      have hbd := HBD.out j
      rw [HWG.out j] at hst
      obtain ⟨x, hx⟩ : ∃ x, l.getD j 0 = x := ⟨_, rfl⟩
      rw [hx] at hc hst
      obtain ⟨N, hN⟩ : ∃ N, SU j = N := ⟨_, rfl⟩
      rw [hN] at hst hbd ⊢
      have iN : (N : Int) ≤ 10000000 := by omega
      clear hx hN
      by_cases h1 : 1 ≤ x
      · by_cases h15 : x ≤ 15
        · obtain ⟨k, rfl⟩ : ∃ k : Nat, x = (k : Int) := ⟨x.toNat, by omega⟩
          have hcl : clN (k : Int) = k := by unfold clN; rw [if_pos ⟨h1, h15⟩]; omega
          obtain ⟨m, hm⟩ : ∃ m, 15 - k = m := ⟨_, rfl⟩
          have hw1 : wgt k = 2 ^ m := by unfold wgt; rw [if_neg (by omega), hm]
          rw [hcl, hw1] at hst
          have hp : (2 : Nat) ^ m ≤ 2 ^ 15 := Nat.pow_le_pow_right (by decide) (by omega)
          obtain ⟨q, hq⟩ : ∃ q, 2 ^ m = q := ⟨_, rfl⟩
          have hp2 : (2 : Int) ^ m = (q : Int) := by rw [← hq]; simp
          rw [hq] at hst hp
          have e4 : (15 : Int) - (k : Int) = (m : Int) := by omega
          have i2 : (m : Int).toNat = m := by omega
          have i3 : (0 : Int) ≤ (m : Int) := by omega
          have i4 : (m : Int) ≤ 15 := by omega
          have i5 : (q : Int) ≤ 32768 := by omega
          have hw64 : wrap64 (q : Int) = (q : Int) := Go.IntWalk.wrap64_in _ ⟨by omega, by omega⟩
          have HST1 := Lib.hid hst
          clear hst hbd hq hw1 hcl hp hm
          go_wp2
          go_round
          case rel => exact ⟨j + 1, by omega, by go_num, by rw [HST1.out]; go_num⟩
          case measure => (simp [intOf]; try omega)
        · have t2 : decide (x ≤ 15) = false := decide_eq_false h15
          have hcl : clN x = 0 := by unfold clN; rw [if_neg (by omega)]
          rw [hcl, show wgt 0 = 0 from rfl, Nat.add_zero] at hst
          have HST1 := Lib.hid hst
          clear hst hbd hcl h15
          go_wp2
          go_round
          case rel => exact ⟨j + 1, by omega, by go_num, by rw [HST1.out]; rfl⟩
          case measure => (simp [intOf]; try omega)
      · have t1 : decide (1 ≤ x) = false := decide_eq_false h1
        have hcl : clN x = 0 := by unfold clN; rw [if_neg (by omega)]
        rw [hcl, show wgt 0 = 0 from rfl, Nat.add_zero] at hst
        have HST1 := Lib.hid hst
        clear hst hbd hcl h1
        go_wp2
        go_round
        case rel => exact ⟨j + 1, by omega, by go_num, by rw [HST1.out]; rfl⟩
        case measure => (simp [intOf]; try omega)
    · obtain rfl : j = l.length := by omega
      go_wp2
      go_ret
      exact ⟨rfl, rfl⟩
theorem used_lg {l : List Int} (h : ∀ x ∈ l, ¬ NoLen x) : usedI l = lgN (clL l) 1 := by
  have e : l = nn (clL l) := by
    unfold nn clL
    rw [List.map_map]
    conv => lhs; rw [← List.map_id l]
    refine List.map_congr_left fun x hx => ?_
    have := h x hx
    unfold NoLen at this
    show x = ((clN x : Nat) : Int)
    unfold clN
    split <;> omega
  rw [lgN_trees (fr := clL l) rfl (fun _ => Iff.rfl), ← usedI_nn, ← e]
theorem right_iff {l : List Int} (h300 : l.length ≤ 300) (h : ∀ x ∈ l, ¬ NoLen x) : RightI l ↔ (kraftW (clL l) = 32768 ∨ (usedI l = 1 ∧ kraftW (clL l) = 16384)) := by
  rw [used_lg h]
  constructor
  · rintro ⟨_, _, hk | hk⟩
    · exact .inl hk
    · exact .inr ((single_iff (clL_le l)).1 hk)
  · rintro (hk | hk)
    · exact ⟨h300, h, .inl hk⟩
    · exact ⟨h300, h, .inr ((single_iff (clL_le l)).2 hk)⟩
set_option maxRecDepth 100000 in
set_option maxHeartbeats 1000000 in
theorem r_right (l : List Int) (p : Option Addr) (cap : Nat) (w : World) (hl : l.length ≤ 310) (hS : Sl w 1 (.slice p l.length cap) (rowsI l)) (b : Bool) (hb : (b = true ∧ RightI l) ∨ (b = false ∧ ¬ RightI l)) :
    Calls Try.prog 40 #[.slice p l.length cap] w fun e w' => e = .returned (.bool b) ∧ w = w' := by
  have hK := fun n (h : ((kraftW (clL l) : Nat) : Int) = n) => by
    have := r_Kraft l p cap w hl hS
    rw [h] at this
    exact this
  have HS := Lib.hid hS
  have HB := Lib.hid hb
  have HK := Lib.hid hK
  clear hS hb hK
  go_enter Try.func40, Try.ntmps40
  go_wp2
  go_loop [3, 4] (fun u i => ∃ j : Nat, j ≤ l.length ∧ i = .int .i64 (j : Int) ∧ u = .int .i64 (usedI (l.take j) : Int) ∧ ∀ x ∈ l.take j, ¬ NoLen x) (fun _ i => l.length - (intOf i).toNat)
  case atStart => exact ⟨0, by omega, rfl, rfl, fun x h => by simp at h⟩
  case round =>
    obtain ⟨j, hj, rfl, rfl, gn⟩ := hrel
    by_cases hlt : j < l.length
    · have d1 : (j : Int) < (l.length : Int) := by omega
      obtain ⟨a, rfl, hc⟩ := SlI.cell HS.out hlt
      have hsn := take_snocN l j hlt
      have hus := usedI_snoc (l.take j) (l.getD j 0)
      rw [← hsn] at hus
      have hmem := getD_memI l j hlt
      have hle := usedI_le (l.take j)
      have hle2 : (l.take j).length ≤ j := by simp; omega
      obtain ⟨x, hx⟩ : ∃ x, l.getD j 0 = x := ⟨_, rfl⟩
      rw [hx] at hc hsn hus hmem
      obtain ⟨U, hU⟩ : ∃ U, usedI (l.take j) = U := ⟨_, rfl⟩
      rw [hU] at hus hle ⊢
      have iU : (U : Int) ≤ 310 := by omega
      have HSN := Lib.hid hsn
      have HMEM := Lib.hid hmem
      have HUS := Lib.hid hus
      have GN := Lib.hid gn
      clear hx gn hsn hmem hus hle hle2 hU
      by_cases h0 : x < 0
      · have hbf : b = false := by
          rcases HB.out with ⟨_, h⟩ | ⟨h, _⟩
          · exact absurd (.inl h0) (h.2.1 x HMEM.out)
          · exact h
        subst hbf
        go_wp2
        go_ret
        exact ⟨rfl, rfl⟩
      · have t1 : decide (x < 0) = false := decide_eq_false h0
        by_cases h15 : 15 < x
        · have hbf : b = false := by
            rcases HB.out with ⟨_, h⟩ | ⟨h, _⟩
            · exact absurd (.inr h15) (h.2.1 x HMEM.out)
            · exact h
          subst hbf
          clear h0
          go_wp2
          go_ret
          exact ⟨rfl, rfl⟩
        · have t2 : decide (15 < x) = false := decide_eq_false h15
          have hnew : ∀ y ∈ l.take (j + 1), ¬ NoLen y := fun y hy => by
            rw [HSN.out] at hy
            rcases List.mem_append.1 hy with h | h
            · exact GN.out y h
            · rw [List.mem_singleton.1 h]; unfold NoLen; omega
          have HNEW := Lib.hid hnew
          clear hnew
          by_cases hp : 0 < x
          · clear h0 h15
            go_wp2
            go_round
            case rel => exact ⟨j + 1, by omega, by go_num, by rw [HUS.out, if_pos hp]; go_num, HNEW.out⟩
            case measure => (simp [intOf]; try omega)
          · clear h0 h15
            go_wp2
            go_round
            case rel => exact ⟨j + 1, by omega, by go_num, by rw [HUS.out, if_neg hp]; rfl, HNEW.out⟩
            case measure => (simp [intOf]; try omega)
    · obtain rfl : j = l.length := by omega
      rw [List.take_length] at gn ⊢
      have hri := fun h => right_iff (l := l) h gn
      have hKK := HK.out
      obtain ⟨U, hU⟩ : ∃ U, usedI l = U := ⟨_, rfl⟩
      obtain ⟨K, hKd⟩ : ∃ K, kraftW (clL l) = K := ⟨_, rfl⟩
      rw [hU] at hri ⊢
      rw [hKd] at hri hKK
      have HC := Lib.hid (hKK _ rfl)
      have hB := HB.out
      have h300' : RightI l → l.length ≤ 300 := fun h => h.1
      clear hKK HK gn hlt hU hKd HB
      by_cases h3 : l.length ≤ 300
      · have hri := hri h3
        have t0 : (l.length : Int) ≤ 300 := by omega
        by_cases hk1 : K = 32768
        · have hbt : b = true := by
            rcases hB with ⟨h, _⟩ | ⟨_, h⟩
            · exact h
            · exact absurd (hri.2 (.inl hk1)) h
          subst hbt
          have t1 : ((K : Int) == 32768) = true := by rw [beq_iff_eq]; omega
          clear hri hB h300' hk1
          go_wp2_with (go_at_call 72; (with_reducible refine HC.out.mono ?_); rintro e w1 ⟨rfl, rfl⟩)
          go_ret
          exact ⟨rfl, rfl⟩
        · have t1 : ((K : Int) == 32768) = false := by rw [beq_eq_false_iff_ne]; omega
          by_cases hu : U = 1
          · have t2 : ((U : Int) == 1) = true := by rw [beq_iff_eq]; omega
            by_cases hk2 : K = 16384
            · have hbt : b = true := by
                rcases hB with ⟨h, _⟩ | ⟨_, h⟩
                · exact h
                · exact absurd (hri.2 (.inr ⟨hu, hk2⟩)) h
              subst hbt
              have t3 : ((K : Int) == 16384) = true := by rw [beq_iff_eq]; omega
              clear hri hB h300' hk1 hu hk2
              go_wp2_with (go_at_call 72; (with_reducible refine HC.out.mono ?_); rintro e w1 ⟨rfl, rfl⟩)
              go_ret
              exact ⟨rfl, rfl⟩
            · have hbt : b = false := by
                rcases hB with ⟨_, h⟩ | ⟨h, _⟩
                · rcases hri.1 h with h' | h'
                  · exact absurd h' hk1
                  · exact absurd h'.2 hk2
                · exact h
              subst hbt
              have t3 : ((K : Int) == 16384) = false := by rw [beq_eq_false_iff_ne]; omega
              clear hri hB h300' hk1 hu hk2
              go_wp2_with (go_at_call 72; (with_reducible refine HC.out.mono ?_); rintro e w1 ⟨rfl, rfl⟩)
              go_ret
              exact ⟨rfl, rfl⟩
          · have t2 : ((U : Int) == 1) = false := by rw [beq_eq_false_iff_ne]; omega
            have hbt : b = false := by
              rcases hB with ⟨_, h⟩ | ⟨h, _⟩
              · rcases hri.1 h with h' | h'
                · exact absurd h' hk1
                · exact absurd h'.1 hu
              · exact h
            subst hbt
            clear hri hB h300' hk1 hu
            go_wp2_with (go_at_call 72; (with_reducible refine HC.out.mono ?_); rintro e w1 ⟨rfl, rfl⟩)
            go_ret
            exact ⟨rfl, rfl⟩
      · have hbf : b = false := by
          rcases hB with ⟨_, h⟩ | ⟨h, _⟩
          · exact absurd (h300' h) h3
          · exact h
        subst hbf
        have t0 : decide ((l.length : Int) ≤ 300) = false := decide_eq_false (by omega)
        have t0n : decide (l.length ≤ 300) = false := decide_eq_false h3
        clear hri hB h300' h3 HC
        go_wp2
        go_ret
        exact ⟨rfl, rfl⟩
theorem or_u32n (a b : Nat) (ha : a < 4294967296) (hb : b < 4294967296) : bits .or .u32 (a : Int) (b : Int) = ((a ||| b : Nat) : Int) := or_u32 a b ha hb
set_option maxRecDepth 100000 in
set_option maxHeartbeats 1000000 in
theorem r_turned (v n : Nat) (w : World) (hn15 : n ≤ 15) (hv15 : v < 32768) :
    Calls Try.prog 41 #[.int .u32 (v : Int), .int .i64 (n : Int)] w fun e w' => e = .returned (.int .u32 ((revN v n : Nat) : Int)) ∧ w = w' := by
  go_enter Try.func41, Try.ntmps41
  go_wp2
  go_loop [5, 6] (fun o i => ∃ j : Nat, j ≤ n ∧ i = .int .i64 (j : Int) ∧ o = .int .u32 ((revN v j : Nat) : Int)) (fun _ i => n - (intOf i).toNat)
  case atStart => exact ⟨0, by omega, rfl, by rw [revN_zero]; rfl⟩
  case round =>
    obtain ⟨j, hj, rfl, rfl⟩ := hrel
    by_cases hlt : j < n
    · have d1 : (j : Int) < (n : Int) := by omega
      have d1n : decide (j < n) = true := decide_eq_true hlt
      have hsu := revN_succ v j
      have hrl := revN_lt v j
      have hpj : 2 ^ j ≤ 2 ^ 14 := Nat.pow_le_pow_right (by decide) (by omega)
      obtain ⟨r, hr⟩ : ∃ r, revN v j = r := ⟨_, rfl⟩
      rw [hr] at hsu hrl ⊢
      have i2 : (j : Int).toNat = j := by omega
      have i3 : (0 : Int) ≤ (j : Int) := by omega
      have i4 : (j : Int) ≤ 15 := by omega
      have ir : (r : Int) ≤ 16384 := by omega
      obtain ⟨x, hx⟩ : ∃ x, v / 2 ^ j = x := ⟨_, rfl⟩
      have hx15 : x < 32768 := by rw [← hx]; exact Nat.lt_of_le_of_lt (Nat.div_le_self _ _) hv15
      have e6 : (v : Int) / 2 ^ j = (x : Int) := by
        rw [← hx, show ((2 : Int) ^ j) = ((2 ^ j : Nat) : Int) by simp]
        exact (Int.natCast_ediv _ _).symm
      rw [hx] at hsu
      have hb2 : x % 2 < 2 := Nat.mod_lt _ (by decide)
      obtain ⟨b, hb⟩ : ∃ b, x % 2 = b := ⟨_, rfl⟩
      rw [hb] at hsu hb2
      have e5 : bits .and .u32 (x : Int) 1 = (b : Int) := by
        have := (bits_nat .u32 32 (by decide) (fun n h0 h1 => by rw [IntKind.wrap_u32]; omega) x 1 (by omega) (by omega)).1
        rw [show ((1 : Nat) : Int) = 1 from rfl] at this
        rw [this, Nat.and_one_is_mod, hb]
      have hor : bits .or .u32 ((r : Int) * 2) (b : Int) = ((r * 2 + b : Nat) : Int) := by
        have e := or_u32n (r * 2) b (by omega) (by omega)
        rw [show ((r * 2 : Nat) : Int) = (r : Int) * 2 by omega] at e
        rw [e, Nat.or_comm]
        have := or_add b r 1 (by omega)
        rw [show r * 2 = r * 2 ^ 1 by omega, this, Nat.add_comm]
      have HSU := Lib.hid hsu
      have E6 := Lib.hid e6
      have E5 := Lib.hid e5
      have HOR := Lib.hid hor
      clear hsu hrl hpj hr hx hb
      go_wp2
      go_round
      case rel => exact ⟨j + 1, by omega, by go_num, by rw [HSU.out]; first | rfl | rw [E6.out, E5.out, HOR.out] | go_num⟩
      case measure => (simp [intOf]; try omega)
    · obtain rfl : j = n := by omega
      go_wp2
      go_ret
      exact ⟨rfl, rfl⟩
end Go.Proofs.Ytpjihjbgihionaa
namespace Go.Proofs.Ytpjihjbgihionaa
open Go.RowKit
set_option linter.unusedVariables false

theorem info_rp : (Try.prog.info? 55).map (fun i => (i.zero, i.size, i.bytes)) = some (some (.agg #[.int .u32 0, .int .i64 0]), 2, 16) := by kernel_rfl
theorem size_rp : (Try.prog.info? 55).map (·.size) = some 2 := by kernel_rfl
/-- the pieces so far, by lengths and symbols -/
def pcQ (L : List Nat) (n i : Nat) : List (Nat × Int) := (List.range L.length).map fun k => if 0 < L.getD k 0 ∧ (L.getD k 0 < n ∨ (L.getD k 0 = n ∧ k < i)) then (codeW L k, ((L.getD k 0 : Nat) : Int)) else (0, 0)
theorem pcQ_len (L : List Nat) (n i : Nat) : (pcQ L n i).length = L.length := by simp [pcQ]
theorem pcQ_get (L : List Nat) (n i : Nat) {k : Nat} (h : k < L.length) : (pcQ L n i)[k]? = some (if 0 < L.getD k 0 ∧ (L.getD k 0 < n ∨ (L.getD k 0 = n ∧ k < i)) then (codeW L k, ((L.getD k 0 : Nat) : Int)) else (0, 0)) := by
  unfold pcQ
  rw [List.getElem?_map, List.getElem?_range h]
  rfl
theorem pcQ_ext {L : List Nat} {m : List (Nat × Int)} {n i : Nat} (hm : m.length = L.length) (h : ∀ k, k < L.length → m[k]? = (pcQ L n i)[k]?) : m = pcQ L n i := by
  apply List.ext_getElem?
  intro k
  rcases Nat.lt_or_ge k L.length with hk | hk
  · exact h k hk
  · rw [List.getElem?_eq_none (by omega), List.getElem?_eq_none (by rw [pcQ_len]; exact hk)]
theorem pcQ_first (L : List Nat) : List.replicate L.length ((0, 0) : Nat × Int) = pcQ L 1 0 := by
  refine pcQ_ext (by simp) fun k hk => ?_
  rw [pcQ_get L 1 0 hk, if_neg (by omega)]
  simp [hk]
theorem pcQ_next (L : List Nat) (n : Nat) : pcQ L n L.length = pcQ L (n + 1) 0 := by
  refine pcQ_ext (pcQ_len _ _ _) fun k hk => ?_
  rw [pcQ_get L _ _ hk, pcQ_get L _ _ hk]
  by_cases h : 0 < L.getD k 0 ∧ L.getD k 0 ≤ n
  · rw [if_pos (by omega), if_pos (by omega)]
  · rw [if_neg (by omega), if_neg (by omega)]
theorem pcQ_no (L : List Nat) {n i : Nat} (h : L.getD i 0 ≠ n) : pcQ L n i = pcQ L n (i + 1) := by
  refine pcQ_ext (pcQ_len _ _ _) fun k hk => ?_
  rw [pcQ_get L _ _ hk, pcQ_get L _ _ hk]
  by_cases e : k = i
  · subst e
    by_cases h1 : 0 < L.getD k 0 ∧ L.getD k 0 < n
    · rw [if_pos (by omega), if_pos (by omega)]
    · rw [if_neg (by omega), if_neg (by omega)]
  · by_cases h1 : 0 < L.getD k 0 ∧ (L.getD k 0 < n ∨ (L.getD k 0 = n ∧ k < i))
    · rw [if_pos h1, if_pos (by omega)]
    · rw [if_neg h1, if_neg (by omega)]
theorem pcQ_yes (L : List Nat) {n i : Nat} (hi : i < L.length) (n0 : 0 < n) (h : L.getD i 0 = n) : (pcQ L n i).set i (codeW L i, (n : Int)) = pcQ L n (i + 1) := by
  refine pcQ_ext (by rw [List.length_set, pcQ_len]) fun k hk => ?_
  rw [List.getElem?_set, pcQ_get L n (i + 1) hk, pcQ_len]
  by_cases e : i = k
  · subst e
    rw [if_pos rfl, if_pos hi, if_pos ⟨by omega, .inr ⟨h, by omega⟩⟩, h]
  · rw [if_neg e, pcQ_get L n i hk]
    by_cases h1 : 0 < L.getD k 0 ∧ (L.getD k 0 < n ∨ (L.getD k 0 = n ∧ k < i))
    · rw [if_pos h1, if_pos (by omega)]
    · rw [if_neg h1, if_neg (by omega)]
theorem pcQ_all {L : List Nat} (h15 : ∀ i, L.getD i 0 ≤ 15) : pcW L = pcQ L 16 0 := by
  refine pcQ_ext (pcW_len _) fun k hk => ?_
  rw [pcQ_get L _ _ hk]
  unfold pcW
  rw [List.getElem?_map, List.getElem?_range hk]
  have := h15 k
  by_cases h : 0 < L.getD k 0
  · rw [if_pos ⟨h, .inl (by omega)⟩]; rfl
  · rw [if_neg (by omega)]
    show some (codeW L k, ((L.getD k 0 : Nat) : Int)) = some (0, 0)
    rw [codeW_none (by omega), show L.getD k 0 = 0 by omega]
    rfl
theorem nextN_le {L : List Nat} (hK : kraftW L ≤ 2 ^ 15) (n i : Nat) : nextN L n i ≤ 32768 := by
  have h1 : posW L n i ≤ kraftW L := sumW_le fun _ _ _ => rfl
  have h2 := Nat.div_le_self (posW L n i) (2 ^ (15 - n))
  unfold nextN
  omega
def RcRet (L : List Nat) (w : World) (e : Ending) (w' : World) : Prop := ∃ g cap, e = .returned (.tuple #[.slice (some ⟨g, 0, none⟩) L.length cap, .int .i64 0]) ∧ Sl w' 2 (.slice (some ⟨g, 0, none⟩) L.length cap) (rowsP (pcW L)) ∧ Below w.heap.size w w'
theorem r_Codes_no (l : List Int) (p : Option Addr) (cap : Nat) (w : World) (hl : l.length ≤ 310) (hS : Sl w 1 (.slice p l.length cap) (rowsI l)) (hno : ¬ RightI l) :
    Calls Try.prog 20 #[.slice p l.length cap] w fun e w' => e = .returned (.tuple #[.slice none 0 0, .int .i64 70]) ∧ w = w' := by
  have hC := r_right l p cap w hl hS false (.inr ⟨rfl, hno⟩)
  have HC := Lib.hid hC
  clear hC hS hno
  go_enter Try.func20, Try.ntmps20
  go_wp2_with fail
  (with_reducible refine HC.out.mono ?_)
  rintro e w1 ⟨rfl, rfl⟩
  go_wp2
  go_ret2
  exact ⟨rfl, rfl⟩
set_option maxRecDepth 100000 in
set_option maxHeartbeats 2000000 in
theorem r_Codes_yes (L : List Nat) (p : Option Addr) (cap : Nat) (w : World) (hR : RightN L) (hS : Sl w 1 (.slice p L.length cap) (rowsN L)) :
    Calls Try.prog 20 #[.slice p L.length cap] w (RcRet L w) := by
  have hl := hR.1
  have hS' := hS
  rw [← rowsI_nn] at hS'
  have hC1 := r_right (nn L) p cap w (by rw [nn_length]; omega) (by rw [nn_length]; exact hS') true (.inl ⟨rfl, hR.int⟩)
  rw [nn_length] at hC1
  have hL0 : 0 < L.length := by
    have h1 := hR.some
    have h2 := lgN_le L 1
    omega
  obtain ⟨i1, hi1, hy0, hy1, hy2⟩ := info_parts2 info_rp
  have HR := Lib.hid hR
  have HS := Lib.hid hS
  have HC1 := Lib.hid hC1
  have k0 := OwnR.empty w w.heap.size 55 2 (Nat.le_refl _)
  have kb := (Below.refl w.heap.size w).alloc (Nat.le_refl _) (.cells #[] 55)
  have k0 := Lib.hid k0
  have kb := Lib.hid kb
  clear hS hS' hC1 hR
  go_enter Try.func20, Try.ntmps20
  go_wp2_with fail
  (with_reducible refine HC1.out.mono ?_)
  rintro e w1 ⟨rfl, rfl⟩
  clear HC1
  go_wp2
  go_loopw [4, 5] (fun u i wr => ∃ j : Nat, j ≤ L.length ∧ i = .int .i64 (j : Int) ∧ OwnR wr w.heap.size 55 2 u (rowsP (List.replicate j (0, 0))) ∧ Below w.heap.size w wr) (fun _ i _ => L.length - (intOf i).toNat)
  case atStart => exact ⟨0, by omega, rfl, k0.out, kb.out⟩
  case round =>
    obtain ⟨j, hj, rfl, go, gb⟩ := hrel
    clear k0 kb
    by_cases hlt : j < L.length
    · have d1 : (j : Int) < (L.length : Int) := by omega
      have hsn : rowsP (List.replicate (j + 1) ((0, 0) : Nat × Int)) = rowsP (List.replicate j (0, 0)) ++ [rowP (0, 0)] := by rw [List.replicate_succ']; simp [rowsP]
      have hrl : (rowsP (List.replicate j ((0, 0) : Nat × Int))).length = j := by rw [rowsP_len, List.length_replicate]
      have HSN := Lib.hid hsn
      have HRL := Lib.hid hrl
      clear hsn hrl
      generalize rowsP (List.replicate j ((0, 0) : Nat × Int)) = rows at *
      have hnb := Blk.new' wr 55 (c := #[.int .u32 0, .int .i64 0]) (rowP (0, 0)) rfl
      have hnews := sl_one hnb
      have hown := go.alloc (.cells #[.int .u32 0, .int .i64 0] 55)
      have hlo := go.lt
      have hgb := gb.alloc gb.size (.cells #[.int .u32 0, .int .i64 0] 55)
      have hbase : w.heap.size ≤ (wr.alloc (.cells #[.int .u32 0, .int .i64 0] 55)).heap.size := hgb.size
      have hone : ∀ r ∈ [rowP (0, 0)], ∀ u ∈ r, u.oneCell' = true := by simp [rowP, Value.oneCell']
      have hlen : rows.length + [rowP (0, 0)].length ≤ maxLen := by rw [HRL.out, List.length_singleton]; unfold maxLen; omega
      have hby : (rows.length + [rowP (0, 0)].length) * 16 ≤ 140737488355328 := by rw [HRL.out, List.length_singleton]; omega
      have HONE := Lib.hid hone
      have HLEN := Lib.hid hlen
      have HBY := Lib.hid hby
      have HOW := Lib.hid hown
      have HNW := Lib.hid hnews
      have HLO := Lib.hid hlo
      have HGB := Lib.hid hgb
      have HBA := Lib.hid hbase
      clear hone hlen hby hnb hnews hown hlo hgb hbase go gb
      go_wp2_with (first | (refine wpList_append_rows rfl _ _ 50 rfl w.heap.size 55 i1 (.agg #[.int .u32 0, .int .i64 0]) 2 16 Try.underlying50 hi1 hy0 hy1 hy2 rfl (by decide) _ rows rfl HOW.out (.slice (some ⟨wr.heap.size, 0, none⟩) 1 1) [rowP (0, 0)] rfl HNW.out HONE.out HLEN.out HBY.out HBA.out (.inr ⟨_, _, _, rfl⟩) ?_; intro v' w5 ho5 hg5 hv5))
      have gb5 := HGB.out.grown hg5 HBA.out (fun k e => (HLO.out k e).1)
      go_roundw
      case rel => exact ⟨j + 1, by omega, by go_num, by rw [HSN.out]; exact ho5, gb5⟩
      case measure => simp [intOf]; omega
    · obtain rfl : j = L.length := by omega
      rw [pcQ_first] at go
      have hrl : (rowsP (pcQ L 1 0)).length = L.length := by rw [rowsP_len, pcQ_len]
      obtain ⟨g, capg, rest, hv, hgw, hG⟩ := go.blkR (by rw [hrl]; exact hL0)
      rw [hrl] at hv
      subst hv
      have G0 : Hid (Blk wr g 55 ((rowsP (pcQ L 1 0)).flatten ++ rest)) := Lib.hid hG
      have GB0 := Lib.hid gb
      have hn0 := nextN_none L L.length
      have HN0 := Lib.hid hn0
      clear go gb hG hrl hlt hn0
      go_wp2
      go_loopw [6, 7, 8] (fun wd n _ wr => ∃ m : Nat, 1 ≤ m ∧ m ≤ 16 ∧ n = .int .i64 (m : Int) ∧ wd = .int .u32 ((nextN L (m - 1) L.length : Nat) : Int) ∧ Blk wr g 55 ((rowsP (pcQ L m 0)).flatten ++ rest) ∧ Below w.heap.size w wr) (fun _ n _ _ => 16 - (intOf n).toNat)
      case atStart => exact ⟨1, by omega, by omega, rfl, by rw [show 1 - 1 = 0 from rfl, HN0.out]; rfl, G0.out, GB0.out⟩
      case round =>
        obtain ⟨m, hm1, hm16, rfl, rfl, gG, gb⟩ := hrel
        clear G0 GB0
        by_cases hlm : m ≤ 15
        · have d1 : (m : Int) ≤ 15 := by omega
          have hnx := nextN_next L (n := m - 1) (by omega)
          rw [show m - 1 + 1 = m by omega] at hnx
          have hle := nextN_le HR.out.le (m - 1) L.length
          obtain ⟨X, hX⟩ : ∃ X, nextN L (m - 1) L.length = X := ⟨_, rfl⟩
          rw [hX] at hnx hle ⊢
          have iX : (X : Int) ≤ 32768 := by omega
          have hX2 : ((nextN L m 0 : Nat) : Int) = (X : Int) * 2 := by rw [hnx]; omega
          have HX2 := Lib.hid hX2
          have GG := Lib.hid gG
          have GB := Lib.hid gb
          clear gG gb hX hnx hX2
          go_wp2
          go_loopw [6, 8] (fun wd i wr => ∃ k : Nat, k ≤ L.length ∧ i = .int .i64 (k : Int) ∧ wd = .int .u32 ((nextN L m k : Nat) : Int) ∧ Blk wr g 55 ((rowsP (pcQ L m k)).flatten ++ rest) ∧ Below w.heap.size w wr) (fun _ i _ => L.length - (intOf i).toNat)
          case atStart => exact ⟨0, by omega, rfl, by rw [HX2.out], GG.out, GB.out⟩
          case round =>
            obtain ⟨k, hk, rfl, rfl, gG, gb⟩ := hrel
            clear GG GB HX2
            by_cases hlk : k < L.length
            · have d2 : (k : Int) < (L.length : Int) := by omega
              obtain ⟨a, rfl, hc⟩ := SlN.cell (HS.out.below gb) hlk
              have hns := nextN_step L (n := m) (by omega) hlk
              have hle2 := nextN_le HR.out.le m k
              by_cases hx : L.getD k 0 = m
              · rw [if_pos hx] at hns
                rw [hx] at hc
                have hwd : wordW L k = nextN L m k := by rw [wordW_next, hx]
                have hwl := wordW_lt L hlk (by omega) (HR.out.2.1 k) HR.out.le
                have hcw : codeW L k = revN (nextN L m k) m := by unfold codeW; rw [hwd, hx]
                have hps := pcQ_yes L hlk (by omega) hx
                obtain ⟨XX, YY, ZZ, hsp, htl, rl, hrs⟩ := rows_at (pcQ L m k) (i := k) (by rw [pcQ_len]; exact hlk)
                have hrs := hrs (codeW L k, (m : Int))
                rw [hps, hcw] at hrs
                rw [hsp, List.append_assoc, List.append_assoc] at gG
                rw [hwd, hx] at hwl
                have hp2 : 2 ^ m ≤ 2 ^ 15 := Nat.pow_le_pow_right (by decide) (by omega)
                have hT := fun w1 => r_turned (nextN L m k) m w1 (by omega) (by omega)
                obtain ⟨v, hv⟩ : ∃ v, nextN L m k = v := ⟨_, rfl⟩
                rw [hv] at hT hns hrs hle2 ⊢
                obtain ⟨cw, hcw2⟩ : ∃ cw, revN v m = cw := ⟨_, rfl⟩
                rw [hcw2] at hT hrs
                have ev : ((v + 1 : Nat) : Int) = (v : Int) + 1 := by simp
                have iv : (v : Int) ≤ 32768 := by omega
                have hrs2 : (rowsP (pcQ L m (k + 1))).flatten ++ rest = XX ++ (rowP (cw, (m : Int)) ++ (ZZ ++ rest)) := by rw [hrs, List.append_assoc, List.append_assoc]
                have HRS := Lib.hid hrs2
                have HNS := Lib.hid hns
                have HT := Lib.hid hT
                have GG := Lib.hid gG
                have GB := Lib.hid gb
                have HTL := Lib.hid htl
                clear hT hns hrs hrs2 hcw hwd hwl hps hsp htl hv hcw2 gG gb hx hp2
                go_wp2_with fail
                (with_reducible refine (HT.out _).mono ?_)
                rintro e w9 ⟨rfl, rfl⟩
                go_wp2_with (refine wpList_store_part rfl 55 _ _ rfl g (k * 2) rfl (rowP (cw, (m : Int))) rfl XX YY (ZZ ++ rest) GG.out HTL.out.symm rl (by rw [size_rp]; rfl) (rowP_one _) ?_; intro w6 hB6 hb6 hw6; clear hw6; have GB6 := Lib.hid (GB.out.trans (hb6.mono hgw)); have HB6 := Lib.hid hB6; clear hb6 hB6)
                clear GG GB
                go_roundw
                case rel => exact ⟨k + 1, by omega, by go_num, by rw [HNS.out]; first | rfl | go_num, by rw [HRS.out]; exact HB6.out, GB6.out⟩
                case measure => (simp [intOf]; try omega)
              · rw [if_neg hx, Nat.add_zero] at hns
                have hps := pcQ_no L (i := k) hx
                rw [hps] at gG
                obtain ⟨x, hxx⟩ : ∃ x, L.getD k 0 = x := ⟨_, rfl⟩
                rw [hxx] at hc hx
                have e1 : ((x : Int) == (m : Int)) = false := by rw [beq_eq_false_iff_ne]; omega
                have HNS := Lib.hid hns
                clear hns hps hxx hx
                go_wp2
                go_roundw
                case rel => exact ⟨k + 1, by omega, by go_num, by rw [HNS.out]; rfl, gG, gb⟩
                case measure => (simp [intOf]; try omega)
            · obtain rfl : k = L.length := by omega
              rw [pcQ_next] at gG
              clear hlk
              go_wp2
              go_roundw
              case rel => exact ⟨m + 1, by omega, by omega, by go_num, by rw [Nat.add_sub_cancel], gG, gb⟩
              case measure => (simp [intOf]; try omega)
        · obtain rfl : m = 16 := by omega
          rw [← pcQ_all HR.out.2.1] at gG
          have hfin := sl_blkS (k := 2) (cap := capg) (fun r hr => by simp only [rowsP, List.mem_map] at hr; obtain ⟨q, _, rfl⟩ := hr; rfl) gG
          rw [rowsP_len, pcW_len] at hfin
          clear hlm gG
          go_wp2
          go_ret2
          exact ⟨g, capg, rfl, hfin, gb⟩
end Go.Proofs.Ytpjihjbgihionaa
namespace Go.Proofs.Ytpjihjbgihionaa
open Go.RowKit
set_option linter.unusedVariables false

theorem Sl.turnedG {w w' : World} {p : Option Addr} {n cap k : Nat} {rows : List (List Value)} {R : Nat} {t : TypeId} {vs : List Value} (h : Sl w k (.slice p n cap) rows) (ht : Turned w w' R t vs) (hne : ∀ a, p = some a → a.block ≠ R) : Sl w' k (.slice p n cap) rows := by
  obtain ⟨h1, p', cap', e, h3⟩ := h
  cases e
  refine ⟨h1, p, cap, rfl, fun i r hr => ?_⟩
  obtain ⟨a, rfl, q2, q3⟩ := h3 i r hr
  have hb := ht.1.block a.block q2 (by simp; exact hne a rfl)
  refine ⟨a, rfl, Nat.lt_of_lt_of_le q2 ht.1.size, fun j x hx => ?_⟩
  rw [← q3 j x hx]
  exact World.cell?_of_block (by rw [add_block]; exact hb)
/-- the first i symbols tell of more -/
def moreP (L : List Nat) (n w i : Nat) : Bool := (List.range i).any fun i => decide (w < L.getD i 0) && codeW L i % 2 ^ w == n
theorem moreP_all (L : List Nat) (n w : Nat) : moreP L n w L.length = moreW L n w := rfl
theorem moreP_step (L : List Nat) (n w i : Nat) : moreP L n w (i + 1) = (moreP L n w i || (decide (w < L.getD i 0) && codeW L i % 2 ^ w == n)) := by
  unfold moreP
  rw [List.range_succ, List.any_append]
  simp
end Go.Proofs.Ytpjihjbgihionaa
