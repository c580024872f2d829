/- Walk of the reference's Freq. -/
import Derived.Test.YtpjihjbgihionaaQC
import Derived.Test.YtpjihjbgihionaaWB
import Derived.Test.YtpjihjbgihionaaQB
import Derived.Test.YtpjihjbgihionaaPD
namespace Go.Proofs.Ytpjihjbgihionaa
open Go.RowKit
set_option linter.unusedVariables false

theorem rowsN_flatQ (l : List Nat) : (rowsN l).flatten = ints .i64 (nn l) := by
  induction l with
  | nil => rfl
  | cons n l ih =>
    have e : rowsN (n :: l) = [.int .i64 (n : Int)] :: rowsN l := rfl
    rw [e, List.flatten_cons, ih]
    rfl
theorem rowsN_appQ (a b : List Nat) : rowsN (a ++ b) = rowsN a ++ rowsN b := by simp [rowsN]
theorem zerN_snoc (j : Nat) : zerN (j + 1) = zerN j ++ [0] := by
  unfold zerN
  rw [List.replicate_succ']
theorem Blk.setR {w : World} {g : Nat} {t : TypeId} {l : List Nat} {rest : List Value} (h : Blk w g t (ints .i64 (nn l) ++ rest)) {j : Nat} (hj : j < l.length) (n : Nat) : Blk (w.setCell ⟨g, j, none⟩ (.int .i64 (n : Int))) g t (ints .i64 (nn (l.set j n)) ++ rest) := by
  have h1 := h.set j (.int .i64 (n : Int))
  rwa [List.set_append_left _ _ (by rw [ints_length, nn_length]; exact hj), ints_set, nn_set] at h1
theorem tk_cells {w : World} {g n cap : Nat} {T : List (Nat × Int × Int)} (h : Sl w 3 (.slice (some ⟨g, 0, none⟩) n cap) (rowsTk T)) {j : Nat} (hj : j < T.length) {c : Nat} {m k : Int} (ht : T[j] = (c, m, k)) :
    w.cell? ⟨g, j * 3, none⟩ = some (.int .u8 (c : Int)) ∧ w.cell? ⟨g, j * 3 + 1, none⟩ = some (.int .i64 m) ∧ w.cell? ⟨g, j * 3 + 2, none⟩ = some (.int .i64 k) := by
  obtain ⟨a, e, hc⟩ := h.row (rowsTk_at hj)
  cases e
  rw [ht] at hc
  have c0 := hc 0 _ rfl
  have c1 := hc 1 _ rfl
  have c2 := hc 2 _ rfl
  rw [Addr.add_mid, Addr.add_mid] at c0 c1 c2
  simp only [Nat.zero_add, Nat.add_zero] at c0 c1 c2
  exact ⟨c0, c1, c2⟩
/-- a row of integers of the call's own -/
def IntsOwn (l : List Nat) (w : World) (e : Ending) (w' : World) : Prop := ∃ g cap rest, e = .returned (.slice (some ⟨g, 0, none⟩) l.length cap) ∧ Blk w' g 3 (ints .i64 (nn l) ++ rest) ∧ w.heap.size ≤ g ∧ Below w.heap.size w w'
set_option maxRecDepth 100000 in
set_option maxHeartbeats 8000000 in
theorem r_Freq (T : List (Nat × Int × Int)) (p : Option Addr) (cap : Nat) (w : World) (hl : T.length ≤ 1000000) (hc : ∀ t ∈ T, t.1 < 256) (hp : ∀ a, p = some a → ∃ g, a = ⟨g, 0, none⟩) (hS : Sl w 3 (.slice p T.length cap) (rowsTk T)) :
    Calls Try.prog 14 #[.slice p T.length cap] w (IntsOwn (freqA T) w) := by
  obtain ⟨i0, hi0, hz0, hz1, hz2⟩ := info_parts2 info_int
  have k0 := OwnR.empty w w.heap.size 3 1 (Nat.le_refl _)
  have kb := (Below.refl w.heap.size w).alloc (Nat.le_refl _) (.cells #[] 3)
  have hfr : freqA T = (cntA T (zerN 289)).set 288 1 := rfl
  have hzl : (zerN 289).length = 289 := zerN_len 289
  have hz9 : ∀ i, (zerN 289).getD i 0 ≤ 0 := fun i => by rw [zerN_at]; omega
  obtain ⟨CT, hCT⟩ : ∃ r, cntA T (zerN 289) = r := ⟨_, rfl⟩
  rw [hCT] at hfr
  have HFR := Lib.hid hfr
  have HCT := Lib.hid hCT
  have HS := Lib.hid hS
  have HC := Lib.hid hc
  have HP := Lib.hid hp
  have K0 := Lib.hid k0
  have KB := Lib.hid kb
  have HZ := Lib.hid hz9
  have HZL := Lib.hid hzl
  clear hfr hCT hS hc hp k0 kb hz9 hzl
  go_enter Try.func14, Try.ntmps14
  go_wp2_with fail
  go_loopw [3, 4] (fun l i wr => ∃ (j : Nat) (lv : Value), lv = l ∧ i = .int .i64 (j : Int) ∧ j ≤ 289 ∧ OwnR wr w.heap.size 3 1 lv (rowsN (zerN j)) ∧ Below w.heap.size w wr) (fun _ i _ => 289 - (intOf i).toNat)
  case atStart => exact ⟨0, _, rfl, rfl, by omega, K0.out, KB.out⟩
  case round =>
    obtain ⟨j, lv, rfl, rfl, hj, gO, gb⟩ := hrel
    clear K0 KB
    by_cases hlt : j < 289
    · have d1 : (j : Int) < 289 := by omega
      have k6 := Blk.new' wr 3 (c := #[.int .i64 0]) [.int .i64 ((0 : Nat) : Int)] rfl
      have hb6 := (Below.refl wr.heap.size wr).alloc (Nat.le_refl _) (.cells #[.int .i64 0] 3)
      have hlo := gO.lt
      have hO6 := gO.keep hb6
      have hB6 := gb.trans (hb6.mono gb.size)
      have hnews := sl_one k6
      have hone : ∀ r ∈ [[Value.int .i64 ((0 : Nat) : Int)]], ∀ u ∈ r, u.oneCell' = true := by simp [Value.oneCell']
      have hlen : (rowsN (zerN j)).length + [[Value.int .i64 ((0 : Nat) : Int)]].length ≤ maxLen := by rw [rowsN_len, zerN_len, List.length_singleton]; unfold maxLen; omega
      have hby : ((rowsN (zerN j)).length + [[Value.int .i64 ((0 : Nat) : Int)]].length) * 8 ≤ 140737488355328 := by rw [rowsN_len, zerN_len, List.length_singleton]; omega
      have hrr : rowsN (zerN (j + 1)) = rowsN (zerN j) ++ [[Value.int .i64 ((0 : Nat) : Int)]] := by rw [zerN_snoc, rowsN_appQ]; rfl
      have HO := Lib.hid hO6
      have HB6 := Lib.hid hB6
      have HNW := Lib.hid hnews
      have HLO := Lib.hid hlo
      have HONE := Lib.hid hone
      have HLEN := Lib.hid hlen
      have HBY := Lib.hid hby
      have HBA := Lib.hid hB6.size
      have HRR := Lib.hid hrr
      clear gO gb k6 hb6 hlo hO6 hB6 hnews hone hlen hby hrr
      go_wp2_with (first | (refine wpList_append_rows rfl _ _ 35 rfl w.heap.size 3 i0 (.int .i64 0) 1 8 Try.underlying35 hi0 hz0 hz1 hz2 rfl (by decide) _ (rowsN (zerN j)) rfl HO.out (.slice (some ⟨wr.heap.size, 0, none⟩) 1 1) [[.int .i64 ((0 : Nat) : Int)]] rfl HNW.out HONE.out HLEN.out HBY.out HBA.out (.inr ⟨_, _, _, rfl⟩) ?_; intro v7 w7 ho7 hg7 hv7))
      go_roundw
      case rel => exact ⟨j + 1, v7, rfl, by go_num, by omega, by rw [HRR.out]; exact ho7, HB6.out.grown hg7 HBA.out (fun k e => (HLO.out k e).1)⟩
      case measure => (simp [intOf]; try omega)
    · obtain rfl : j = 289 := by omega
      obtain ⟨G, cp, rest, hv, hG, hB⟩ := gO.blkR (by rw [rowsN_len, HZL.out]; omega)
      rw [rowsN_len, HZL.out] at hv
      rw [rowsN_flatQ] at hB
      subst hv
      have hB0 := Lib.hid hB
      have GB0 := Lib.hid gb
      clear gO gb hB
      generalize zerN 289 = Z at *
      go_wp2_with fail
      go_loopw [5] (fun i wr => ∃ (j : Nat) (F : List Nat), j ≤ T.length ∧ i = .int .i64 (j : Int) ∧ F.length = 289 ∧ (∀ i, F.getD i 0 ≤ j) ∧ cntA (T.drop j) F = CT ∧ Blk wr G 3 (ints .i64 (nn F) ++ rest) ∧ Below w.heap.size w wr) (fun i _ => T.length - (intOf i).toNat)
      case atStart => exact ⟨0, Z, by omega, rfl, HZL.out, HZ.out, HCT.out, hB0.out, GB0.out⟩
      case round =>
        obtain ⟨j, F, hj, rfl, hFl, hFj, gC, gG, gb⟩ := hrel
        clear hB0 GB0 HZ HZL HCT
        by_cases hlt : j < T.length
        · have d1 : (j : Int) < (T.length : Int) := by omega
          obtain ⟨a, hpa, _⟩ := (HS.out.below gb).row (rowsTk_at hlt)
          obtain ⟨g, rfl⟩ := HP.out a hpa
          subst hpa
          have hdr : T.drop j = T[j] :: T.drop (j + 1) := List.drop_eq_getElem_cons hlt
          rw [hdr, cntA_step] at gC
          have hct := HC.out _ (List.getElem_mem hlt)
          obtain ⟨⟨c, n, k⟩, ht⟩ : ∃ t, T[j] = t := ⟨_, rfl⟩
          obtain ⟨c0, c1, c2⟩ := tk_cells (HS.out.below gb) hlt ht
          rw [ht] at gC hct
          simp only at hct
          have HFJ := Lib.hid hFj
          have GB := Lib.hid gb
          clear hdr ht hFj gb c2
          by_cases h0 : n = 0
          · subst h0
            have es : symS (c, 0, k) = (c, true) := if_pos rfl
            rw [es] at gC
            simp only [if_true] at gC
            have GC := Lib.hid gC
            have hfj := HFJ.out c
            have c6 := gG.natR (j := c) (by omega)
            have f6 := gG.free c
            have hin := fun i => incF_getD (F := F) (k := c) (by omega) i
            obtain ⟨x, hx⟩ : ∃ x, F.getD c 0 = x := ⟨_, rfl⟩
            rw [hx] at hfj c6
            have i1 : (c : Int) < 289 := by omega
            have i3 : (c : Int) < 256 := by omega
            have i2 : (x : Int) ≤ 1000000 := by omega
            have e3 : IntKind.i64.wrap (c : Int) = (c : Int) := IntWalk.i64_in _ (by omega)
            have e4 : IntKind.i64.wrap ((x : Int) + 1) = (x : Int) + 1 := IntWalk.i64_in _ (by omega)
            have T6 := fun nq => (gG.drewN nq).setR (j := c) (by omega) (x + 1)
            have hinc : F.set c (x + 1) = incF F c := by unfold incF; rw [hx]
            rw [hinc] at T6
            have ec : ((x + 1 : Nat) : Int) = (x : Int) + 1 := by simp
            rw [ec] at T6
            have HT6 := Lib.hid T6
            have HB6 := Lib.hid (fun nq => (below_drewN GB.out nq).setCell (p := ⟨G, c, none⟩) hG (.int .i64 ((x : Int) + 1)))
            have HIN := Lib.hid hin
            clear T6 hinc hx ec gG hin hfj gC es
            go_wp2_with fail
            refine region_drew_tail 18 mixed (by kernel_rfl) ?_
            simp only [List.take_succ_cons, List.take_zero, List.drop_succ_cons, List.drop_zero]
            repeat (first | go_big_quiet_step (fail) | quiet_step (fail))
            refine wpQuiet_nil ?_
            rintro _ ⟨nq, rfl⟩
            go_wp2
            go_roundw
            case rel => exact ⟨j + 1, incF F c, by omega, by go_num, by rw [incF_len]; exact hFl, (fun i => by rw [HIN.out i]; have := HFJ.out i; split <;> omega), GC.out, HT6.out nq, HB6.out nq⟩
            case measure => (simp [intOf]; try omega)
          · have e0 : (n == 0) = false := by rw [beq_eq_false_iff_ne]; exact h0
            by_cases h3 : 3 ≤ n
            · have d3 : decide (3 ≤ n) = true := decide_eq_true h3
              by_cases h4 : n ≤ 34
              · have d4 : decide (n ≤ 34) = true := decide_eq_true h4
                obtain ⟨m, rfl⟩ : ∃ m : Nat, n = (m : Int) := ⟨n.toNat, by omega⟩
                have es : symS (c, (m : Int), k) = (253 + m, true) := by unfold symS; rw [if_neg h0, if_pos ⟨h3, h4⟩, Int.toNat_natCast]
                rw [es] at gC
                simp only [if_true] at gC
                obtain ⟨sy, hsy⟩ : ∃ sy, 253 + m = sy := ⟨_, rfl⟩
                rw [hsy] at gC
                have e5 : 256 + (m : Int) - 3 = (sy : Int) := by omega
                have hs289 : sy < 289 := by omega
                have GC := Lib.hid gC
                have hfj := HFJ.out sy
                have c6 := gG.natR (j := sy) (by omega)
                have f6 := gG.free sy
                have hin := fun i => incF_getD (F := F) (k := sy) (by omega) i
                obtain ⟨x, hx⟩ : ∃ x, F.getD sy 0 = x := ⟨_, rfl⟩
                rw [hx] at hfj c6
                have i1 : (sy : Int) < 289 := by omega
                have i2 : (x : Int) ≤ 1000000 := by omega
                have T6 := gG.setR (j := sy) (by omega) (x + 1)
                have hinc : F.set sy (x + 1) = incF F sy := by unfold incF; rw [hx]
                rw [hinc] at T6
                have ec : ((x + 1 : Nat) : Int) = (x : Int) + 1 := by simp
                rw [ec] at T6
                have HT6 := Lib.hid T6
                have HB6 := Lib.hid (GB.out.setCell (p := ⟨G, sy, none⟩) hG (.int .i64 ((x : Int) + 1)))
                have HIN := Lib.hid hin
                clear T6 hinc hx ec gG hin hfj gC es hsy
                go_wp2
                go_roundw
                case rel => exact ⟨j + 1, incF F sy, by omega, by go_num, by rw [incF_len]; exact hFl, (fun i => by rw [HIN.out i]; have := HFJ.out i; split <;> omega), GC.out, HT6.out, HB6.out⟩
                case measure => (simp [intOf]; try omega)
              · have d4 : decide (n ≤ 34) = false := decide_eq_false h4
                have es : symS (c, n, k) = (0, false) := by unfold symS; rw [if_neg h0, if_neg (by simp only; omega)]
                rw [es] at gC
                simp only [Bool.false_eq_true, if_false] at gC
                have GC := Lib.hid gC
                have GG := Lib.hid gG
                clear gC gG es
                go_wp2
                go_roundw
                case rel => exact ⟨j + 1, F, by omega, by go_num, hFl, (fun i => by have := HFJ.out i; omega), GC.out, GG.out, GB.out⟩
                case measure => (simp [intOf]; try omega)
            · have d3 : decide (3 ≤ n) = false := decide_eq_false h3
              have es : symS (c, n, k) = (0, false) := by unfold symS; rw [if_neg h0, if_neg (by simp only; omega)]
              rw [es] at gC
              simp only [Bool.false_eq_true, if_false] at gC
              have GC := Lib.hid gC
              have GG := Lib.hid gG
              clear gC gG es
              go_wp2
              go_roundw
              case rel => exact ⟨j + 1, F, by omega, by go_num, hFl, (fun i => by have := HFJ.out i; omega), GC.out, GG.out, GB.out⟩
              case measure => (simp [intOf]; try omega)
        · obtain rfl : j = T.length := by omega
          rw [List.drop_length] at gC
          have gC : F = CT := gC
          subst gC
          have c6 := gG.natR (j := 288) (by omega)
          have f6 := gG.free 288
          obtain ⟨x, hx⟩ : ∃ x, F.getD 288 0 = x := ⟨_, rfl⟩
          rw [hx] at c6
          have T6 := gG.setR (j := 288) (by omega) 1
          rw [← HFR.out] at T6
          have HT6 : Hid (Blk (wr.setCell ⟨G, 288, none⟩ (.int .i64 1)) G 3 (ints .i64 (nn (freqA T)) ++ rest)) := Lib.hid T6
          have HB6 := Lib.hid (gb.setCell (p := ⟨G, 288, none⟩) hG (.int .i64 1))
          clear T6 hx gG gb hFj
          go_wp2
          go_ret
          exact ⟨_, cp, rest, by rw [freqA_len]; rfl, HT6.out, hG, HB6.out⟩
end Go.Proofs.Ytpjihjbgihionaa
