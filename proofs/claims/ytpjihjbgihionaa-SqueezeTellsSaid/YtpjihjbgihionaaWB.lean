/- Walks of the reference's run, Match and Split; of the law's theirs, and of the reference's Same. -/
import Derived.Test.YtpjihjbgihionaaWA
import Derived.OpenShut
import Derived.ChangeSame
namespace Go.Proofs.Ytpjihjbgihionaa
open Go.RowKit
set_option linter.unusedVariables false

set_option maxRecDepth 100000 in
set_option maxHeartbeats 1000000 in
theorem r_run (s : ByteArray) (f p : Nat) (w : World) (hf : f < p) (hp : p < s.size) (hs : s.size ≤ 1000000000) :
    Calls Try.prog 69 #[.string s, .int .i64 (f : Int), .int .i64 (p : Int)] w fun e w' => e = .returned (.int .i64 ((runW (sl s) 34 f p : Nat) : Int)) ∧ DrW w w' := by
  have i1 : (s.size : Int) ≤ 1000000000 := by omega
  have i2 : (p : Int) < (s.size : Int) := by omega
  have i3 : (f : Int) < (p : Int) := by omega
  go_enter Try.func69, Try.ntmps69
  go_wp2
  go_loopw [7] (fun i wr => ∃ n : Nat, n ≤ 34 ∧ p + n ≤ s.size ∧ i = .int .i64 (n : Int) ∧ (∀ i, i < n → (sl s).getD (f + i) 0 = (sl s).getD (p + i) 0) ∧ DrW w wr) (fun i _ => 34 - (intOf i).toNat)
  case atStart => exact ⟨0, by omega, by omega, rfl, fun i h => by omega, DrW.refl _⟩
  case round =>
    obtain ⟨n, hn34, hpn, rfl, hsm, gD⟩ := hrel
    have stop : ∀ h : (n = 34 ∨ s.size ≤ p + n ∨ (sl s).getD (f + n) 0 ≠ (sl s).getD (p + n) 0), runW (sl s) 34 f p = n := fun h => run_stop hn34 (by rw [sl_len]; exact hpn) hsm (by rw [sl_len]; exact h)
    have STOP := Lib.hid stop
    have HSM := Lib.hid hsm
    have GD := Lib.hid gD
    clear hsm stop gD
    by_cases h1 : n = 34
    · subst h1
      have hst := Lib.hid (STOP.out (.inl rfl))
      have d1 : decide (((34 : Nat) : Int) < 34) = false := by decide
      have d1' : decide ((34 : Nat) < 34) = false := by decide
      clear STOP
      go_wp2_with fail
      go_quiet (fail)
      go_wp2
      go_ret
      exact ⟨by rw [hst.out]; rfl, GD.out.trans ⟨_, rfl⟩⟩
    · have d1 : decide ((n : Int) < 34) = true := by simp; omega
      have d1' : decide (n < 34) = true := by simp; omega
      by_cases h2 : s.size ≤ p + n
      · have hst := Lib.hid (STOP.out (.inr (.inl h2)))
        have d2 : decide ((p : Int) + (n : Int) < (s.size : Int)) = false := by simp; omega
        have d2' : decide (p + n < s.size) = false := by simp; omega
        clear STOP h1 h2
        go_wp2_with fail
        go_quiet (fail)
        go_wp2
        go_ret
        exact ⟨by rw [hst.out]; rfl, GD.out.trans ⟨_, rfl⟩⟩
      · have d2 : decide ((p : Int) + (n : Int) < (s.size : Int)) = true := by simp; omega
        have d2' : decide (p + n < s.size) = true := by simp; omega
        obtain ⟨x, hx⟩ : ∃ x, (sl s).getD (f + n) 0 = x := ⟨_, rfl⟩
        obtain ⟨y, hy⟩ : ∃ y, (sl s).getD (p + n) 0 = y := ⟨_, rfl⟩
        have hX := index_at s f n x (by omega) hx
        have hY := index_at s p n y (by omega) hy
        by_cases h3 : x = y
        · subst h3
          have d3 : decide ((x : Int) = (x : Int)) = true := by simp
          have d3' : ((x : Int) == (x : Int)) = true := by simp
          have hsm' : ∀ i, i < n + 1 → (sl s).getD (f + i) 0 = (sl s).getD (p + i) 0 := fun i hi => by
            rcases Nat.lt_or_ge i n with h | h
            · exact HSM.out i h
            · obtain rfl : i = n := by omega
              rw [hx, hy]
          have HS := Lib.hid hsm'
          clear STOP hsm' hx hy
          go_wp2_with fail
          go_quiet (fail)
          go_wp2
          go_roundw
          case rel => exact ⟨n + 1, by omega, by omega, by go_num, HS.out, GD.out.trans ⟨_, rfl⟩⟩
          case measure => (simp [intOf]; try omega)
        · have hst := Lib.hid (STOP.out (.inr (.inr (by rw [hx, hy]; exact h3))))
          have d3 : decide ((x : Int) = (y : Int)) = false := by simp; omega
          have d3' : ((x : Int) == (y : Int)) = false := by rw [beq_eq_false_iff_ne]; omega
          clear STOP h1 h2 h3 hx hy
          go_wp2_with fail
          go_quiet (fail)
          go_wp2
          go_ret
          exact ⟨by rw [hst.out]; rfl, GD.out.trans ⟨_, rfl⟩⟩
theorem bestW_le (s : List Nat) (p : Nat) : ∀ k, (bestW s p k).1 ≤ 34 ∧ (bestW s p k).2 ≤ k
  | 0 => ⟨Nat.zero_le _, Nat.le_refl _⟩
  | k + 1 => by
    have ih := bestW_le s p k
    unfold bestW
    split
    · exact ⟨runW_le _ _ _ _, Nat.le_refl _⟩
    · exact ⟨ih.1, by omega⟩
set_option maxRecDepth 100000 in
set_option maxHeartbeats 1000000 in
theorem r_Match (s : ByteArray) (x : Int) (w : World) (hs : s.size ≤ 1000000) :
    Calls Try.prog 38 #[.string s, .int .i64 x] w fun e w' => e = .returned (.tuple #[.int .i64 ((matchZ (sl s) x).1 : Int), .int .i64 ((matchZ (sl s) x).2 : Int)]) ∧ DrW w w' := by
  by_cases hx : x < 0
  · have he : matchZ (sl s) x = (0, 0) := by unfold matchZ; rw [if_pos hx]
    have HE := Lib.hid he
    clear he
    go_enter Try.func38, Try.ntmps38
    go_wp2
    go_ret2
    exact ⟨by rw [HE.out]; rfl, DrW.refl _⟩
  obtain ⟨p, rfl⟩ : ∃ p : Nat, x = (p : Int) := ⟨x.toNat, by omega⟩
  by_cases hp : s.size ≤ p
  · have he : matchZ (sl s) (p : Int) = (0, 0) := by unfold matchZ matchW; rw [if_neg hx, if_pos (by rw [sl_len]; omega)]
    have HE := Lib.hid he
    have g1 : ¬ (p : Int) < 0 := hx
    have g2 : (s.size : Int) ≤ (p : Int) := by omega
    clear he
    go_enter Try.func38, Try.ntmps38
    go_wp2
    go_ret2
    exact ⟨by rw [HE.out]; rfl, DrW.refl _⟩
  · have g1 : ¬ (p : Int) < 0 := hx
    have g2 : ¬ (s.size : Int) ≤ (p : Int) := by omega
    have i1 : (s.size : Int) ≤ 1000000 := by omega
    have he : matchZ (sl s) (p : Int) = if (bestW (sl s) p (min 512 p)).1 < 3 then (0, 0) else bestW (sl s) p (min 512 p) := by
      unfold matchZ matchW
      rw [if_neg hx, if_neg (by rw [sl_len]; exact hp)]
      rfl
    have HE := Lib.hid he
    clear he
    go_enter Try.func38, Try.ntmps38
    go_wp2
    go_loopw [6, 7, 8] (fun l b i wr => ∃ (k : Nat) (m : Nat × Nat), l = .int .i64 (m.1 : Int) ∧ b = .int .i64 (m.2 : Int) ∧ i = .int .i64 ((k : Int) + 1) ∧ k ≤ min 512 p ∧ m = bestW (sl s) p k ∧ DrW w wr) (fun _ _ i _ => 600 - (intOf i).toNat)
    case atStart => exact ⟨0, (0, 0), rfl, rfl, rfl, by omega, rfl, DrW.refl _⟩
    case round =>
      obtain ⟨k, m, rfl, rfl, rfl, hk, hm, gD⟩ := hrel
      have hle := bestW_le (sl s) p k
      rw [← hm] at hle
      have HMM := Lib.hid hm
      have GD := Lib.hid gD
      clear hm gD
      by_cases hkp : k + 1 ≤ min 512 p
      · have d1 : (k : Int) + 1 ≤ 512 := by omega
        have d2 : (k : Int) + 1 ≤ (p : Int) := by omega
        have hR := r_run s (p - (k + 1)) p wr (by omega) (by omega) (by omega)
        have e1 : ((p - (k + 1) : Nat) : Int) = (p : Int) - ((k : Int) + 1) := by omega
        rw [e1] at hR
        have hnx : bestW (sl s) p (k + 1) = if (bestW (sl s) p k).1 < runW (sl s) 34 (p - (k + 1)) p then (runW (sl s) 34 (p - (k + 1)) p, k + 1) else bestW (sl s) p k := rfl
        rw [← HMM.out] at hnx
        obtain ⟨r, hr⟩ : ∃ r, runW (sl s) 34 (p - (k + 1)) p = r := ⟨_, rfl⟩
        have hr34 : r ≤ 34 := by rw [← hr]; exact runW_le _ _ _ _
        rw [hr] at hR hnx
        have HR := Lib.hid hR
        have HNX := Lib.hid hnx
        clear hR hnx hr e1
        go_wp2_with fail
        (with_reducible refine HR.out.mono ?_)
        rintro e w3 ⟨rfl, hd3⟩
        have HD3 := Lib.hid (GD.out.trans hd3)
        clear HR hd3
        by_cases hlt : m.1 < r
        · have i3 : (m.1 : Int) < (r : Int) := by omega
          have hnx := HNX.out
          rw [if_pos hlt] at hnx
          have HNX2 := Lib.hid hnx
          clear HNX hnx hlt
          go_wp2
          go_roundw
          case rel => exact ⟨k + 1, (r, k + 1), rfl, by go_num, by go_num, hkp, HNX2.out.symm, HD3.out⟩
          case measure => (simp [intOf]; try omega)
        · have i3 : ¬ (m.1 : Int) < (r : Int) := by omega
          have hnx := HNX.out
          rw [if_neg hlt] at hnx
          have HNX2 := Lib.hid hnx
          clear HNX hnx hlt
          go_wp2
          go_roundw
          case rel => exact ⟨k + 1, m, rfl, rfl, by go_num, hkp, HNX2.out.symm, HD3.out⟩
          case measure => (simp [intOf]; try omega)
      · have hk' : k = min 512 p := by omega
        rw [← hk', ← HMM.out] at HE
        have d0 : ¬ ((k : Int) + 1 ≤ 512 ∧ (k : Int) + 1 ≤ (p : Int)) := by omega
        by_cases hm3 : m.1 < 3
        · have i3 : (m.1 : Int) < 3 := by omega
          have he := HE.out
          rw [if_pos hm3] at he
          have HE2 := Lib.hid he
          clear HE he hm3 hk'
          by_cases h512 : k = 512
          · subst h512
            go_wp2
            go_ret2
            exact ⟨by rw [HE2.out]; rfl, GD.out⟩
          · have d1 : (k : Int) + 1 ≤ 512 := by omega
            have d2 : ¬ (k : Int) + 1 ≤ (p : Int) := by omega
            go_wp2
            go_ret2
            exact ⟨by rw [HE2.out]; rfl, GD.out⟩
        · have i3 : ¬ (m.1 : Int) < 3 := by omega
          have he := HE.out
          rw [if_neg hm3] at he
          have HE2 := Lib.hid he
          clear HE he hm3 hk'
          by_cases h512 : k = 512
          · subst h512
            go_wp2
            go_ret2
            exact ⟨by rw [HE2.out]; rfl, GD.out⟩
          · have d1 : (k : Int) + 1 ≤ 512 := by omega
            have d2 : ¬ (k : Int) + 1 ≤ (p : Int) := by omega
            go_wp2
            go_ret2
            exact ⟨by rw [HE2.out]; rfl, GD.out⟩
theorem build_rt1 (c : Int) (w : World) : (Instr.build 33 #[(0, .int .u8 c)]).run Try.prog w = .ok (.agg #[.int .u8 c, .int .i64 0, .int .i64 0]) w := by kernel_rfl
theorem build_rt2 (n b : Int) (w : World) : (Instr.build 33 #[(1, .int .i64 n), (2, .int .i64 b)]).run Try.prog w = .ok (.agg #[.int .u8 0, .int .i64 n, .int .i64 b]) w := by kernel_rfl
theorem size_rt : (Try.prog.info? 33).map (·.size) = some 3 := by kernel_rfl
theorem info_rt : (Try.prog.info? 33).map (fun i => (i.zero, i.size, i.bytes)) = some (some (.agg #[.int .u8 0, .int .i64 0, .int .i64 0]), 3, 24) := by kernel_rfl
/-- a token more, in a block of its own: what an append wants -/
theorem tok_more {w wr : World} {e : TypeId} {v : Value} {T : List (Nat × Int × Int)} (t : Nat × Int × Int) {n : Nat} (hn : T.length ≤ n) (hn2 : n ≤ 1000000) (gO : OwnR wr w.heap.size e 3 v (rowsTk T)) (gb : Below w.heap.size w wr) :
    Sl (wr.alloc (.cells (rowT t).toArray e)) 3 (.slice (some ⟨wr.heap.size, 0, none⟩) 1 1) [rowT t] ∧ OwnR (wr.alloc (.cells (rowT t).toArray e)) w.heap.size e 3 v (rowsTk T) ∧ Below w.heap.size w (wr.alloc (.cells (rowT t).toArray e)) ∧
    (∀ r ∈ [rowT t], ∀ u ∈ r, u.oneCell' = true) ∧ (rowsTk T).length + [rowT t].length ≤ maxLen ∧ ((rowsTk T).length + [rowT t].length) * 24 ≤ 140737488355328 ∧ w.heap.size ≤ (wr.alloc (.cells (rowT t).toArray e)).heap.size ∧
    (∀ b, v.ownBlock = some b → w.heap.size ≤ b ∧ b < wr.heap.size) := by
  have hb := gb.alloc gb.size (.cells (rowT t).toArray e)
  refine ⟨sl_one (Blk.new' wr e (rowT t) rfl), gO.alloc _, hb, by simp [rowT, Value.oneCell'], ?_, ?_, hb.size, gO.lt⟩
  · rw [rowsTk_len, List.length_singleton]; unfold maxLen; omega
  · rw [rowsTk_len, List.length_singleton]; omega
set_option maxRecDepth 100000 in
set_option maxHeartbeats 2000000 in
theorem r_Split (s : ByteArray) (w : World) (hs : s.size ≤ 100000) :
    Calls Try.prog 18 #[.string s] w (OwnRetR 33 3 (rowsTk (splitW (sl s) s.size 0)) w) := by
  obtain ⟨i0, hi0, hz0, hz1, hz2⟩ := info_parts2 info_rt
  have i1 : (s.size : Int) ≤ 100000 := by omega
  have b1 := build_rt1
  have b2 := build_rt2
  have k0 := OwnR.empty w w.heap.size 33 3 (Nat.le_refl _)
  have kb := (Below.refl w.heap.size w).alloc (Nat.le_refl _) (.cells #[] 33)
  have k0 := Lib.hid k0
  have kb := Lib.hid kb
  go_enter Try.func18, Try.ntmps18
  go_wp2
  go_loopw [3, 4] (fun l i wr => ∃ (p : Nat) (lv : Value) (T : List (Nat × Int × Int)), lv = l ∧ i = .int .i64 (p : Int) ∧ p ≤ s.size ∧ OwnR wr w.heap.size 33 3 lv (rowsTk T) ∧ T ++ splitW (sl s) s.size p = splitW (sl s) s.size 0 ∧ T.length ≤ p ∧ Below w.heap.size w wr) (fun _ i _ => s.size - (intOf i).toNat)
  case atStart => exact ⟨0, _, [], rfl, rfl, by omega, k0.out, rfl, by simp, kb.out⟩
  case round =>
    obtain ⟨p, lv, T, rfl, rfl, hp, gO, gT, gl, gb⟩ := hrel
    clear k0 kb
    by_cases hlt : p < s.size
    · have d1 : (p : Int) < (s.size : Int) := by omega
      have hM := r_Match s (p : Int) wr (by omega)
      have hmz : matchZ (sl s) (p : Int) = matchW (sl s) p := by unfold matchZ; rw [if_neg (by omega)]; rfl
      rw [hmz] at hM
      have hst := split_step (s := sl s) (p := p) (by rw [sl_len]; exact hlt)
      have hin := match_in (s := sl s) (p := p) (by rw [sl_len]; exact hlt)
      rw [sl_len] at hst hin
      have HM := Lib.hid hM
      have GO := Lib.hid gO
      have GT := Lib.hid gT
      have GB := Lib.hid gb
      have HST := Lib.hid hst
      clear hM gO gT gb hmz hst
      go_wp2_with fail
      (with_reducible refine HM.out.mono ?_)
      rintro e w1 ⟨rfl, hd⟩
      have O1 := GO.out.keep hd.below
      have B1 := GB.out.trans (hd.below.mono GB.out.size)
      clear HM GO GB hd
      by_cases hm : (matchW (sl s) p).1 = 0
      · have ht : tokW (sl s) p = ((sl s).getD p 0, 0, 0) := by unfold tokW; rw [if_pos hm]
        have hI := fun w => index_sl s .i64 p hlt w
        have hst := HST.out
        rw [ht, hm] at hst
        have HST2 := Lib.hid hst
        obtain ⟨q1, q2, q3, q4, q5, q6, q7, q8⟩ := tok_more ((sl s).getD p 0, 0, 0) gl (by omega) O1 B1
        have Q1 := Lib.hid q1
        have Q2 := Lib.hid q2
        have Q3 := Lib.hid q3
        have Q4 := Lib.hid q4
        have Q5 := Lib.hid q5
        have Q6 := Lib.hid q6
        have Q7 := Lib.hid q7
        have Q8 := Lib.hid q8
        rw [hm]
        clear ht hm hst hin O1 B1 HST q1 q2 q3 q4 q5 q6 q7 q8
        generalize (sl s).getD p 0 = c at *
        go_wp2_with (refine wpList_append_rows rfl _ _ 31 rfl w.heap.size 33 i0 (.agg #[.int .u8 0, .int .i64 0, .int .i64 0]) 3 24 Try.underlying31 hi0 hz0 hz1 hz2 rfl (by decide) _ (rowsTk T) rfl Q2.out (.slice (some ⟨w1.heap.size, 0, none⟩) 1 1) [rowT (c, 0, 0)] rfl Q1.out Q4.out Q5.out Q6.out Q7.out (.inr ⟨_, _, _, rfl⟩) ?_; intro v7 w7 ho7 hg7 hv7)
        go_roundw
        case rel => exact ⟨p + 1, v7, T ++ [(c, 0, 0)], rfl, by go_num, by omega, by rw [rowsTk_snoc]; exact ho7, by rw [List.append_assoc, ← GT.out, HST2.out]; rfl, by rw [List.length_append, List.length_singleton]; omega, Q3.out.grown hg7 Q7.out (fun k e => (Q8.out k e).1)⟩
        case measure => (simp [intOf]; try omega)
      · have ht : tokW (sl s) p = (0, ((matchW (sl s) p).1 : Int), ((matchW (sl s) p).2 : Int)) := by unfold tokW; rw [if_neg hm]
        have hst := HST.out
        have h3 := (matchW_is hm).1
        rw [ht, show max (matchW (sl s) p).1 1 = (matchW (sl s) p).1 by omega] at hst
        rw [show max (matchW (sl s) p).1 1 = (matchW (sl s) p).1 by omega] at hin
        have HST2 := Lib.hid hst
        obtain ⟨q1, q2, q3, q4, q5, q6, q7, q8⟩ := tok_more (0, ((matchW (sl s) p).1 : Int), ((matchW (sl s) p).2 : Int)) gl (by omega) O1 B1
        have Q1 := Lib.hid q1
        have Q2 := Lib.hid q2
        have Q3 := Lib.hid q3
        have Q4 := Lib.hid q4
        have Q5 := Lib.hid q5
        have Q6 := Lib.hid q6
        have Q7 := Lib.hid q7
        have Q8 := Lib.hid q8
        clear ht hm hst O1 B1 HST q1 q2 q3 q4 q5 q6 q7 q8
        generalize (matchW (sl s) p).1 = m1 at *
        generalize (matchW (sl s) p).2 = m2 at *
        have e0 : ((m1 : Int) == 0) = false := by rw [beq_eq_false_iff_ne]; omega
        go_wp2_with (refine wpList_append_rows rfl _ _ 31 rfl w.heap.size 33 i0 (.agg #[.int .u8 0, .int .i64 0, .int .i64 0]) 3 24 Try.underlying31 hi0 hz0 hz1 hz2 rfl (by decide) _ (rowsTk T) rfl Q2.out (.slice (some ⟨w1.heap.size, 0, none⟩) 1 1) [rowT (0, (m1 : Int), (m2 : Int))] rfl Q1.out Q4.out Q5.out Q6.out Q7.out (.inr ⟨_, _, _, rfl⟩) ?_; intro v7 w7 ho7 hg7 hv7)
        go_roundw
        case rel => exact ⟨p + m1, v7, T ++ [(0, (m1 : Int), (m2 : Int))], rfl, by go_num, by omega, by rw [rowsTk_snoc]; exact ho7, by rw [List.append_assoc, ← GT.out, HST2.out]; rfl, by rw [List.length_append, List.length_singleton]; omega, Q3.out.grown hg7 Q7.out (fun k e => (Q8.out k e).1)⟩
        case measure => (simp [intOf]; try omega)
    · obtain rfl : p = s.size := by omega
      have he := split_end (s := sl s) (p := s.size) (by rw [sl_len]; omega)
      rw [sl_len] at he
      rw [he, List.append_nil] at gT
      have GT := Lib.hid gT
      have GO := Lib.hid gO
      have GB := Lib.hid gb
      clear gT gO gb he
      go_wp2
      go_ret
      exact ⟨_, rfl, by rw [← GT.out]; exact GO.out, GB.out⟩
end Go.Proofs.Ytpjihjbgihionaa
namespace Go.Proofs.Ytpjihjbgihionaa
open Go.RowKit
set_option linter.unusedVariables false

theorem rowsTk_at {T : List (Nat × Int × Int)} {j : Nat} (h : j < T.length) : (rowsTk T)[j]? = some (rowT T[j]) := by simp [rowsTk, h]
theorem rowsTk_take {T : List (Nat × Int × Int)} {j : Nat} (h : j < T.length) : rowsTk (T.take (j + 1)) = rowsTk (T.take j) ++ [rowT T[j]] := by
  rw [List.take_succ_eq_append_getElem h, rowsTk_snoc]
/-- a slice of the call's own begins where its block does -/
theorem OwnR.shape {w : World} {base : Nat} {e : TypeId} {k : Nat} {v : Value} {rows : List (List Value)} (h : OwnR w base e k v rows) : ∃ p cap, v = .slice p rows.length cap ∧ ∀ a, p = some a → ∃ g, a = ⟨g, 0, none⟩ := by
  rcases h.2.2 with ⟨hv, hn⟩ | ⟨g, cap, cur, hv, _⟩
  · exact ⟨none, 0, by rw [hv, hn], fun a e => by cases e⟩
  · exact ⟨_, cap, hv, fun a e => ⟨g, (Option.some.inj e).symm⟩⟩
theorem sl_range {w : World} {k : Nat} {g n cap : Nat} {rows : List (List Value)} (h : Sl w k (.slice (some ⟨g, 0, none⟩) n cap) rows) {j : Nat} {r : List Value} (hr : rows[j]? = some r) : w.rangeAt g (j * k) r := by
  obtain ⟨a, e, hc⟩ := h.row hr
  cases e
  intro i x hx
  have := hc i x hx
  rw [Addr.add_mid, Addr.add_mid, Nat.zero_add] at this
  exact this
theorem split_shown : splitW (sl ⟨#[97, 97, 97, 97]⟩) 4 0 = [(97, 0, 0), (0, 3, 1)] := by decide +kernel
end Go.Proofs.Ytpjihjbgihionaa
namespace Go.Proofs.Ytpjihjbgihionaa
open Go.ChangeShapes Go.WideShapes Go.ChangeAt Go.RowKit
set_option linter.unusedVariables false

section
variable {H : Type} {enc : TypeId × Value → H} {P : Program} {w : World} {base : Nat} {spare : Nat → Bool} {held : Bool}
/-- a slice of structs of three integers, as an argument: nil, or somewhere -/
theorem open_triples {t e : TypeId} {f0 f1 f2 : Field} {k0 k1 k2 : IntKind} {p0 : Option Addr} {len cap : Nat} {d : DataW H} {p : List MemPlace} (ht : P.underlying t = some (.slice e)) (he : P.underlying e = some (.struct #[f0, f1, f2]))
    (ce : P.cellsOf e = 3) (o0 : f0.offset = 0) (o1 : f1.offset = 1) (o2 : f2.offset = 2) (c0 : P.cellsOf f0.type = 1) (c1 : P.cellsOf f1.type = 1) (c2 : P.cellsOf f2.type = 1) (u0 : P.underlying f0.type = some (.int k0)) (u1 : P.underlying f1.type = some (.int k1)) (u2 : P.underlying f2.type = some (.int k2))
    (h : DataW.Trod enc P w base spare held t (.slice p0 len cap) d p) :
    ∃ l : List (Int × Int × Int), l.length = len ∧ Sl w 3 (.slice p0 len cap) (l.map fun q => [.int k0 q.1, .int k1 q.2.1, .int k2 q.2.2]) ∧ (∀ q ∈ l, (Lit.int k0 q.1).wf = true ∧ (Lit.int k1 q.2.1).wf = true ∧ (Lit.int k2 q.2.2).wf = true) ∧
      (Value.slice p0 len cap = .slice none 0 0 ∨ ∃ ad n c, Value.slice p0 len cap = .slice (some ad) n c) := by
  obtain ⟨m, hm⟩ := h
  have hcells : (Value.slice p0 len cap).cells.toList = [.slice p0 len cap] := rfl
  rw [hcells] at hm
  rcases Deep.open_slice ht hm with ⟨hcs, _⟩ | ⟨a, len', cap', m', n, D, Pl, hcs, hb, hl, hcap, hmm, hx0, hx⟩
  · cases hcs
    exact ⟨[], rfl, Sl.none 3, (fun q h => by simp at h), .inl rfl⟩
  · cases hcs
    have hlm : len ≤ m' := by rw [hmm]; split <;> omega
    have each : ∀ i, i < len → ∃ q : Int × Int × Int, w.cell? (a.add (i * 3)) = some (.int k0 q.1) ∧ w.cell? (a.add (i * 3 + 1)) = some (.int k1 q.2.1) ∧ w.cell? (a.add (i * 3 + 2)) = some (.int k2 q.2.2) ∧ (Lit.int k0 q.1).wf = true ∧ (Lit.int k1 q.2.1).wf = true ∧ (Lit.int k2 q.2.2).wf = true := by
      intro i hi
      obtain ⟨cs', h1, h2⟩ := hx i (by omega)
      rw [ce] at h1
      obtain ⟨_, hlen, hcell⟩ := World.cells?_some h1
      obtain ⟨xs, k, hk, hxy, _, hxl, hf⟩ := DataW.trod_struct he h2
      match xs, hxl, cs', hlen with
      | [y0, y1, y2], _, [v0, v1, v2], _ =>
        have g0 := hf 0 f0 rfl
        have g1 := hf 1 f1 rfl
        have g2 := hf 2 f2 rfl
        simp [o0, o1, o2, c0, c1, c2] at g0 g1 g2
        have e0 := hcell 0 (by omega)
        have e1 := hcell 1 (by omega)
        have e2 := hcell 2 (by omega)
        rw [Deep.add_add] at e0 e1 e2
        obtain ⟨x, q0, _, w0⟩ := DataW.trod_int u0 g0
        obtain ⟨y, q1, _, w1⟩ := DataW.trod_int u1 g1
        obtain ⟨z, q2, _, w2⟩ := DataW.trod_int u2 g2
        obtain rfl : v0 = .int k0 x := by simpa using q0
        obtain rfl : v1 = .int k1 y := by simpa using q1
        obtain rfl : v2 = .int k2 z := by simpa using q2
        exact ⟨(x, y, z), by simpa using e0, by simpa using e1, by simpa using e2, w0, w1, w2⟩
    obtain ⟨q, hq⟩ := Deep.choose_lt each
    refine ⟨(List.range len).map q, by simp, ?_, fun r hr => ?_, .inr ⟨_, _, _, rfl⟩⟩
    · rw [List.map_map]
      refine rows_of a len cap _ (fun i hi => rfl) (fun h0 => ?_) (fun i hi j x hj => ?_)
      · have := cell_lt (hq 0 h0).1
        rwa [add_block] at this
      · obtain ⟨g0, g1, g2, _⟩ := hq i hi
        match j, hj with
        | 0, hj => cases hj; exact g0
        | 1, hj => cases hj; exact g1
        | 2, hj => cases hj; exact g2
        | _ + 3, hj => simp at hj
    · obtain ⟨i, hi, rfl⟩ := List.mem_map.1 hr
      exact (hq i (List.mem_range.1 hi)).2.2.2
theorem nat_toks : ∀ (l : List (Int × Int × Int)), (∀ q ∈ l, (Lit.int .u8 q.1).wf = true ∧ (Lit.int .i64 q.2.1).wf = true ∧ (Lit.int .i64 q.2.2).wf = true) → ∃ m : List (Nat × Int × Int), m.length = l.length ∧ (l.map fun q => [Value.int .u8 q.1, Value.int .i64 q.2.1, Value.int .i64 q.2.2]) = rowsTk m ∧ ∀ q ∈ m, q.1 < 256
  | [], _ => ⟨[], rfl, rfl, fun q h => by cases h⟩
  | q :: l, h => by
    obtain ⟨m, h1, h2, h3⟩ := nat_toks l (fun q hq => h q (by simp [hq]))
    obtain ⟨n, e, hn⟩ := nat_u8 q.1 (h q (by simp)).1
    refine ⟨(n, q.2.1, q.2.2) :: m, by simp [h1], ?_, fun r hr => ?_⟩
    · have e2 : rowsTk ((n, q.2.1, q.2.2) :: m) = rowT (n, q.2.1, q.2.2) :: rowsTk m := rfl
      rw [List.map_cons, h2, e2, e]
      rfl
    · rcases List.mem_cons.1 hr with rfl | hr
      · exact hn
      · exact h3 r hr
theorem open_toks {p0 : Option Addr} {len cap : Nat} {d : DataW H} {p : List MemPlace} (h : DataW.Trod enc Try.prog w base spare held 30 (.slice p0 len cap) d p) :
    ∃ l : List (Nat × Int × Int), l.length = len ∧ Sl w 3 (.slice p0 len cap) (rowsTk l) ∧ (∀ q ∈ l, q.1 < 256) ∧ (Value.slice p0 len cap = .slice none 0 0 ∨ ∃ ad n c, Value.slice p0 len cap = .slice (some ad) n c) := by
  obtain ⟨l, h1, h2, h3, h4⟩ := open_triples Try.underlying30 Try.underlying34 (by kernel_rfl) rfl rfl rfl (by kernel_rfl) (by kernel_rfl) (by kernel_rfl) Try.underlying5 Try.underlying3 Try.underlying3 h
  obtain ⟨m, q1, q2, q3⟩ := nat_toks l h3
  exact ⟨m, q1.trans h1, by rw [← q2]; exact h2, q3, h4⟩
end
end Go.Proofs.Ytpjihjbgihionaa
