/- Walk of the reference's Join. -/
import Derived.Test.YtloncdnnblkpdaaWJe
namespace Go.Proofs.Ytloncdnnblkpdaa
open Go.RowKit
set_option linter.unusedVariables false

/-- a byte more, in a block of its own: what an append wants -/
theorem byte_more {w wr : World} {v : Value} {b : List Nat} (x : Nat) (hn : b.length ≤ 1000000) (gO : OwnR wr w.heap.size 5 1 v (rowsB b)) (gb : Below w.heap.size w wr) :
    Sl (wr.alloc (.cells #[.int .u8 (x : Int)] 5)) 1 (.slice (some ⟨wr.heap.size, 0, none⟩) 1 1) [[.int .u8 (x : Int)]] ∧ OwnR (wr.alloc (.cells #[.int .u8 (x : Int)] 5)) w.heap.size 5 1 v (rowsB b) ∧ Below w.heap.size w (wr.alloc (.cells #[.int .u8 (x : Int)] 5)) ∧
    (∀ r ∈ [[Value.int .u8 (x : Int)]], ∀ u ∈ r, u.oneCell' = true) ∧ (rowsB b).length + [[Value.int .u8 (x : Int)]].length ≤ maxLen ∧ ((rowsB b).length + [[Value.int .u8 (x : Int)]].length) * 1 ≤ 140737488355328 ∧ w.heap.size ≤ (wr.alloc (.cells #[.int .u8 (x : Int)] 5)).heap.size ∧
    (∀ b, v.ownBlock = some b → w.heap.size ≤ b ∧ b < wr.heap.size) := by
  have hb := gb.alloc gb.size (.cells #[.int .u8 (x : Int)] 5)
  refine ⟨sl_one (Blk.new' wr 5 [.int .u8 (x : Int)] rfl), gO.alloc _, hb, by simp [Value.oneCell'], ?_, ?_, hb.size, gO.lt⟩
  · rw [rowsB_len, List.length_singleton]; unfold maxLen; omega
  · rw [rowsB_len, List.length_singleton]; omega
set_option maxRecDepth 100000 in
set_option maxHeartbeats 4000000 in
theorem r_Join (T : List (Nat × Int × Int)) (p : Option Addr) (cap : Nat) (most : Int) (w : World) (hS : Sl w 3 (.slice p T.length cap) (rowsT T)) (hl : T.length ≤ 20000) (out : List Nat) (er : Nat) (hR : joinW most T [] = (out, er)) :
    Calls Try.prog 16 #[.slice p T.length cap, .int .i64 most] w fun e w' => e = .returned (.tuple #[.string (tx out), .int .i64 (er : Int)]) ∧ Below w.heap.size w w' := by
  obtain ⟨i0, hi0, hz0, hz1, hz2⟩ := info_parts2 info_u8
  have k0 := OwnR.empty w w.heap.size 5 1 (Nat.le_refl _)
  have kb := (Below.refl w.heap.size w).alloc (Nat.le_refl _) (.cells #[] 5)
  have k0 := Lib.hid k0
  have kb := Lib.hid kb
  have HS := Lib.hid hS
  have HR := Lib.hid hR
  clear hS hR
  go_enter Try.func16, Try.ntmps16
  go_wp2
  go_loopw [6, 7] (fun s i wr => ∃ (j : Nat) (v : Value) (b : List Nat), v = s ∧ i = .int .i64 (j : Int) ∧ j ≤ T.length ∧ OwnR wr w.heap.size 5 1 v (rowsB b) ∧ joinW most (T.drop j) b = joinW most T [] ∧ b.length ≤ 34 * j ∧ Below w.heap.size w wr) (fun _ i _ => T.length - (intOf i).toNat)
  case atStart => exact ⟨0, _, [], rfl, rfl, by omega, k0.out, rfl, by simp, kb.out⟩
  case round =>
    obtain ⟨j, v, b, rfl, rfl, hj, gO, gR, gl, gb⟩ := hrel
    clear k0 kb
    by_cases hlt : j < T.length
    · have d0 : (j : Int) < (T.length : Int) := by omega
      obtain ⟨a, rfl, hc⟩ := (HS.out.below gb).row (rowsT_at hlt)
      have hdr : T.drop j = T[j] :: T.drop (j + 1) := List.drop_eq_getElem_cons hlt
      rw [hdr, join_cons] at gR
      obtain ⟨⟨c, n, k⟩, ht⟩ : ∃ t, T[j] = t := ⟨_, rfl⟩
      rw [ht] at hc gR
      have K4 := Blk.new' wr 44 (c := #[.int .u8 0, .int .i64 0, .int .i64 0]) [.int .u8 0, .int .i64 0, .int .i64 0] rfl
      have K5 := K4.row (rowT (c, n, k)) rfl
      obtain ⟨w5, hw5⟩ : ∃ w5, (wr.alloc (.cells #[.int .u8 0, .int .i64 0, .int .i64 0] 44)).setRow wr.heap.size (rowT (c, n, k)).toArray = w5 := ⟨_, rfl⟩
      have hb5 : Below wr.heap.size wr w5 := by rw [← hw5]; exact below_setRow ((Below.refl _ _).alloc (Nat.le_refl _) _) (Nat.le_refl _) _
      rw [hw5] at K5
      have gO5 := gO.keep hb5
      have gb5 := gb.trans (hb5.mono gb.size)
      have hb1k : b.length ≤ 680000 := by omega
      obtain ⟨V, hV⟩ : ∃ V, wr.heap.size = V := ⟨_, rfl⟩
      have hov : ∀ i, v.ownBlock = some i → i ≠ V := fun i hi => by have := (gO.lt i hi).2; omega
      rw [hV] at K4 K5 hw5
      have q0 := K5.cell 0
      have q1 := K5.cell 1
      have q2 := K5.cell 2
      simp only [rowT, List.getElem?_cons_zero, List.getElem?_cons_succ] at q0 q1 q2
      obtain ⟨pv, cv, hv⟩ := gO5.isSlice
      rw [rowsB_len] at hv
      have HC := Lib.hid hc
      have KK4 := Lib.hid K4
      have KK5 := Lib.hid K5
      have HW5 := Lib.hid hw5
      have HVV := Lib.hid hV
      have HOV := Lib.hid hov
      have GB := Lib.hid gb5
      have GR := Lib.hid gR
      have GO := Lib.hid gO5
      have HV := Lib.hid hv
      clear hc K4 K5 hw5 gb5 gR gb hb5 gO gO5 ht hdr hV hov
      subst hv
      have gl' : b.length + 34 ≤ 34 * (j + 1) := by omega
      by_cases hn : n = 0
      · have e0 : (n == 0) = true := by rw [hn]; rfl
        by_cases hk : k = 0
        · have e1 : (k != 0) = false := by rw [hk]; rfl
          have hR := GR.out
          rw [show stepW most (c, n, k) b = (if most < ((b.length + 1 : Nat) : Int) then (90, b ++ [c]) else (0, b ++ [c])) by unfold stepW; rw [if_pos hn, if_neg (fun h => h hk)]] at hR
          have HLN := Lib.hid (show (rowsB b ++ [[Value.int .u8 (c : Int)]]).length = b.length + 1 by rw [List.length_append, rowsB_len]; rfl)
          obtain ⟨p1, p2, p3, p4, p5, p6, p7, p8⟩ := byte_more c (by omega) GO.out GB.out
          have P1 := Lib.hid p1
          have P2 := Lib.hid p2
          have P3 := Lib.hid p3
          have P4 := Lib.hid p4
          have P5 := Lib.hid p5
          have P6 := Lib.hid p6
          have P7 := Lib.hid p7
          have P8 := Lib.hid p8
          clear p1 p2 p3 p4 p5 p6 p7 p8
          clear hn hk
          by_cases hm : most < ((b.length + 1 : Nat) : Int)
          · rw [if_pos hm, if_neg (show ¬ ((90, b ++ [c]) : Nat × List Nat).1 = 0 from by show ¬ (90 : Nat) = 0; decide), HR.out] at hR
            cases hR
            obtain ⟨N, hN⟩ : ∃ N, b.length + 1 = N := ⟨_, rfl⟩
            rw [hN] at hm HLN
            clear hN
            go_wp2_with (first | (refine wpList_load_addr rfl 44 _ rfl _ rfl (rowT (c, n, k)) HC.out Try.underlying44 rfl size_rt ?_) | (rw [HVV.out]; refine wpList_store_blk rfl 44 _ _ rfl V (rowT (c, n, k)) rfl rfl KK4.out size_rt rfl (rowT_one _) ?_; rw [HW5.out]) | (refine wpList_append_rows rfl _ _ 37 rfl w.heap.size 5 i0 (.int .u8 0) 1 1 Try.underlying37 hi0 hz0 hz1 hz2 rfl (by decide) _ (rowsB b) rfl P2.out (.slice (some ⟨w5.heap.size, 0, none⟩) 1 1) [[.int .u8 (c : Int)]] rfl P1.out P4.out P5.out P6.out P7.out (.inr ⟨_, _, _, rfl⟩) ?_; intro v7 w7 ho7 hg7 hv7; obtain ⟨A7, c7, e7⟩ := id ho7.isSlice; rw [HLN.out] at e7; subst e7; clear hv7))
            go_ret2
            exact ⟨rfl, P3.out.grown hg7 P7.out (fun k e => (P8.out k e).1)⟩
          · rw [if_neg hm, if_pos rfl] at hR
            have HR2 := Lib.hid hR
            obtain ⟨N, hN⟩ : ∃ N, b.length + 1 = N := ⟨_, rfl⟩
            have HN := Lib.hid hN
            rw [hN] at hm HLN
            clear hN hR
            go_wp2_with (first | (refine wpList_load_addr rfl 44 _ rfl _ rfl (rowT (c, n, k)) HC.out Try.underlying44 rfl size_rt ?_) | (rw [HVV.out]; refine wpList_store_blk rfl 44 _ _ rfl V (rowT (c, n, k)) rfl rfl KK4.out size_rt rfl (rowT_one _) ?_; rw [HW5.out]) | (refine wpList_append_rows rfl _ _ 37 rfl w.heap.size 5 i0 (.int .u8 0) 1 1 Try.underlying37 hi0 hz0 hz1 hz2 rfl (by decide) _ (rowsB b) rfl P2.out (.slice (some ⟨w5.heap.size, 0, none⟩) 1 1) [[.int .u8 (c : Int)]] rfl P1.out P4.out P5.out P6.out P7.out (.inr ⟨_, _, _, rfl⟩) ?_; intro v7 w7 ho7 hg7 hv7; obtain ⟨A7, c7, e7⟩ := id ho7.isSlice; rw [HLN.out] at e7; subst e7; clear hv7))
            go_roundw
            case rel => exact ⟨j + 1, _, b ++ [c], rfl, by go_num, by omega, by rw [rowsB_app]; exact ho7, HR2.out, by rw [List.length_append, List.length_singleton]; omega, P3.out.grown hg7 P7.out (fun k e => (P8.out k e).1)⟩
            case measure => (simp [intOf]; try omega)
        · have e1 : (k != 0) = true := by rw [bne_iff_ne]; exact hk
          have hR := GR.out
          rw [show stepW most (c, n, k) b = (1, b) by unfold stepW; rw [if_pos hn, if_pos hk], if_neg (show ¬ ((1, b) : Nat × List Nat).1 = 0 from by show ¬ (1 : Nat) = 0; decide), HR.out] at hR
          cases hR
          clear hn hk
          go_wp2_with (first | (refine wpList_load_addr rfl 44 _ rfl _ rfl (rowT (c, n, k)) HC.out Try.underlying44 rfl size_rt ?_) | (rw [HVV.out]; refine wpList_store_blk rfl 44 _ _ rfl V (rowT (c, n, k)) rfl rfl KK4.out size_rt rfl (rowT_one _) ?_; rw [HW5.out]))
          go_ret2
          exact ⟨rfl, GB.out⟩
      · have e0 : (n == 0) = false := by rw [beq_eq_false_iff_ne]; exact hn
        by_cases hbad : n < 3 ∨ 34 < n ∨ k < 1 ∨ 512 < k ∨ c ≠ 0
        · have hR := GR.out
          rw [show stepW most (c, n, k) b = (1, b) by unfold stepW; rw [if_neg hn, if_pos hbad], if_neg (show ¬ ((1, b) : Nat × List Nat).1 = 0 from by show ¬ (1 : Nat) = 0; decide), HR.out] at hR
          cases hR
          clear hn
          by_cases b1 : n < 3
          · clear hbad
            go_wp2_with (first | (refine wpList_load_addr rfl 44 _ rfl _ rfl (rowT (c, n, k)) HC.out Try.underlying44 rfl size_rt ?_) | (rw [HVV.out]; refine wpList_store_blk rfl 44 _ _ rfl V (rowT (c, n, k)) rfl rfl KK4.out size_rt rfl (rowT_one _) ?_; rw [HW5.out]))
            go_ret2
            exact ⟨rfl, GB.out⟩
          by_cases b2 : 34 < n
          · clear hbad
            go_wp2_with (first | (refine wpList_load_addr rfl 44 _ rfl _ rfl (rowT (c, n, k)) HC.out Try.underlying44 rfl size_rt ?_) | (rw [HVV.out]; refine wpList_store_blk rfl 44 _ _ rfl V (rowT (c, n, k)) rfl rfl KK4.out size_rt rfl (rowT_one _) ?_; rw [HW5.out]))
            go_ret2
            exact ⟨rfl, GB.out⟩
          by_cases b3 : k < 1
          · clear hbad
            go_wp2_with (first | (refine wpList_load_addr rfl 44 _ rfl _ rfl (rowT (c, n, k)) HC.out Try.underlying44 rfl size_rt ?_) | (rw [HVV.out]; refine wpList_store_blk rfl 44 _ _ rfl V (rowT (c, n, k)) rfl rfl KK4.out size_rt rfl (rowT_one _) ?_; rw [HW5.out]))
            go_ret2
            exact ⟨rfl, GB.out⟩
          by_cases b4 : 512 < k
          · clear hbad
            go_wp2_with (first | (refine wpList_load_addr rfl 44 _ rfl _ rfl (rowT (c, n, k)) HC.out Try.underlying44 rfl size_rt ?_) | (rw [HVV.out]; refine wpList_store_blk rfl 44 _ _ rfl V (rowT (c, n, k)) rfl rfl KK4.out size_rt rfl (rowT_one _) ?_; rw [HW5.out]))
            go_ret2
            exact ⟨rfl, GB.out⟩
          have b5 : ((c : Int) != 0) = true := by rw [bne_iff_ne]; omega
          clear hbad
          go_wp2_with (first | (refine wpList_load_addr rfl 44 _ rfl _ rfl (rowT (c, n, k)) HC.out Try.underlying44 rfl size_rt ?_) | (rw [HVV.out]; refine wpList_store_blk rfl 44 _ _ rfl V (rowT (c, n, k)) rfl rfl KK4.out size_rt rfl (rowT_one _) ?_; rw [HW5.out]))
          go_ret2
          exact ⟨rfl, GB.out⟩
        · have b1 : ¬ n < 3 := by omega
          have b2 : ¬ 34 < n := by omega
          have b3 : ¬ k < 1 := by omega
          have b4 : ¬ 512 < k := by omega
          have b5 : ((c : Int) != 0) = false := by rw [bne_eq_false_iff_eq]; omega
          by_cases hs : (b.length : Int) < k
          · have hR := GR.out
            rw [show stepW most (c, n, k) b = (80, b) by unfold stepW; rw [if_neg hn, if_neg hbad, if_pos hs], if_neg (show ¬ ((80, b) : Nat × List Nat).1 = 0 from by show ¬ (80 : Nat) = 0; decide), HR.out] at hR
            cases hR
            clear hn hbad
            go_wp2_with (first | (refine wpList_load_addr rfl 44 _ rfl _ rfl (rowT (c, n, k)) HC.out Try.underlying44 rfl size_rt ?_) | (rw [HVV.out]; refine wpList_store_blk rfl 44 _ _ rfl V (rowT (c, n, k)) rfl rfl KK4.out size_rt rfl (rowT_one _) ?_; rw [HW5.out]))
            go_ret2
            exact ⟨rfl, GB.out⟩
          · obtain ⟨m, hm⟩ : ∃ m : Nat, n = (m : Int) := ⟨n.toNat, by omega⟩
            obtain ⟨q, hq⟩ : ∃ q : Nat, k = (q : Int) := ⟨k.toNat, by omega⟩
            have hR := GR.out
            rw [show stepW most (c, n, k) b = (if most < ((b.length + m : Nat) : Int) then (90, copyW q m b) else (0, copyW q m b)) by unfold stepW; rw [if_neg hn, if_neg hbad, if_neg hs]; simp only [hm, hq, Int.toNat_natCast]] at hR
            have HR3 := Lib.hid hR
            subst hm
            subst hq
            have hqb : q ≤ b.length := by omega
            have hq1 : 1 ≤ q := by omega
            have hm34 : m ≤ 34 := by omega
            have HS0 := Lib.hid (show OwnR w5 w.heap.size 5 1 (.slice pv b.length cv) (rowsB (copyW q 0 b)) from GO.out)
            clear hn hbad hR hs
            go_wp2_with (first | (refine wpList_load_addr rfl 44 _ rfl _ rfl (rowT (c, (m : Int), (q : Int))) HC.out Try.underlying44 rfl size_rt ?_) | (rw [HVV.out]; refine wpList_store_blk rfl 44 _ _ rfl V (rowT (c, (m : Int), (q : Int))) rfl rfl KK4.out size_rt rfl (rowT_one _) ?_; rw [HW5.out]))
            go_loopw [6, 9] (fun s i wr => ∃ (y : Nat) (v1 : Value), v1 = s ∧ y ≤ m ∧ i = .int .i64 (y : Int) ∧ OwnR wr w.heap.size 5 1 v1 (rowsB (copyW q y b)) ∧ Blk wr V 44 (rowT (c, (m : Int), (q : Int))) ∧ Below w.heap.size w wr) (fun _ i _ => m - (intOf i).toNat)
            case atStart => exact ⟨0, _, rfl, by omega, rfl, HS0.out, KK5.out, GB.out⟩
            case round =>
              obtain ⟨z, v1, rfl, hz, rfl, gO, gV, gb⟩ := hrel
              clear HS0
              have r1 := gV.cell 1
              have r2 := gV.cell 2
              simp only [rowT, List.getElem?_cons_zero, List.getElem?_cons_succ] at r1 r2
              have hlen := copyW_len q z b
              by_cases hzm : z < m
              · have d1 : (z : Int) < (m : Int) := by omega
                have hsn := copyW_snoc q z b
                obtain ⟨b1, hb1⟩ : ∃ b1, copyW q z b = b1 := ⟨_, rfl⟩
                rw [hb1] at gO hlen hsn
                obtain ⟨y, hy⟩ : ∃ y, b1.length - q = y := ⟨_, rfl⟩
                obtain ⟨x, hx⟩ : ∃ x, b1.getD y 0 = x := ⟨_, rfl⟩
                rw [hy, hx] at hsn
                have hyl : y + q = b1.length := by omega
                have hb1l : b1.length ≤ 680034 := by omega
                have hyb : (y : Int) < (b1.length : Int) := by omega
                have s1 : IntKind.i64.wrap ((b1.length : Int) - (q : Int)) = (y : Int) := by rw [IntWalk.i64_in _ (by omega)]; omega
                have s2 : (b1.length : Int) - (q : Int) = (y : Int) := by omega
                obtain ⟨g, capg, restg, hv, hgB, hG⟩ := gO.blkR (by rw [rowsB_len]; omega)
                rw [rowsB_len] at hv
                subst hv
                obtain ⟨a', ea, hc3⟩ := SlB.cell gO.sl (j := y) (by omega)
                cases ea
                rw [Addr.add_mid, Nat.zero_add, hx] at hc3
                have HSN := Lib.hid hsn
                obtain ⟨p1, p2, p3, p4, p5, p6, p7, p8⟩ := byte_more x (by omega) gO gb
                have hne := p2.ne (gV.alloc (.cells #[.int .u8 (x : Int)] 5)) (by decide)
                have P1 := Lib.hid p1
                have P2 := Lib.hid p2
                have P3 := Lib.hid p3
                have P4 := Lib.hid p4
                have P5 := Lib.hid p5
                have P6 := Lib.hid p6
                have P7 := Lib.hid p7
                have P8 := Lib.hid p8
                have HNE := Lib.hid hne
                have GV := Lib.hid (gV.alloc (.cells #[.int .u8 (x : Int)] 5))
                clear p1 p2 p3 p4 p5 p6 p7 p8 hne gO gb gV
                clear hlen hsn hb1 hy hx hyl hG q0 q1 q2
                go_wp2_with (refine wpList_append_rows rfl _ _ 37 rfl w.heap.size 5 i0 (.int .u8 0) 1 1 Try.underlying37 hi0 hz0 hz1 hz2 rfl (by decide) _ (rowsB b1) rfl P2.out (.slice (some ⟨wr.heap.size, 0, none⟩) 1 1) [[.int .u8 (x : Int)]] rfl P1.out P4.out P5.out P6.out P7.out (.inr ⟨_, _, _, rfl⟩) ?_; intro v7 w7 ho7 hg7 hv7)
                go_roundw
                case rel => exact ⟨z + 1, v7, rfl, by omega, by go_num, by rw [HSN.out, rowsB_app]; exact ho7, GV.out.grownO hg7 HNE.out, P3.out.grown hg7 P7.out (fun k e => (P8.out k e).1)⟩
                case measure => (simp [intOf]; try omega)
              · obtain rfl : z = m := by omega
                obtain ⟨pa, ca, hv⟩ := gO.isSlice
                rw [rowsB_len, hlen] at hv
                subst hv
                have hR := HR3.out
                have hl2 : (copyW q z b).length ≤ 34 * (j + 1) := by omega
                have HL2 := Lib.hid hl2
                have GO2 := Lib.hid gO
                have GB2 := Lib.hid gb
                clear gO gV gb hlen hl2 GO GB KK4 KK5 HC HW5 q0 q1 q2
                by_cases hm : most < ((b.length + z : Nat) : Int)
                · rw [if_pos hm, if_neg (show ¬ ((90, copyW q z b) : Nat × List Nat).1 = 0 from by show ¬ (90 : Nat) = 0; decide), HR.out] at hR
                  cases hR
                  obtain ⟨N, hN⟩ : ∃ N, b.length + z = N := ⟨_, rfl⟩
                  rw [hN] at hm ⊢
                  clear hN
                  go_wp2
                  go_ret2
                  exact ⟨rfl, GB2.out⟩
                · rw [if_neg hm, if_pos rfl] at hR
                  have HR4 := Lib.hid hR
                  obtain ⟨N, hN⟩ : ∃ N, b.length + z = N := ⟨_, rfl⟩
                  have HN := Lib.hid hN
                  rw [hN] at hm ⊢
                  rw [hN] at GO2
                  clear hN hR
                  go_wp2
                  go_roundw
                  case rel => exact ⟨j + 1, _, copyW q z b, rfl, by go_num, by omega, GO2.out, HR4.out, HL2.out, GB2.out⟩
                  case measure => (simp [intOf]; try omega)
    · obtain rfl : j = T.length := by omega
      rw [List.drop_length, HR.out] at gR
      cases gR
      have GB := Lib.hid gb
      have HOW := Lib.hid (own_bytes gO)
      obtain ⟨pa, ca, hv⟩ := gO.isSlice
      obtain ⟨N, hN⟩ : ∃ N, (rowsB out).length = N := ⟨_, rfl⟩
      rw [hN] at hv
      subst hv
      clear gO gb hN gl
      go_wp2_with (refine wpList_string_own rfl 37 9 5 _ rfl w.heap.size _ (nn out) rfl Try.underlying37 Try.underlying5 Try.underlying9 HOW.out ?_)
      go_ret2
      exact ⟨rfl, GB.out⟩
end Go.Proofs.Ytloncdnnblkpdaa
