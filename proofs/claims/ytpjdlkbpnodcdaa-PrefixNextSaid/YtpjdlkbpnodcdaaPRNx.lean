/- Walk of the reference's Next. -/
import Derived.Test.YtpjdlkbpnodcdaaPRCo
import Derived.Test.YtpjdlkbpnodcdaaJRTake
namespace Go.Proofs.Ytpjdlkbpnodcdaa
open Go.RowKit
set_option linter.unusedVariables false

theorem Sl.turnedG {w w' : World} {p : Option Addr} {n cap k : Nat} {rows : List (List Value)} {R : Nat} {t : TypeId} {vs : List Value} (h : Sl w k (.slice p n cap) rows) (ht : Turned w w' R t vs) (hne : ∀ a, p = some a → a.block ≠ R) : Sl w' k (.slice p n cap) rows := by
  obtain ⟨h1, p', cap', e, h3⟩ := h
  cases e
  refine ⟨h1, p, cap, rfl, fun i r hr => ?_⟩
  obtain ⟨a, rfl, q2, q3⟩ := h3 i r hr
  have hb := ht.1.block a.block q2 (by simp; exact hne a rfl)
  refine ⟨a, rfl, Nat.lt_of_lt_of_le q2 ht.1.size, fun j x hx => ?_⟩
  rw [← q3 j x hx]
  exact World.cell?_of_block (by rw [add_block]; exact hb)
/-- the first i symbols tell of more -/
def moreP (L : List Nat) (n w i : Nat) : Bool := (List.range i).any fun i => decide (w < L.getD i 0) && codeW L i % 2 ^ w == n
theorem moreP_all (L : List Nat) (n w : Nat) : moreP L n w L.length = moreW L n w := rfl
theorem moreP_step (L : List Nat) (n w i : Nat) : moreP L n w (i + 1) = (moreP L n w i || (decide (w < L.getD i 0) && codeW L i % 2 ^ w == n)) := by
  unfold moreP
  rw [List.range_succ, List.any_append]
  simp
def NextRet' (s : ByteArray) (R : Nat) (r : Nat × Nat × Nat) (w : World) (e : Ending) (w' : World) : Prop := e = .returned (.tuple #[.int .i64 (r.1 : Int), .int .i64 (r.2.1 : Int)]) ∧ Turned w w' R 44 (rdr s r.2.2)
theorem r_Next_no (l : List Int) (p : Option Addr) (cap R : Nat) (w : World) (hl : l.length ≤ 310) (hS : Sl w 1 (.slice p l.length cap) (rowsI l)) (hno : ¬ RightI l) :
    Calls Try.prog 20 #[.pointer (some ⟨R, 0, none⟩), .slice p l.length cap] w fun e w' => e = .returned (.tuple #[.int .i64 0, .int .i64 70]) ∧ w = w' := by
  have hC := r_Codes_no l p cap w hl hS hno
  have HC := Lib.hid hC
  clear hC hS hno
  go_enter Try.func20, Try.ntmps20
  go_wp2_with fail
  (with_reducible refine HC.out.mono ?_)
  rintro e w1 ⟨rfl, rfl⟩
  go_wp2
  go_ret2
  exact ⟨rfl, rfl⟩
set_option maxRecDepth 100000 in
set_option maxHeartbeats 4000000 in
theorem r_Next_yes (L : List Nat) (p : Option Addr) (cap R : Nat) (s : ByteArray) (pos : Nat) (w : World) (hR : RightN L) (hS : Sl w 1 (.slice p L.length cap) (rowsN L)) (hB : Blk w R 44 (rdr s pos)) (hp : pos ≤ 8 * s.size) (hs : s.size ≤ 1000000) :
    Calls Try.prog 20 #[.pointer (some ⟨R, 0, none⟩), .slice p L.length cap] w (NextRet' s R (toldW L (sl s) pos 15 1) w) := by
  have hl := hR.1
  have hC := r_Codes_yes L p cap w hR hS
  have HC := Lib.hid hC
  have HB := Lib.hid hB
  have HR := Lib.hid hR
  clear hC hB hR hS
  go_enter Try.func20, Try.ntmps20
  go_wp2_with fail
  (with_reducible refine HC.out.mono ?_)
  rintro e w1 ⟨g, capg, rfl, hG, hb1⟩
  have KG : Hid (w.grownBy w1 (some R)) := Lib.hid ((grown_below hb1).but (some R))
  have KR : Hid (Blk w1 R 44 (rdr s pos)) := Lib.hid (HB.out.below hb1 HB.out.lt)
  have KC := Lib.hid hG
  have hL0 : 0 < L.length := by
    have h1 := HR.out.some
    have h2 := lgN_le L 1
    omega
  have hgR : g ≠ R := fun e => by
    have h1 := (pcW_cells KC.out hL0).1
    have h2 := KR.out.cell 0
    rw [e, Nat.zero_mul] at h1
    rw [h1] at h2
    cases h2
  have HGR := Lib.hid hgR
  have H15 := Lib.hid HR.out.2.1
  have HKL := Lib.hid HR.out.le
  clear HC hb1 hG hgR HR hL0
  go_wp2_with fail
  go_loopw [8, 9, 10, 11, 12, 13] (fun n wdv _ _ _ _ wr => ∃ wd : Nat, 1 ≤ wd ∧ wd ≤ 16 ∧ wdv = .int .i64 (wd : Int) ∧ n = .int .u32 ((numB (sl s) pos (wd - 1) : Nat) : Int) ∧ toldW L (sl s) pos 15 1 = toldW L (sl s) pos (16 - wd) wd ∧ pos + (wd - 1) ≤ 8 * s.size ∧ Blk wr R 44 (rdr s (pos + (wd - 1))) ∧ Sl wr 2 (.slice (some ⟨g, 0, none⟩) L.length capg) (rowsP (pcW L)) ∧ w.grownBy wr (some R)) (fun _ wdv _ _ _ _ _ => 16 - (intOf wdv).toNat)
  case atStart => exact ⟨1, by omega, by omega, rfl, rfl, rfl, by omega, KR.out, KC.out, KG.out⟩
  case round =>
    obtain ⟨wd, hw1, hw16, rfl, rfl, gT, gp, gR, gC, gb⟩ := hrel
    clear KR KC KG
    by_cases hlw : wd ≤ 15
    · have d1 : (wd : Int) ≤ 15 := by omega
      obtain ⟨q, hq⟩ : ∃ q, pos + (wd - 1) = q := ⟨_, rfl⟩
      rw [hq] at gR gp
      rw [show 16 - wd = 15 - wd + 1 by omega] at gT
      by_cases hsh : 8 * s.size ≤ q
      · have hT := r_Take' R s q 1 wr gR (by omega) (by omega) 0 40 q (take_none (by rw [sl_len]; exact hsh))
        have HT := Lib.hid hT
        have ht : toldW L (sl s) pos 15 1 = (0, 40, q) := by
          rw [gT]
          unfold toldW
          rw [if_pos (by rw [sl_len]; omega), hq]
        have HTo := Lib.hid ht
        have GB := Lib.hid gb
        clear hT ht gT gR gC gb hq hsh gp
        go_wp2_with fail
        (with_reducible refine HT.out.mono ?_)
        rintro e w9 ⟨rfl, hT9⟩
        have T : Hid (Turned w w9 R 44 (rdr s q)) := Lib.hid ⟨GB.out.trans hT9.1, hT9.2⟩
        clear hT9
        go_wp2
        go_ret2
        exact ⟨by rw [HTo.out]; rfl, by rw [HTo.out]; exact T.out⟩
      · obtain ⟨b, hb⟩ : ∃ b, bitAt (sl s) q = b := ⟨_, rfl⟩
        have hb2 : b < 2 := by rw [← hb]; exact bitAt_lt _ _
        have hT := r_Take' R s q 1 wr gR (by omega) (by omega) b 0 (q + 1) (by rw [take_one (by rw [sl_len]; omega), hb])
        have HT := Lib.hid hT
        obtain ⟨k, hk⟩ : ∃ k, wd - 1 = k := ⟨_, rfl⟩
        have hno := numB_or (sl s) pos k
        rw [← hk, hq, hb, show wd - 1 + 1 = wd by omega, hk] at hno
        have hnl := numB_lt (sl s) pos k
        have hnl2 := numB_lt (sl s) pos wd
        have hpk : 2 ^ k ≤ 2 ^ 14 := Nat.pow_le_pow_right (by decide) (by omega)
        have hpw : 2 ^ wd ≤ 2 ^ 15 := Nat.pow_le_pow_right (by decide) hlw
        have hpw0 := Nat.two_pow_pos wd
        rw [hk]
        obtain ⟨n, hn⟩ : ∃ n, numB (sl s) pos k = n := ⟨_, rfl⟩
        obtain ⟨n', hn'⟩ : ∃ n', numB (sl s) pos wd = n' := ⟨_, rfl⟩
        obtain ⟨Q, hQ⟩ : ∃ Q, 2 ^ k = Q := ⟨_, rfl⟩
        obtain ⟨P2, hP2⟩ : ∃ P2, 2 ^ wd = P2 := ⟨_, rfl⟩
        rw [hn, hn', hQ] at hno
        rw [hn] at hnl ⊢
        rw [hn'] at hnl2
        rw [hQ] at hpk hnl
        rw [hP2] at hpw hpw0 hnl2
        have hQi : (2 : Int) ^ k = (Q : Int) := by rw [← hQ]; simp
        obtain ⟨y, hy⟩ : ∃ y, b * Q = y := ⟨_, rfl⟩
        have hyi : (b : Int) * (Q : Int) = (y : Int) := by rw [← hy]; simp
        have hy15 : y ≤ 32768 := by
          have := Nat.mul_le_mul (show b ≤ 1 by omega) hpk
          rw [hy] at this
          omega
        rw [hy] at hno
        have hor : bits .or .u32 (n : Int) (y : Int) = (n' : Int) := by rw [or_u32n n y (by omega) (by omega), hno]
        have e4 : (wd : Int) - 1 = (k : Int) := by omega
        have i2 : (k : Int).toNat = k := by omega
        have i3 : (0 : Int) ≤ (k : Int) := by omega
        have i4 : (k : Int) ≤ 15 := by omega
        have i5 : (y : Int) ≤ 32768 := by omega
        have hw32 : IntKind.u32.wrap (y : Int) = (y : Int) := wraps_u32 _ (by omega) (by omega)
        have HNN := Lib.hid hn'
        have HP2 := Lib.hid hP2
        have GT := Lib.hid gT
        have GC := Lib.hid gC
        have GB := Lib.hid gb
        have hq1 : q + 1 = pos + wd := by omega
        have hsz : pos + wd ≤ 8 * s.size := by omega
        have HQ1 := Lib.hid hq1
        clear hT gT gR gC gb hb hno hnl hpk hn hn' hQ hP2 hy hy15 hq hsh gp hk hq1
        go_wp2_with fail
        (with_reducible refine HT.out.mono ?_)
        rintro e w9 ⟨rfl, hT9⟩
        have GC9 := Lib.hid (GC.out.turnedG hT9 (fun a ha => by cases ha; exact HGR.out))
        have T9 : Hid (Turned w w9 R 44 (rdr s (q + 1))) := Lib.hid ⟨GB.out.trans hT9.1, hT9.2⟩
        clear hT9 GC GB HT
        go_wp2
        have hP2' : ((2 : Int) ^ wd) = (P2 : Int) := by rw [← HP2.out]; simp
        have j1 : (wd : Int).toNat = wd := by omega
        have j2 : IntKind.u32.wrap ((2 : Int) ^ wd) = (P2 : Int) := by rw [hP2']; exact wraps_u32 _ (by omega) (by omega)
        have j3 : ((P2 : Int) == 0) = false := by rw [beq_eq_false_iff_ne]; omega
        have hm0 : moreP L n' wd 0 = false := rfl
        go_loopw [12, 13] (fun mv i wr => ∃ j : Nat, j ≤ L.length ∧ i = .int .i64 (j : Int) ∧ mv = .bool (moreP L n' wd j) ∧ (∀ k, k < j → L.getD k 0 = wd → codeW L k ≠ n') ∧ Sl wr 2 (.slice (some ⟨g, 0, none⟩) L.length capg) (rowsP (pcW L)) ∧ Turned w wr R 44 (rdr s (q + 1))) (fun _ i _ => L.length - (intOf i).toNat)
        case atStart => exact ⟨0, by omega, rfl, by rw [hm0], (fun k h => by omega), GC9.out, T9.out⟩
        case round =>
          obtain ⟨j, hj, rfl, rfl, gn, gC, gT2⟩ := hrel
          clear GC9 T9 hm0
          obtain ⟨M, hM⟩ : ∃ M, moreP L n' wd j = M := ⟨_, rfl⟩
          rw [hM]
          have HN := Lib.hid gn
          have T := Lib.hid gT2
          have GC := Lib.hid gC
          clear gn gT2
          by_cases hlt : j < L.length
          · have d2 : (j : Int) < (L.length : Int) := by omega
            obtain ⟨c0, c1⟩ := pcW_cells gC hlt
            have hcl := codeW_lt' L j (H15.out j)
            obtain ⟨x, hx⟩ : ∃ x, L.getD j 0 = x := ⟨_, rfl⟩
            obtain ⟨cw, hcw⟩ : ∃ cw, codeW L j = cw := ⟨_, rfl⟩
            rw [hx] at c1
            rw [hcw] at c0 hcl
            have HX := Lib.hid hx
            have HCW := Lib.hid hcw
            clear gC hx hcw
            by_cases hit : x = wd ∧ cw = n'
            · obtain ⟨e1, e2⟩ := hit
              subst e1
              subst e2
              have ht : toldW L (sl s) pos 15 1 = (j, 0, q + 1) := by
                rw [GT.out]
                unfold toldW
                rw [if_neg (by rw [sl_len]; omega), hitW_some (i := j) hlt HX.out (by rw [HCW.out, HNN.out]) (fun k hk k1 k2 => codeW_inj L hlt hk (by rw [HX.out]; omega) (by rw [k1, HX.out]) (H15.out j) HKL.out (by rw [k2, HCW.out, HNN.out])), HQ1.out]
              have HTo := Lib.hid ht
              have t1 : ((x : Int) == (x : Int)) = true := by simp
              have t2 : ((cw : Int) == (cw : Int)) = true := by simp
              clear ht hM
              go_wp2
              go_ret2
              exact ⟨by rw [HTo.out]; rfl, by rw [HTo.out]; exact T.out⟩
            · have hnh : ∀ k, k < j + 1 → L.getD k 0 = wd → codeW L k ≠ n' := fun k h h1 h2 => by
                rcases Nat.lt_or_ge k j with h' | h'
                · exact HN.out k h' h1 h2
                · obtain rfl : k = j := by omega
                  exact hit ⟨by rw [← HX.out, h1], by rw [← HCW.out, h2]⟩
              have HNH1 := Lib.hid hnh
              clear hnh
              by_cases hxw : x = wd
              · have hcn : cw ≠ n' := fun h => hit ⟨hxw, h⟩
                subst hxw
                have t1 : ((x : Int) == (x : Int)) = true := by simp
                have t2 : ((cw : Int) == (n' : Int)) = false := by rw [beq_eq_false_iff_ne]; omega
                cases M
                · have t3 : decide ((x : Int) < (x : Int)) = false := by simp
                  have t3n : decide (x < x) = false := by simp
                  have HM1 : Hid (moreP L n' x (j + 1) = false) := Lib.hid (by rw [moreP_step, hM, HX.out, HCW.out, HP2.out]; simp)
                  clear hM hit hcn
                  go_wp2_with fail
                  go_quiet (fail)
                  go_wp2
                  go_roundw
                  case rel => exact ⟨j + 1, by omega, by go_num, by rw [HM1.out], HNH1.out, GC.out.below (below_drewN (Below.refl _ _) _), T.out.drewN _⟩
                  case measure => simp [intOf]; omega
                · skip
                  have HM1 : Hid (moreP L n' x (j + 1) = true) := Lib.hid (by rw [moreP_step, hM, HX.out, HCW.out, HP2.out]; simp)
                  clear hM hit hcn
                  go_wp2_with fail
                  go_quiet (fail)
                  go_wp2
                  go_roundw
                  case rel => exact ⟨j + 1, by omega, by go_num, by rw [HM1.out], HNH1.out, GC.out.below (below_drewN (Below.refl _ _) _), T.out.drewN _⟩
                  case measure => simp [intOf]; omega
              · have t1 : ((x : Int) == (wd : Int)) = false := by rw [beq_eq_false_iff_ne]; omega
                cases M
                · by_cases hwx : wd < x
                  · have t3 : ((wd : Int) < (x : Int)) := by omega
                    by_cases hmod : cw % P2 = n'
                    · have t4 : (((cw : Int) % (P2 : Int)) == (n' : Int)) = true := by rw [beq_iff_eq]; omega
                      have HM1 : Hid (moreP L n' wd (j + 1) = true) := Lib.hid (by rw [moreP_step, hM, HX.out, HCW.out, HP2.out]; rw [decide_eq_true hwx, hmod]; simp)
                      clear hM hit hxw hmod hwx
                      go_wp2_with fail
                      go_quiet (fail)
                      go_wp2
                      go_roundw
                      case rel => exact ⟨j + 1, by omega, by go_num, by rw [HM1.out], HNH1.out, GC.out.below (below_drewN (Below.refl _ _) _), T.out.drewN _⟩
                      case measure => simp [intOf]; omega
                    · have t4 : (((cw : Int) % (P2 : Int)) == (n' : Int)) = false := by rw [beq_eq_false_iff_ne]; omega
                      have HM1 : Hid (moreP L n' wd (j + 1) = false) := Lib.hid (by rw [moreP_step, hM, HX.out, HCW.out, HP2.out]; rw [decide_eq_true hwx, beq_eq_false_iff_ne.2 hmod]; simp)
                      clear hM hit hxw hmod hwx
                      go_wp2_with fail
                      go_quiet (fail)
                      go_wp2
                      go_roundw
                      case rel => exact ⟨j + 1, by omega, by go_num, by rw [HM1.out], HNH1.out, GC.out.below (below_drewN (Below.refl _ _) _), T.out.drewN _⟩
                      case measure => simp [intOf]; omega
                  · have t3 : decide ((wd : Int) < (x : Int)) = false := decide_eq_false (by omega)
                    have t3n : decide (wd < x) = false := decide_eq_false hwx
                    have HM1 : Hid (moreP L n' wd (j + 1) = false) := Lib.hid (by rw [moreP_step, hM, HX.out, HCW.out, HP2.out]; rw [decide_eq_false hwx]; simp)
                    clear hM hit hxw hwx
                    go_wp2_with fail
                    go_quiet (fail)
                    go_wp2
                    go_roundw
                    case rel => exact ⟨j + 1, by omega, by go_num, by rw [HM1.out], HNH1.out, GC.out.below (below_drewN (Below.refl _ _) _), T.out.drewN _⟩
                    case measure => simp [intOf]; omega
                · skip
                  have HM1 : Hid (moreP L n' wd (j + 1) = true) := Lib.hid (by rw [moreP_step, hM, HX.out, HCW.out, HP2.out]; simp)
                  clear hM hit hxw
                  go_wp2_with fail
                  go_quiet (fail)
                  go_wp2
                  go_roundw
                  case rel => exact ⟨j + 1, by omega, by go_num, by rw [HM1.out], HNH1.out, GC.out.below (below_drewN (Below.refl _ _) _), T.out.drewN _⟩
                  case measure => simp [intOf]; omega
          · obtain rfl : j = L.length := by omega
            rw [moreP_all] at hM
            have hnone := hitW_none (L := L) (n := n') (w := wd) HN.out
            rw [← HNN.out] at hnone hM
            cases M
            · have ht : toldW L (sl s) pos 15 1 = (0, 70, q + 1) := by
                rw [GT.out]
                unfold toldW
                rw [if_neg (by rw [sl_len]; omega), hnone, HQ1.out]
                show (if moreW L (numB (sl s) pos wd) wd = true then _ else _) = _
                rw [hM]
                rfl
              have HTo := Lib.hid ht
              clear ht hM hnone gC hlt
              go_wp2
              go_ret2
              exact ⟨by rw [HTo.out]; rfl, by rw [HTo.out]; exact T.out⟩
            · have ht : toldW L (sl s) pos 15 1 = toldW L (sl s) pos (16 - (wd + 1)) (wd + 1) := by
                rw [GT.out]
                conv => lhs; unfold toldW
                rw [if_neg (by rw [sl_len]; omega), hnone]
                show (if moreW L (numB (sl s) pos wd) wd = true then _ else _) = _
                rw [hM, show 16 - (wd + 1) = 15 - wd by omega]
                rfl
              have HTo := Lib.hid ht
              have hRd := T.out.2
              rw [HQ1.out] at hRd
              have HRd := Lib.hid hRd
              clear ht hM hnone gC hlt hRd
              go_wp2
              go_roundw
              case rel => exact ⟨wd + 1, by omega, by omega, by go_num, by rw [Nat.add_sub_cancel, HNN.out], HTo.out, by rw [Nat.add_sub_cancel]; exact hsz, by rw [Nat.add_sub_cancel]; exact HRd.out, GC.out, T.out.1⟩
              case measure => simp [intOf]; omega
    · obtain rfl : wd = 16 := by omega
      have ht : toldW L (sl s) pos 15 1 = (0, 70, pos + 15) := by rw [gT]; rfl
      have HTo := Lib.hid ht
      have T : Hid (Turned w wr R 44 (rdr s (pos + 15))) := Lib.hid ⟨gb, gR⟩
      clear gT ht gR gC gb hlw
      go_wp2
      go_ret2
      exact ⟨by rw [HTo.out]; rfl, by rw [HTo.out]; exact T.out⟩
end Go.Proofs.Ytpjdlkbpnodcdaa
