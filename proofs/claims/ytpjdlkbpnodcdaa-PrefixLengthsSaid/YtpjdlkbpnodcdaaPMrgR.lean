/- Walk of the sort's merge, of more than one on either side. -/
import Derived.Test.YtpjdlkbpnodcdaaPMrg
namespace Go.Proofs.Ytpjdlkbpnodcdaa
open Go.RowKit
set_option linter.unusedVariables false

/-- what is said of a merge -/
def MrgSaid (g cap len : Nat) (N k : Nat → Nat) (I rest_ : List Nat) (rest : List Value) (n : Nat) : Prop := ∀ (a m b : Nat) (x L R y : List Nat) (w : World), L.length + R.length ≤ n → Two k I x L R y a m b len → Blk w g 83 (ptrs N (x ++ (L ++ (R ++ y))) ++ rest) → Nds w N k I →
    Calls Try.prog 64 #[.slice (some ⟨g, 0, none⟩) len cap, .int .i64 (a : Int), .int .i64 (m : Int), .int .i64 (b : Int), fcmp] w fun e w' => e = .returned (.tuple #[]) ∧ ∃ S, S.Perm (L ++ R) ∧ Srt k S ∧ Turned w w' g 83 (ptrs N (x ++ (S ++ y)) ++ rest)
/-- the merge of one part, which may be nothing to do: L and R are one row -/
theorem part_two {k : Nat → Nat} {I x L R y : List Nat} {a m b len : Nat} {L' R' x' y' : List Nat} {a' m' b' : Nat} (hl : ∀ l ∈ L', l ∈ L) (hr : ∀ r ∈ R', r ∈ R) (h : Two k I x L R y a m b len) (sL : Srt k L') (sR : Srt k R') (ha : x'.length = a') (hm : a' + L'.length = m') (hb : m' + R'.length = b') (h0 : 0 < L'.length) (h1 : 0 < R'.length)
    (hp : (x' ++ (L' ++ (R' ++ y'))).Perm I) : Two k I x' L' R' y' a' m' b' len :=
  ⟨ha, hm, hb, h0, h1, sL, sR, fun l hl' r hr' => h.lr l (hl l hl') r (hr r hr'), hp, by rw [hp.length_eq, ← h.perm.length_eq]; exact h.hl⟩
/-- one of the two parts is merged -/
theorem mrg_part {g cap len n : Nat} {N k : Nat → Nat} {I x L R y : List Nat} {rest vs : List Value} {a m b : Nat} {w w1 : World} (IH : MrgSaid g cap len N k I [] rest n) (h2 : Two k I x L R y a m b len) (hN : Nds w N k I) (hR : Blk w g 83 vs)
    {L' R' x' y' : List Nat} {a' m' b' : Nat} (hl : ∀ l ∈ L', l ∈ L) (hr : ∀ r ∈ R', r ∈ R) (sL : Srt k L') (sR : Srt k R') (ha : x'.length = a') (hm : a' + L'.length = m') (hb : m' + R'.length = b') (h0 : 0 < L'.length) (h1 : 0 < R'.length) (hn : L'.length + R'.length ≤ n)
    (hp : (x' ++ (L' ++ (R' ++ y'))).Perm I) (T : Turned w w1 g 83 (ptrs N (x' ++ (L' ++ (R' ++ y'))) ++ rest)) :
    Calls Try.prog 64 #[.slice (some ⟨g, 0, none⟩) len cap, .int .i64 (a' : Int), .int .i64 (m' : Int), .int .i64 (b' : Int), fcmp] w1 fun e w' => e = .returned (.tuple #[]) ∧ ∃ S, S.Perm (L' ++ R') ∧ Srt k S ∧ Turned w w' g 83 (ptrs N (x' ++ (S ++ y')) ++ rest) :=
  (IH a' m' b' x' L' R' y' w1 hn (part_two hl hr h2 sL sR ha hm hb h0 h1 hp) T.2 (hN.turned T hR)).mono fun e w' ⟨he, S, q1, q2, q3⟩ => ⟨he, S, q1, q2, T.trans q3⟩
theorem perm_mid (x u v z : List Nat) : (x ++ (u ++ (v ++ z))).Perm (x ++ (v ++ (u ++ z))) := by
  refine List.Perm.append_left _ ?_
  rw [← List.append_assoc, ← List.append_assoc]
  exact List.Perm.append_right _ List.perm_append_comm
set_option maxRecDepth 100000 in
set_option maxHeartbeats 8000000 in
theorem z_mrg3 (g cap len a m b n : Nat) (N k : Nat → Nat) (I x L R y : List Nat) (rest : List Value) (w : World) (ih : MrgSaid g cap len N k I [] rest n) (hn : L.length + R.length ≤ n + 1) (h2 : Two k I x L R y a m b len) (h0 : L.length ≠ 1) (h1 : R.length ≠ 1) (hR : Blk w g 83 (ptrs N (x ++ (L ++ (R ++ y))) ++ rest)) (hN : Nds w N k I) (hl : len ≤ 1000000) :
    Calls Try.prog 64 #[.slice (some ⟨g, 0, none⟩) len cap, .int .i64 (a : Int), .int .i64 (m : Int), .int .i64 (b : Int), fcmp] w fun e w' => e = .returned (.tuple #[]) ∧ ∃ S, S.Perm (L ++ R) ∧ Srt k S ∧ Turned w w' g 83 (ptrs N (x ++ (S ++ y)) ++ rest) := by
  have IH := Lib.hid ih
  clear ih
  unfold fcmp
  obtain ⟨b1, b2, b3⟩ := h2.bound
  have hT := Turned.refl hR
  obtain ⟨d, hd⟩ : ∃ d, x ++ (L ++ (R ++ y)) = d := ⟨_, rfl⟩
  have hlen : d.length = len := by rw [← hd]; exact h2.hl
  have hpm : d.Perm I := by rw [← hd]; exact h2.perm
  obtain ⟨mid, hmid⟩ : ∃ mid, (a + b) / 2 = mid := ⟨_, rfl⟩
  obtain ⟨s0, r0, hsr⟩ : ∃ s0 r0, (mid < m ∧ s0 = mid + m - b ∧ r0 = mid) ∨ (m ≤ mid ∧ s0 = a ∧ r0 = m) := by
    by_cases h : mid < m
    · exact ⟨_, _, .inl ⟨h, rfl, rfl⟩⟩
    · exact ⟨_, _, .inr ⟨by omega, rfl, rfl⟩⟩
  have hma : m ≠ a + 1 := by have := h2.hm; omega
  have hmb : b ≠ m + 1 := by have := h2.hb; omega
  rw [hd] at hT hR
  have hs0 : s0 ≤ r0 := by omega
  have H2 := Lib.hid h2
  have HD := Lib.hid hd
  have HT := Lib.hid hT
  have HR := Lib.hid hR
  have HN := Lib.hid hN
  have HLEN := Lib.hid hlen
  have HPM := Lib.hid hpm
  have HMID := Lib.hid hmid
  have HSR := Lib.hid hsr
  have HNN := Lib.hid hn
  have e0 : ((m : Int) - (a : Int) == 1) = false := by rw [beq_eq_false_iff_ne]; omega
  have e1 : ((b : Int) - (m : Int) == 1) = false := by rw [beq_eq_false_iff_ne]; omega
  have e2 : ((a : Int) + (b : Int)) / 2 = (mid : Int) := by omega
  have i1 : (b : Int) ≤ 1000000 := by omega
  have i2 : (a : Int) < (m : Int) := by omega
  have i3 : (m : Int) < (b : Int) := by omega
  have i4 : (0 : Int) ≤ (a : Int) + (b : Int) := by omega
  have i5 : (a : Int) + (b : Int) ≤ 2000000 := by omega
  have i6 : (mid : Int) ≤ 1000000 := by omega
  clear h2 h0 h1 hd hT hR hN hlen hpm hma hmb hmid
  have k8 : a < mid ∧ mid < b := by have := HMID.out; omega
  obtain ⟨nm, hnm⟩ : ∃ nm, mid + m = nm := ⟨_, rfl⟩
  obtain ⟨pp, hpp⟩ : ∃ pp, mid + m - 1 = pp := ⟨_, rfl⟩
  have e3 : (mid : Int) + (m : Int) = (nm : Int) := by omega
  have e5 : (nm : Int) - 1 = (pp : Int) := by omega
  have i7 : (nm : Int) ≤ 2000000 := by omega
  rcases hsr with ⟨k1, k2, k3⟩ | ⟨k1, k2, k3⟩
  · have d1 : decide ((m : Int) > (mid : Int)) = true := by simp; omega
    have d2 : decide (mid < m) = true := by simp; omega
    have d3 : (mid : Int) < (m : Int) := by omega
    have e4 : (nm : Int) - (b : Int) = (s0 : Int) := by omega
    have k4 : r0 ≤ mid ∧ mid ≤ r0 := by omega
    clear k3 k2
    go_enter Try.func64, Try.ntmps64
    go_wp2
    clear e0 e1 e2 e3 e4 e5 d1 d2 d3
    go_loopw [20, 21] (fun i j wr => ∃ p q : Nat, s0 ≤ p ∧ p ≤ q ∧ q ≤ r0 ∧ i = .int .i64 (p : Int) ∧ j = .int .i64 (q : Int) ∧ (p = s0 ∨ k (d.getD (p - 1) 0) ≤ k (d.getD (mid + m - p) 0)) ∧ (q = r0 ∨ k (d.getD (mid + m - 1 - q) 0) < k (d.getD q 0)) ∧ Turned w wr g 83 (ptrs N d ++ rest)) (fun i j _ => (intOf j).toNat - (intOf i).toNat)
    case atStart => exact ⟨s0, mid, by omega, by omega, by omega, rfl, rfl, .inl (by omega), .inl (by omega), HT.out⟩
    case round =>
      obtain ⟨p, q, hp, hpq, hq, rfl, rfl, g1, g2, gt⟩ := hrel
      clear HT
      by_cases hlt : p < q
      · have d1 : (p : Int) < (q : Int) := by omega
        obtain ⟨c, hc⟩ : ∃ c, (p + q) / 2 = c := ⟨_, rfl⟩
        have e1 : ((p : Int) + (q : Int)) / 2 = (c : Int) := by omega
        obtain ⟨k5, k6, k7⟩ := H2.out.search (c := c) HMID.out.symm HSR.out (by omega) (by omega)
        obtain ⟨f, hf⟩ : ∃ f, mid + m - 1 - c = f := ⟨_, rfl⟩
        have HF := Lib.hid hf
        rw [hf] at k7
        obtain ⟨bx, bz, c1, c2, hC⟩ := gt.two HR.out HN.out HPM.out (i := f) (j := c) (by rw [HLEN.out]; exact k7) (by rw [HLEN.out]; exact k5)
        have e2 : (pp : Int) - (c : Int) = (f : Int) := by omega
        have hcb : p ≤ c ∧ c < q := by omega
        have i7 : (0 : Int) ≤ (p : Int) + (q : Int) := by omega
        have i8 : (p : Int) + (q : Int) ≤ 2000000 := by omega
        have i9 : (c : Int) < (len : Int) := by omega
        have i10 : (f : Int) < (len : Int) := by omega
        have i11 : (c : Int) ≤ (pp : Int) := by omega
        have w1 : IntKind.i64.wrap (f : Int) = (f : Int) := IntWalk.i64_in _ (by omega)
        have w2 : IntKind.i64.wrap ((pp : Int) - (c : Int)) = (f : Int) := by rw [e2]; exact w1
        have G1 := Lib.hid g1
        have G2 := Lib.hid g2
        have e3 : mid + m - (c + 1) = f := by omega
        have E3 := Lib.hid e3
        clear g1 g2 hc hf e3
        by_cases hk : k (d.getD f 0) < k (d.getD c 0)
        · have hlt0 : cmpN (k (d.getD f 0)) (k (d.getD c 0)) < 0 := cmpN_lt.2 hk
          generalize cmpN (k (d.getD f 0)) (k (d.getD c 0)) = cv at *
          have dk : decide (cv < 0) = true := decide_eq_true hlt0
          have HC := Lib.hid hC
          have HK := Lib.hid hk
          clear hC hk hlt0
          go_wp2_with fail
          go_quiet ((go_at_call 58; exact Calls.quiet_of (HC.out _)))
          have T := gt.drewN nq
          clear c1 c2 HC gt dk
          generalize World.drewN wr nq = w3 at *
          go_wp2
          go_roundw
          case rel => exact ⟨p, c, by omega, by omega, by omega, rfl, rfl, G1.out, .inr (by rw [HF.out]; exact HK.out), T⟩
          case measure => (simp [intOf]; try omega)
        · have hlt0 : ¬ cmpN (k (d.getD f 0)) (k (d.getD c 0)) < 0 := fun h => hk (cmpN_lt.1 h)
          generalize cmpN (k (d.getD f 0)) (k (d.getD c 0)) = cv at *
          have dk : decide (cv < 0) = false := decide_eq_false hlt0
          have HC := Lib.hid hC
          have HK := Lib.hid hk
          clear hC hk
          go_wp2_with fail
          go_quiet ((go_at_call 58; exact Calls.quiet_of (HC.out _)))
          have T := gt.drewN nq
          clear c1 c2 HC gt dk
          generalize World.drewN wr nq = w3 at *
          go_wp2
          go_roundw
          case rel => exact ⟨c + 1, q, by omega, by omega, by omega, by first | rfl | go_num, rfl, .inr (by rw [E3.out, Nat.add_sub_cancel]; have := HK.out; omega), G2.out, T⟩
          case measure => (simp [intOf]; try omega)
      · obtain rfl : p = q := by omega
        have cut := H2.out.cut HMID.out.symm HSR.out hp hq (by rw [HD.out]; exact g1) (by rw [HD.out]; exact g2)
        obtain ⟨pd, pl1, pl2, pl3, pl4⟩ := cut.parts H2.out HMID.out.symm
        obtain ⟨c1, c2, c3, c4, _, _⟩ := id cut
        have hdone := fun S1 S2 => cut.done H2.out (S1 := S1) (S2 := S2)
        have sL1 := srt_take H2.out.sL (p - a)
        have sL2 := srt_drop H2.out.sL (p - a)
        have sR1 := srt_take H2.out.sR (mid - p)
        have sR2 := srt_drop H2.out.sR (mid - p)
        have mL1 : ∀ l ∈ L.take (p - a), l ∈ L := fun l h => List.mem_of_mem_take h
        have mL2 : ∀ l ∈ L.drop (p - a), l ∈ L := fun l h => List.mem_of_mem_drop h
        have mR1 : ∀ l ∈ R.take (mid - p), l ∈ R := fun l h => List.mem_of_mem_take h
        have mR2 : ∀ l ∈ R.drop (mid - p), l ∈ R := fun l h => List.mem_of_mem_drop h
        have hLL : (L.take (p - a)).length + (L.drop (p - a)).length = L.length := by simp; omega
        have hRR : (R.take (mid - p)).length + (R.drop (mid - p)).length = R.length := by simp; omega
        generalize L.take (p - a) = L1 at *
        generalize L.drop (p - a) = L2 at *
        generalize R.take (mid - p) = R1 at *
        generalize R.drop (mid - p) = R2 at *
        rw [HD.out] at pd
        obtain ⟨ed, hed⟩ : ∃ ed, mid + m - p = ed := ⟨_, rfl⟩
        have e2 : (nm : Int) - (p : Int) = (ed : Int) := by omega
        have i12 : (p : Int) ≤ (nm : Int) := by omega
        have hxa := H2.out.ha
        have hdl := HLEN.out
        have hpm1 : (x ++ (L1 ++ (R1 ++ (L2 ++ (R2 ++ y))))).Perm I := by
          refine List.Perm.trans ?_ HPM.out
          rw [pd]
          refine List.Perm.append_left _ ?_
          exact perm_mid L1 R1 L2 (R2 ++ y)
        have hnn := HNN.out
        clear g1 g2 cut e2
        have e2 : (nm : Int) - (p : Int) = (ed : Int) := by omega
        have HDONE := Lib.hid hdone
        clear hdone
        -- step one: turned round, or not
        have F1 : (p < m ∧ m < ed → Calls Try.prog 65 #[.slice (some ⟨g, 0, none⟩) len cap, .int .i64 (p : Int), .int .i64 (m : Int), .int .i64 (ed : Int), fcmp] wr fun e w' => e = .returned (.tuple #[]) ∧ Turned w w' g 83 (ptrs N (x ++ (L1 ++ (R1 ++ (L2 ++ (R2 ++ y))))) ++ rest)) := fun h => by
          have e0 : x ++ (L1 ++ (L2 ++ (R1 ++ (R2 ++ y)))) = (x ++ L1) ++ (L2 ++ (R1 ++ (R2 ++ y))) := by simp
          have T := gt
          rw [pd, e0] at T
          have hdl2 := hdl
          rw [pd, e0] at hdl2
          refine (z_rot g cap len p m ed N (x ++ L1) L2 R1 (R2 ++ y) rest fcmp wr hdl2 (by rw [List.length_append]; omega) (by omega) (by omega) (by omega) (by omega) T.2 hl).mono fun e w' ⟨he, ht⟩ => ⟨he, ?_⟩
          have ht2 := T.trans ht
          simpa using ht2
        have F1n : ¬ (p < m ∧ m < ed) → Turned w wr g 83 (ptrs N (x ++ (L1 ++ (R1 ++ (L2 ++ (R2 ++ y))))) ++ rest) := fun h => by
          have e0 : x ++ (L1 ++ (R1 ++ (L2 ++ (R2 ++ y)))) = d := by
            rw [pd]
            by_cases z : L2.length = 0
            · rw [List.eq_nil_of_length_eq_zero z]; rfl
            · rw [List.eq_nil_of_length_eq_zero (show R1.length = 0 by omega)]; rfl
          rw [e0]; exact gt
        -- step two: the lower part
        have F2 : ∀ w1, Turned w w1 g 83 (ptrs N (x ++ (L1 ++ (R1 ++ (L2 ++ (R2 ++ y))))) ++ rest) → a < p ∧ p < mid → Calls Try.prog 64 #[.slice (some ⟨g, 0, none⟩) len cap, .int .i64 (a : Int), .int .i64 (p : Int), .int .i64 (mid : Int), fcmp] w1 fun e w' => e = .returned (.tuple #[]) ∧ ∃ S, S.Perm (L1 ++ R1) ∧ Srt k S ∧ Turned w w' g 83 (ptrs N (x ++ (S ++ (L2 ++ (R2 ++ y)))) ++ rest) := fun w1 T h =>
          mrg_part IH.out H2.out HN.out HR.out mL1 mR1 sL1 sR1 hxa (by omega) (by omega) (by omega) (by omega) (by omega) hpm1 T
        have F2n : ∀ w1, Turned w w1 g 83 (ptrs N (x ++ (L1 ++ (R1 ++ (L2 ++ (R2 ++ y))))) ++ rest) → ¬ (a < p ∧ p < mid) → ∃ S, S.Perm (L1 ++ R1) ∧ Srt k S ∧ Turned w w1 g 83 (ptrs N (x ++ (S ++ (L2 ++ (R2 ++ y)))) ++ rest) := fun w1 T h =>
          ⟨L1 ++ R1, List.Perm.refl _, srt_app sL1 sR1 (by omega), by rw [List.append_assoc]; exact T⟩
        -- step three: the upper part
        have F3 : ∀ S w1, S.Perm (L1 ++ R1) → Turned w w1 g 83 (ptrs N (x ++ (S ++ (L2 ++ (R2 ++ y)))) ++ rest) → mid < ed ∧ ed < b → Calls Try.prog 64 #[.slice (some ⟨g, 0, none⟩) len cap, .int .i64 (mid : Int), .int .i64 (ed : Int), .int .i64 (b : Int), fcmp] w1 fun e w' => e = .returned (.tuple #[]) ∧ ∃ S2, S2.Perm (L2 ++ R2) ∧ Srt k S2 ∧ Turned w w' g 83 (ptrs N ((x ++ S) ++ (S2 ++ y)) ++ rest) := fun S w1 hS T h => by
          have e0 : x ++ (S ++ (L2 ++ (R2 ++ y))) = (x ++ S) ++ (L2 ++ (R2 ++ y)) := by simp
          rw [e0] at T
          have hSl := hS.length_eq
          rw [List.length_append] at hSl
          refine mrg_part IH.out H2.out HN.out HR.out mL2 mR2 sL2 sR2 (by rw [List.length_append]; omega) (by omega) (by omega) (by omega) (by omega) (by omega) ?_ T
          refine List.Perm.trans ?_ hpm1
          rw [← e0, ← List.append_assoc L1]
          exact List.Perm.append_left _ (List.Perm.append_right _ hS)
        have F3n : ∀ S w1, S.Perm (L1 ++ R1) → Turned w w1 g 83 (ptrs N (x ++ (S ++ (L2 ++ (R2 ++ y)))) ++ rest) → ¬ (mid < ed ∧ ed < b) → ∃ S2, S2.Perm (L2 ++ R2) ∧ Srt k S2 ∧ Turned w w1 g 83 (ptrs N ((x ++ S) ++ (S2 ++ y)) ++ rest) := fun S w1 hS T h =>
          ⟨L2 ++ R2, List.Perm.refl _, srt_app sL2 sR2 (by omega), by rw [show (x ++ S) ++ ((L2 ++ R2) ++ y) = x ++ (S ++ (L2 ++ (R2 ++ y))) by simp]; exact T⟩
        have FIN : ∀ S S2 w1, S.Perm (L1 ++ R1) → Srt k S → S2.Perm (L2 ++ R2) → Srt k S2 → Turned w w1 g 83 (ptrs N ((x ++ S) ++ (S2 ++ y)) ++ rest) → ∃ S, S.Perm (L ++ R) ∧ Srt k S ∧ Turned w w1 g 83 (ptrs N (x ++ (S ++ y)) ++ rest) := fun S S2 w1 q1 q2 q3 q4 T => by
          obtain ⟨r1, r2⟩ := HDONE.out S S2 q1 q3 q2 q4
          exact ⟨S ++ S2, r1, r2, by simpa using T⟩
        unfold fcmp at F1 F2 F3
        have F1 := Lib.hid F1
        have F1n := Lib.hid F1n
        have F2 := Lib.hid F2
        have F2n := Lib.hid F2n
        have F3 := Lib.hid F3
        have F3n := Lib.hid F3n
        have FIN := Lib.hid FIN
        have j1 : (p : Int) ≤ 1000000 := by omega
        have j2 : (ed : Int) ≤ 1000000 := by omega
        clear pd pl1 pl2 pl3 pl4 sL1 sL2 sR1 sR2 mL1 mL2 mR1 mR2 hLL hRR hpm1 hnn gt hxa hdl hed HDONE
        by_cases t1 : p < m ∧ m < ed
        · have x1 : (p : Int) < (m : Int) := by have := t1; omega
          have x2 : (m : Int) < (ed : Int) := by have := t1; omega
          have hC := Lib.hid (F1.out t1)
          go_wp2_with fail
          (with_reducible refine hC.out.mono ?_)
          rintro e w9 ⟨rfl, T1⟩
          clear hC x1 x2
          by_cases t2 : a < p ∧ p < mid
          · have x1 : (a : Int) < (p : Int) := by have := t2; omega
            have x2 : (p : Int) < (mid : Int) := by have := t2; omega
            have hC := Lib.hid (F2.out _ T1 t2)
            clear T1
            go_wp2_with fail
            (with_reducible refine hC.out.mono ?_)
            rintro e w9 ⟨rfl, hst⟩
            clear hC x1 x2
            obtain ⟨S, q1, q2, T2⟩ := hst
            by_cases t3 : mid < ed ∧ ed < b
            · have x1 : (mid : Int) < (ed : Int) := by have := t3; omega
              have x2 : (ed : Int) < (b : Int) := by have := t3; omega
              have hC := Lib.hid (F3.out S _ q1 T2 t3)
              have Q1 := Lib.hid q1
              have Q2 := Lib.hid q2
              clear T2 q1 q2
              go_wp2_with fail
              all_goals
                (with_reducible refine hC.out.mono ?_)
                rintro e w9 ⟨rfl, S2, q3, q4, T9⟩
                have hfin := Lib.hid (FIN.out S S2 _ Q1.out Q2.out q3 q4 T9)
                clear T9 q3 q4
                go_wp2
                go_end0
                exact ⟨rfl, hfin.out⟩
            · obtain ⟨S2, q3, q4, T9⟩ := F3n.out S _ q1 T2 t3
              have hfin := Lib.hid (FIN.out S S2 _ q1 q2 q3 q4 T9)
              clear T9 q3 q4 T2 q1 q2
              by_cases t4 : mid < ed
              · have x1 : (mid : Int) < (ed : Int) := by omega
                have x2 : ¬ (ed : Int) < (b : Int) := by omega
                go_wp2
                all_goals
                  go_end0
                  exact ⟨rfl, hfin.out⟩
              · have x1 : ¬ (mid : Int) < (ed : Int) := by omega
                go_wp2
                all_goals
                  go_end0
                  exact ⟨rfl, hfin.out⟩
          · have hst := F2n.out _ T1 t2
            clear T1
            by_cases t5 : a < p
            · have x1 : (a : Int) < (p : Int) := by omega
              have x2 : ¬ (p : Int) < (mid : Int) := by omega
              obtain ⟨S, q1, q2, T2⟩ := hst
              by_cases t3 : mid < ed ∧ ed < b
              · have x1 : (mid : Int) < (ed : Int) := by have := t3; omega
                have x2 : (ed : Int) < (b : Int) := by have := t3; omega
                have hC := Lib.hid (F3.out S _ q1 T2 t3)
                have Q1 := Lib.hid q1
                have Q2 := Lib.hid q2
                clear T2 q1 q2
                go_wp2_with fail
                all_goals
                  (with_reducible refine hC.out.mono ?_)
                  rintro e w9 ⟨rfl, S2, q3, q4, T9⟩
                  have hfin := Lib.hid (FIN.out S S2 _ Q1.out Q2.out q3 q4 T9)
                  clear T9 q3 q4
                  go_wp2
                  go_end0
                  exact ⟨rfl, hfin.out⟩
              · obtain ⟨S2, q3, q4, T9⟩ := F3n.out S _ q1 T2 t3
                have hfin := Lib.hid (FIN.out S S2 _ q1 q2 q3 q4 T9)
                clear T9 q3 q4 T2 q1 q2
                by_cases t4 : mid < ed
                · have x1 : (mid : Int) < (ed : Int) := by omega
                  have x2 : ¬ (ed : Int) < (b : Int) := by omega
                  go_wp2
                  all_goals
                    go_end0
                    exact ⟨rfl, hfin.out⟩
                · have x1 : ¬ (mid : Int) < (ed : Int) := by omega
                  go_wp2
                  all_goals
                    go_end0
                    exact ⟨rfl, hfin.out⟩
            · have x1 : ¬ (a : Int) < (p : Int) := by omega
              obtain ⟨S, q1, q2, T2⟩ := hst
              by_cases t3 : mid < ed ∧ ed < b
              · have x1 : (mid : Int) < (ed : Int) := by have := t3; omega
                have x2 : (ed : Int) < (b : Int) := by have := t3; omega
                have hC := Lib.hid (F3.out S _ q1 T2 t3)
                have Q1 := Lib.hid q1
                have Q2 := Lib.hid q2
                clear T2 q1 q2
                go_wp2_with fail
                all_goals
                  (with_reducible refine hC.out.mono ?_)
                  rintro e w9 ⟨rfl, S2, q3, q4, T9⟩
                  have hfin := Lib.hid (FIN.out S S2 _ Q1.out Q2.out q3 q4 T9)
                  clear T9 q3 q4
                  go_wp2
                  go_end0
                  exact ⟨rfl, hfin.out⟩
              · obtain ⟨S2, q3, q4, T9⟩ := F3n.out S _ q1 T2 t3
                have hfin := Lib.hid (FIN.out S S2 _ q1 q2 q3 q4 T9)
                clear T9 q3 q4 T2 q1 q2
                by_cases t4 : mid < ed
                · have x1 : (mid : Int) < (ed : Int) := by omega
                  have x2 : ¬ (ed : Int) < (b : Int) := by omega
                  go_wp2
                  all_goals
                    go_end0
                    exact ⟨rfl, hfin.out⟩
                · have x1 : ¬ (mid : Int) < (ed : Int) := by omega
                  go_wp2
                  all_goals
                    go_end0
                    exact ⟨rfl, hfin.out⟩
        · have T1 := F1n.out t1
          by_cases t0 : p < m
          · have y1 : (p : Int) < (m : Int) := by omega
            have y2 : ¬ (m : Int) < (ed : Int) := by omega
            by_cases t2 : a < p ∧ p < mid
            · have x1 : (a : Int) < (p : Int) := by have := t2; omega
              have x2 : (p : Int) < (mid : Int) := by have := t2; omega
              have hC := Lib.hid (F2.out _ T1 t2)
              clear T1
              go_wp2_with fail
              (with_reducible refine hC.out.mono ?_)
              rintro e w9 ⟨rfl, hst⟩
              clear hC x1 x2
              obtain ⟨S, q1, q2, T2⟩ := hst
              by_cases t3 : mid < ed ∧ ed < b
              · have x1 : (mid : Int) < (ed : Int) := by have := t3; omega
                have x2 : (ed : Int) < (b : Int) := by have := t3; omega
                have hC := Lib.hid (F3.out S _ q1 T2 t3)
                have Q1 := Lib.hid q1
                have Q2 := Lib.hid q2
                clear T2 q1 q2
                go_wp2_with fail
                all_goals
                  (with_reducible refine hC.out.mono ?_)
                  rintro e w9 ⟨rfl, S2, q3, q4, T9⟩
                  have hfin := Lib.hid (FIN.out S S2 _ Q1.out Q2.out q3 q4 T9)
                  clear T9 q3 q4
                  go_wp2
                  go_end0
                  exact ⟨rfl, hfin.out⟩
              · obtain ⟨S2, q3, q4, T9⟩ := F3n.out S _ q1 T2 t3
                have hfin := Lib.hid (FIN.out S S2 _ q1 q2 q3 q4 T9)
                clear T9 q3 q4 T2 q1 q2
                by_cases t4 : mid < ed
                · have x1 : (mid : Int) < (ed : Int) := by omega
                  have x2 : ¬ (ed : Int) < (b : Int) := by omega
                  go_wp2
                  all_goals
                    go_end0
                    exact ⟨rfl, hfin.out⟩
                · have x1 : ¬ (mid : Int) < (ed : Int) := by omega
                  go_wp2
                  all_goals
                    go_end0
                    exact ⟨rfl, hfin.out⟩
            · have hst := F2n.out _ T1 t2
              clear T1
              by_cases t5 : a < p
              · have x1 : (a : Int) < (p : Int) := by omega
                have x2 : ¬ (p : Int) < (mid : Int) := by omega
                obtain ⟨S, q1, q2, T2⟩ := hst
                by_cases t3 : mid < ed ∧ ed < b
                · have x1 : (mid : Int) < (ed : Int) := by have := t3; omega
                  have x2 : (ed : Int) < (b : Int) := by have := t3; omega
                  have hC := Lib.hid (F3.out S _ q1 T2 t3)
                  have Q1 := Lib.hid q1
                  have Q2 := Lib.hid q2
                  clear T2 q1 q2
                  go_wp2_with fail
                  all_goals
                    (with_reducible refine hC.out.mono ?_)
                    rintro e w9 ⟨rfl, S2, q3, q4, T9⟩
                    have hfin := Lib.hid (FIN.out S S2 _ Q1.out Q2.out q3 q4 T9)
                    clear T9 q3 q4
                    go_wp2
                    go_end0
                    exact ⟨rfl, hfin.out⟩
                · obtain ⟨S2, q3, q4, T9⟩ := F3n.out S _ q1 T2 t3
                  have hfin := Lib.hid (FIN.out S S2 _ q1 q2 q3 q4 T9)
                  clear T9 q3 q4 T2 q1 q2
                  by_cases t4 : mid < ed
                  · have x1 : (mid : Int) < (ed : Int) := by omega
                    have x2 : ¬ (ed : Int) < (b : Int) := by omega
                    go_wp2
                    all_goals
                      go_end0
                      exact ⟨rfl, hfin.out⟩
                  · have x1 : ¬ (mid : Int) < (ed : Int) := by omega
                    go_wp2
                    all_goals
                      go_end0
                      exact ⟨rfl, hfin.out⟩
              · have x1 : ¬ (a : Int) < (p : Int) := by omega
                obtain ⟨S, q1, q2, T2⟩ := hst
                by_cases t3 : mid < ed ∧ ed < b
                · have x1 : (mid : Int) < (ed : Int) := by have := t3; omega
                  have x2 : (ed : Int) < (b : Int) := by have := t3; omega
                  have hC := Lib.hid (F3.out S _ q1 T2 t3)
                  have Q1 := Lib.hid q1
                  have Q2 := Lib.hid q2
                  clear T2 q1 q2
                  go_wp2_with fail
                  all_goals
                    (with_reducible refine hC.out.mono ?_)
                    rintro e w9 ⟨rfl, S2, q3, q4, T9⟩
                    have hfin := Lib.hid (FIN.out S S2 _ Q1.out Q2.out q3 q4 T9)
                    clear T9 q3 q4
                    go_wp2
                    go_end0
                    exact ⟨rfl, hfin.out⟩
                · obtain ⟨S2, q3, q4, T9⟩ := F3n.out S _ q1 T2 t3
                  have hfin := Lib.hid (FIN.out S S2 _ q1 q2 q3 q4 T9)
                  clear T9 q3 q4 T2 q1 q2
                  by_cases t4 : mid < ed
                  · have x1 : (mid : Int) < (ed : Int) := by omega
                    have x2 : ¬ (ed : Int) < (b : Int) := by omega
                    go_wp2
                    all_goals
                      go_end0
                      exact ⟨rfl, hfin.out⟩
                  · have x1 : ¬ (mid : Int) < (ed : Int) := by omega
                    go_wp2
                    all_goals
                      go_end0
                      exact ⟨rfl, hfin.out⟩
          · have y1 : ¬ (p : Int) < (m : Int) := by omega
            by_cases t2 : a < p ∧ p < mid
            · have x1 : (a : Int) < (p : Int) := by have := t2; omega
              have x2 : (p : Int) < (mid : Int) := by have := t2; omega
              have hC := Lib.hid (F2.out _ T1 t2)
              clear T1
              go_wp2_with fail
              (with_reducible refine hC.out.mono ?_)
              rintro e w9 ⟨rfl, hst⟩
              clear hC x1 x2
              obtain ⟨S, q1, q2, T2⟩ := hst
              by_cases t3 : mid < ed ∧ ed < b
              · have x1 : (mid : Int) < (ed : Int) := by have := t3; omega
                have x2 : (ed : Int) < (b : Int) := by have := t3; omega
                have hC := Lib.hid (F3.out S _ q1 T2 t3)
                have Q1 := Lib.hid q1
                have Q2 := Lib.hid q2
                clear T2 q1 q2
                go_wp2_with fail
                all_goals
                  (with_reducible refine hC.out.mono ?_)
                  rintro e w9 ⟨rfl, S2, q3, q4, T9⟩
                  have hfin := Lib.hid (FIN.out S S2 _ Q1.out Q2.out q3 q4 T9)
                  clear T9 q3 q4
                  go_wp2
                  go_end0
                  exact ⟨rfl, hfin.out⟩
              · obtain ⟨S2, q3, q4, T9⟩ := F3n.out S _ q1 T2 t3
                have hfin := Lib.hid (FIN.out S S2 _ q1 q2 q3 q4 T9)
                clear T9 q3 q4 T2 q1 q2
                by_cases t4 : mid < ed
                · have x1 : (mid : Int) < (ed : Int) := by omega
                  have x2 : ¬ (ed : Int) < (b : Int) := by omega
                  go_wp2
                  all_goals
                    go_end0
                    exact ⟨rfl, hfin.out⟩
                · have x1 : ¬ (mid : Int) < (ed : Int) := by omega
                  go_wp2
                  all_goals
                    go_end0
                    exact ⟨rfl, hfin.out⟩
            · have hst := F2n.out _ T1 t2
              clear T1
              by_cases t5 : a < p
              · have x1 : (a : Int) < (p : Int) := by omega
                have x2 : ¬ (p : Int) < (mid : Int) := by omega
                obtain ⟨S, q1, q2, T2⟩ := hst
                by_cases t3 : mid < ed ∧ ed < b
                · have x1 : (mid : Int) < (ed : Int) := by have := t3; omega
                  have x2 : (ed : Int) < (b : Int) := by have := t3; omega
                  have hC := Lib.hid (F3.out S _ q1 T2 t3)
                  have Q1 := Lib.hid q1
                  have Q2 := Lib.hid q2
                  clear T2 q1 q2
                  go_wp2_with fail
                  all_goals
                    (with_reducible refine hC.out.mono ?_)
                    rintro e w9 ⟨rfl, S2, q3, q4, T9⟩
                    have hfin := Lib.hid (FIN.out S S2 _ Q1.out Q2.out q3 q4 T9)
                    clear T9 q3 q4
                    go_wp2
                    go_end0
                    exact ⟨rfl, hfin.out⟩
                · obtain ⟨S2, q3, q4, T9⟩ := F3n.out S _ q1 T2 t3
                  have hfin := Lib.hid (FIN.out S S2 _ q1 q2 q3 q4 T9)
                  clear T9 q3 q4 T2 q1 q2
                  by_cases t4 : mid < ed
                  · have x1 : (mid : Int) < (ed : Int) := by omega
                    have x2 : ¬ (ed : Int) < (b : Int) := by omega
                    go_wp2
                    all_goals
                      go_end0
                      exact ⟨rfl, hfin.out⟩
                  · have x1 : ¬ (mid : Int) < (ed : Int) := by omega
                    go_wp2
                    all_goals
                      go_end0
                      exact ⟨rfl, hfin.out⟩
              · have x1 : ¬ (a : Int) < (p : Int) := by omega
                obtain ⟨S, q1, q2, T2⟩ := hst
                by_cases t3 : mid < ed ∧ ed < b
                · have x1 : (mid : Int) < (ed : Int) := by have := t3; omega
                  have x2 : (ed : Int) < (b : Int) := by have := t3; omega
                  have hC := Lib.hid (F3.out S _ q1 T2 t3)
                  have Q1 := Lib.hid q1
                  have Q2 := Lib.hid q2
                  clear T2 q1 q2
                  go_wp2_with fail
                  all_goals
                    (with_reducible refine hC.out.mono ?_)
                    rintro e w9 ⟨rfl, S2, q3, q4, T9⟩
                    have hfin := Lib.hid (FIN.out S S2 _ Q1.out Q2.out q3 q4 T9)
                    clear T9 q3 q4
                    go_wp2
                    go_end0
                    exact ⟨rfl, hfin.out⟩
                · obtain ⟨S2, q3, q4, T9⟩ := F3n.out S _ q1 T2 t3
                  have hfin := Lib.hid (FIN.out S S2 _ q1 q2 q3 q4 T9)
                  clear T9 q3 q4 T2 q1 q2
                  by_cases t4 : mid < ed
                  · have x1 : (mid : Int) < (ed : Int) := by omega
                    have x2 : ¬ (ed : Int) < (b : Int) := by omega
                    go_wp2
                    all_goals
                      go_end0
                      exact ⟨rfl, hfin.out⟩
                  · have x1 : ¬ (mid : Int) < (ed : Int) := by omega
                    go_wp2
                    all_goals
                      go_end0
                      exact ⟨rfl, hfin.out⟩
  · have d1 : decide ((m : Int) > (mid : Int)) = false := by simp; omega
    have d2 : decide (mid < m) = false := by simp; omega
    have d3 : ¬ (mid : Int) < (m : Int) := by omega
    have e4 : 0 ≤ mid := by omega
    have k4 : r0 ≤ m ∧ m ≤ r0 ∧ s0 ≤ a ∧ a ≤ s0 := by omega
    clear k3 k2
    go_enter Try.func64, Try.ntmps64
    go_wp2
    clear e0 e1 e2 e3 e4 e5 d1 d2 d3
    go_loopw [20, 21] (fun i j wr => ∃ p q : Nat, s0 ≤ p ∧ p ≤ q ∧ q ≤ r0 ∧ i = .int .i64 (p : Int) ∧ j = .int .i64 (q : Int) ∧ (p = s0 ∨ k (d.getD (p - 1) 0) ≤ k (d.getD (mid + m - p) 0)) ∧ (q = r0 ∨ k (d.getD (mid + m - 1 - q) 0) < k (d.getD q 0)) ∧ Turned w wr g 83 (ptrs N d ++ rest)) (fun i j _ => (intOf j).toNat - (intOf i).toNat)
    case atStart => exact ⟨a, m, by omega, by omega, by omega, rfl, rfl, .inl (by omega), .inl (by omega), HT.out⟩
    case round =>
      obtain ⟨p, q, hp, hpq, hq, rfl, rfl, g1, g2, gt⟩ := hrel
      clear HT
      by_cases hlt : p < q
      · have d1 : (p : Int) < (q : Int) := by omega
        obtain ⟨c, hc⟩ : ∃ c, (p + q) / 2 = c := ⟨_, rfl⟩
        have e1 : ((p : Int) + (q : Int)) / 2 = (c : Int) := by omega
        obtain ⟨k5, k6, k7⟩ := H2.out.search (c := c) HMID.out.symm HSR.out (by omega) (by omega)
        obtain ⟨f, hf⟩ : ∃ f, mid + m - 1 - c = f := ⟨_, rfl⟩
        have HF := Lib.hid hf
        rw [hf] at k7
        obtain ⟨bx, bz, c1, c2, hC⟩ := gt.two HR.out HN.out HPM.out (i := f) (j := c) (by rw [HLEN.out]; exact k7) (by rw [HLEN.out]; exact k5)
        have e2 : (pp : Int) - (c : Int) = (f : Int) := by omega
        have hcb : p ≤ c ∧ c < q := by omega
        have i7 : (0 : Int) ≤ (p : Int) + (q : Int) := by omega
        have i8 : (p : Int) + (q : Int) ≤ 2000000 := by omega
        have i9 : (c : Int) < (len : Int) := by omega
        have i10 : (f : Int) < (len : Int) := by omega
        have i11 : (c : Int) ≤ (pp : Int) := by omega
        have w1 : IntKind.i64.wrap (f : Int) = (f : Int) := IntWalk.i64_in _ (by omega)
        have w2 : IntKind.i64.wrap ((pp : Int) - (c : Int)) = (f : Int) := by rw [e2]; exact w1
        have G1 := Lib.hid g1
        have G2 := Lib.hid g2
        have e3 : mid + m - (c + 1) = f := by omega
        have E3 := Lib.hid e3
        clear g1 g2 hc hf e3
        by_cases hk : k (d.getD f 0) < k (d.getD c 0)
        · have hlt0 : cmpN (k (d.getD f 0)) (k (d.getD c 0)) < 0 := cmpN_lt.2 hk
          generalize cmpN (k (d.getD f 0)) (k (d.getD c 0)) = cv at *
          have dk : decide (cv < 0) = true := decide_eq_true hlt0
          have HC := Lib.hid hC
          have HK := Lib.hid hk
          clear hC hk hlt0
          go_wp2_with fail
          go_quiet ((go_at_call 58; exact Calls.quiet_of (HC.out _)))
          have T := gt.drewN nq
          clear c1 c2 HC gt dk
          generalize World.drewN wr nq = w3 at *
          go_wp2
          go_roundw
          case rel => exact ⟨p, c, by omega, by omega, by omega, rfl, rfl, G1.out, .inr (by rw [HF.out]; exact HK.out), T⟩
          case measure => (simp [intOf]; try omega)
        · have hlt0 : ¬ cmpN (k (d.getD f 0)) (k (d.getD c 0)) < 0 := fun h => hk (cmpN_lt.1 h)
          generalize cmpN (k (d.getD f 0)) (k (d.getD c 0)) = cv at *
          have dk : decide (cv < 0) = false := decide_eq_false hlt0
          have HC := Lib.hid hC
          have HK := Lib.hid hk
          clear hC hk
          go_wp2_with fail
          go_quiet ((go_at_call 58; exact Calls.quiet_of (HC.out _)))
          have T := gt.drewN nq
          clear c1 c2 HC gt dk
          generalize World.drewN wr nq = w3 at *
          go_wp2
          go_roundw
          case rel => exact ⟨c + 1, q, by omega, by omega, by omega, by first | rfl | go_num, rfl, .inr (by rw [E3.out, Nat.add_sub_cancel]; have := HK.out; omega), G2.out, T⟩
          case measure => (simp [intOf]; try omega)
      · obtain rfl : p = q := by omega
        have cut := H2.out.cut HMID.out.symm HSR.out hp hq (by rw [HD.out]; exact g1) (by rw [HD.out]; exact g2)
        obtain ⟨pd, pl1, pl2, pl3, pl4⟩ := cut.parts H2.out HMID.out.symm
        obtain ⟨c1, c2, c3, c4, _, _⟩ := id cut
        have hdone := fun S1 S2 => cut.done H2.out (S1 := S1) (S2 := S2)
        have sL1 := srt_take H2.out.sL (p - a)
        have sL2 := srt_drop H2.out.sL (p - a)
        have sR1 := srt_take H2.out.sR (mid - p)
        have sR2 := srt_drop H2.out.sR (mid - p)
        have mL1 : ∀ l ∈ L.take (p - a), l ∈ L := fun l h => List.mem_of_mem_take h
        have mL2 : ∀ l ∈ L.drop (p - a), l ∈ L := fun l h => List.mem_of_mem_drop h
        have mR1 : ∀ l ∈ R.take (mid - p), l ∈ R := fun l h => List.mem_of_mem_take h
        have mR2 : ∀ l ∈ R.drop (mid - p), l ∈ R := fun l h => List.mem_of_mem_drop h
        have hLL : (L.take (p - a)).length + (L.drop (p - a)).length = L.length := by simp; omega
        have hRR : (R.take (mid - p)).length + (R.drop (mid - p)).length = R.length := by simp; omega
        generalize L.take (p - a) = L1 at *
        generalize L.drop (p - a) = L2 at *
        generalize R.take (mid - p) = R1 at *
        generalize R.drop (mid - p) = R2 at *
        rw [HD.out] at pd
        obtain ⟨ed, hed⟩ : ∃ ed, mid + m - p = ed := ⟨_, rfl⟩
        have e2 : (nm : Int) - (p : Int) = (ed : Int) := by omega
        have i12 : (p : Int) ≤ (nm : Int) := by omega
        have hxa := H2.out.ha
        have hdl := HLEN.out
        have hpm1 : (x ++ (L1 ++ (R1 ++ (L2 ++ (R2 ++ y))))).Perm I := by
          refine List.Perm.trans ?_ HPM.out
          rw [pd]
          refine List.Perm.append_left _ ?_
          exact perm_mid L1 R1 L2 (R2 ++ y)
        have hnn := HNN.out
        clear g1 g2 cut e2
        have e2 : (nm : Int) - (p : Int) = (ed : Int) := by omega
        have HDONE := Lib.hid hdone
        clear hdone
        -- step one: turned round, or not
        have F1 : (p < m ∧ m < ed → Calls Try.prog 65 #[.slice (some ⟨g, 0, none⟩) len cap, .int .i64 (p : Int), .int .i64 (m : Int), .int .i64 (ed : Int), fcmp] wr fun e w' => e = .returned (.tuple #[]) ∧ Turned w w' g 83 (ptrs N (x ++ (L1 ++ (R1 ++ (L2 ++ (R2 ++ y))))) ++ rest)) := fun h => by
          have e0 : x ++ (L1 ++ (L2 ++ (R1 ++ (R2 ++ y)))) = (x ++ L1) ++ (L2 ++ (R1 ++ (R2 ++ y))) := by simp
          have T := gt
          rw [pd, e0] at T
          have hdl2 := hdl
          rw [pd, e0] at hdl2
          refine (z_rot g cap len p m ed N (x ++ L1) L2 R1 (R2 ++ y) rest fcmp wr hdl2 (by rw [List.length_append]; omega) (by omega) (by omega) (by omega) (by omega) T.2 hl).mono fun e w' ⟨he, ht⟩ => ⟨he, ?_⟩
          have ht2 := T.trans ht
          simpa using ht2
        have F1n : ¬ (p < m ∧ m < ed) → Turned w wr g 83 (ptrs N (x ++ (L1 ++ (R1 ++ (L2 ++ (R2 ++ y))))) ++ rest) := fun h => by
          have e0 : x ++ (L1 ++ (R1 ++ (L2 ++ (R2 ++ y)))) = d := by
            rw [pd]
            by_cases z : L2.length = 0
            · rw [List.eq_nil_of_length_eq_zero z]; rfl
            · rw [List.eq_nil_of_length_eq_zero (show R1.length = 0 by omega)]; rfl
          rw [e0]; exact gt
        -- step two: the lower part
        have F2 : ∀ w1, Turned w w1 g 83 (ptrs N (x ++ (L1 ++ (R1 ++ (L2 ++ (R2 ++ y))))) ++ rest) → a < p ∧ p < mid → Calls Try.prog 64 #[.slice (some ⟨g, 0, none⟩) len cap, .int .i64 (a : Int), .int .i64 (p : Int), .int .i64 (mid : Int), fcmp] w1 fun e w' => e = .returned (.tuple #[]) ∧ ∃ S, S.Perm (L1 ++ R1) ∧ Srt k S ∧ Turned w w' g 83 (ptrs N (x ++ (S ++ (L2 ++ (R2 ++ y)))) ++ rest) := fun w1 T h =>
          mrg_part IH.out H2.out HN.out HR.out mL1 mR1 sL1 sR1 hxa (by omega) (by omega) (by omega) (by omega) (by omega) hpm1 T
        have F2n : ∀ w1, Turned w w1 g 83 (ptrs N (x ++ (L1 ++ (R1 ++ (L2 ++ (R2 ++ y))))) ++ rest) → ¬ (a < p ∧ p < mid) → ∃ S, S.Perm (L1 ++ R1) ∧ Srt k S ∧ Turned w w1 g 83 (ptrs N (x ++ (S ++ (L2 ++ (R2 ++ y)))) ++ rest) := fun w1 T h =>
          ⟨L1 ++ R1, List.Perm.refl _, srt_app sL1 sR1 (by omega), by rw [List.append_assoc]; exact T⟩
        -- step three: the upper part
        have F3 : ∀ S w1, S.Perm (L1 ++ R1) → Turned w w1 g 83 (ptrs N (x ++ (S ++ (L2 ++ (R2 ++ y)))) ++ rest) → mid < ed ∧ ed < b → Calls Try.prog 64 #[.slice (some ⟨g, 0, none⟩) len cap, .int .i64 (mid : Int), .int .i64 (ed : Int), .int .i64 (b : Int), fcmp] w1 fun e w' => e = .returned (.tuple #[]) ∧ ∃ S2, S2.Perm (L2 ++ R2) ∧ Srt k S2 ∧ Turned w w' g 83 (ptrs N ((x ++ S) ++ (S2 ++ y)) ++ rest) := fun S w1 hS T h => by
          have e0 : x ++ (S ++ (L2 ++ (R2 ++ y))) = (x ++ S) ++ (L2 ++ (R2 ++ y)) := by simp
          rw [e0] at T
          have hSl := hS.length_eq
          rw [List.length_append] at hSl
          refine mrg_part IH.out H2.out HN.out HR.out mL2 mR2 sL2 sR2 (by rw [List.length_append]; omega) (by omega) (by omega) (by omega) (by omega) (by omega) ?_ T
          refine List.Perm.trans ?_ hpm1
          rw [← e0, ← List.append_assoc L1]
          exact List.Perm.append_left _ (List.Perm.append_right _ hS)
        have F3n : ∀ S w1, S.Perm (L1 ++ R1) → Turned w w1 g 83 (ptrs N (x ++ (S ++ (L2 ++ (R2 ++ y)))) ++ rest) → ¬ (mid < ed ∧ ed < b) → ∃ S2, S2.Perm (L2 ++ R2) ∧ Srt k S2 ∧ Turned w w1 g 83 (ptrs N ((x ++ S) ++ (S2 ++ y)) ++ rest) := fun S w1 hS T h =>
          ⟨L2 ++ R2, List.Perm.refl _, srt_app sL2 sR2 (by omega), by rw [show (x ++ S) ++ ((L2 ++ R2) ++ y) = x ++ (S ++ (L2 ++ (R2 ++ y))) by simp]; exact T⟩
        have FIN : ∀ S S2 w1, S.Perm (L1 ++ R1) → Srt k S → S2.Perm (L2 ++ R2) → Srt k S2 → Turned w w1 g 83 (ptrs N ((x ++ S) ++ (S2 ++ y)) ++ rest) → ∃ S, S.Perm (L ++ R) ∧ Srt k S ∧ Turned w w1 g 83 (ptrs N (x ++ (S ++ y)) ++ rest) := fun S S2 w1 q1 q2 q3 q4 T => by
          obtain ⟨r1, r2⟩ := HDONE.out S S2 q1 q3 q2 q4
          exact ⟨S ++ S2, r1, r2, by simpa using T⟩
        unfold fcmp at F1 F2 F3
        have F1 := Lib.hid F1
        have F1n := Lib.hid F1n
        have F2 := Lib.hid F2
        have F2n := Lib.hid F2n
        have F3 := Lib.hid F3
        have F3n := Lib.hid F3n
        have FIN := Lib.hid FIN
        have j1 : (p : Int) ≤ 1000000 := by omega
        have j2 : (ed : Int) ≤ 1000000 := by omega
        clear pd pl1 pl2 pl3 pl4 sL1 sL2 sR1 sR2 mL1 mL2 mR1 mR2 hLL hRR hpm1 hnn gt hxa hdl hed HDONE
        by_cases t1 : p < m ∧ m < ed
        · have x1 : (p : Int) < (m : Int) := by have := t1; omega
          have x2 : (m : Int) < (ed : Int) := by have := t1; omega
          have hC := Lib.hid (F1.out t1)
          go_wp2_with fail
          (with_reducible refine hC.out.mono ?_)
          rintro e w9 ⟨rfl, T1⟩
          clear hC x1 x2
          by_cases t2 : a < p ∧ p < mid
          · have x1 : (a : Int) < (p : Int) := by have := t2; omega
            have x2 : (p : Int) < (mid : Int) := by have := t2; omega
            have hC := Lib.hid (F2.out _ T1 t2)
            clear T1
            go_wp2_with fail
            (with_reducible refine hC.out.mono ?_)
            rintro e w9 ⟨rfl, hst⟩
            clear hC x1 x2
            obtain ⟨S, q1, q2, T2⟩ := hst
            by_cases t3 : mid < ed ∧ ed < b
            · have x1 : (mid : Int) < (ed : Int) := by have := t3; omega
              have x2 : (ed : Int) < (b : Int) := by have := t3; omega
              have hC := Lib.hid (F3.out S _ q1 T2 t3)
              have Q1 := Lib.hid q1
              have Q2 := Lib.hid q2
              clear T2 q1 q2
              go_wp2_with fail
              all_goals
                (with_reducible refine hC.out.mono ?_)
                rintro e w9 ⟨rfl, S2, q3, q4, T9⟩
                have hfin := Lib.hid (FIN.out S S2 _ Q1.out Q2.out q3 q4 T9)
                clear T9 q3 q4
                go_wp2
                go_end0
                exact ⟨rfl, hfin.out⟩
            · obtain ⟨S2, q3, q4, T9⟩ := F3n.out S _ q1 T2 t3
              have hfin := Lib.hid (FIN.out S S2 _ q1 q2 q3 q4 T9)
              clear T9 q3 q4 T2 q1 q2
              by_cases t4 : mid < ed
              · have x1 : (mid : Int) < (ed : Int) := by omega
                have x2 : ¬ (ed : Int) < (b : Int) := by omega
                go_wp2
                all_goals
                  go_end0
                  exact ⟨rfl, hfin.out⟩
              · have x1 : ¬ (mid : Int) < (ed : Int) := by omega
                go_wp2
                all_goals
                  go_end0
                  exact ⟨rfl, hfin.out⟩
          · have hst := F2n.out _ T1 t2
            clear T1
            by_cases t5 : a < p
            · have x1 : (a : Int) < (p : Int) := by omega
              have x2 : ¬ (p : Int) < (mid : Int) := by omega
              obtain ⟨S, q1, q2, T2⟩ := hst
              by_cases t3 : mid < ed ∧ ed < b
              · have x1 : (mid : Int) < (ed : Int) := by have := t3; omega
                have x2 : (ed : Int) < (b : Int) := by have := t3; omega
                have hC := Lib.hid (F3.out S _ q1 T2 t3)
                have Q1 := Lib.hid q1
                have Q2 := Lib.hid q2
                clear T2 q1 q2
                go_wp2_with fail
                all_goals
                  (with_reducible refine hC.out.mono ?_)
                  rintro e w9 ⟨rfl, S2, q3, q4, T9⟩
                  have hfin := Lib.hid (FIN.out S S2 _ Q1.out Q2.out q3 q4 T9)
                  clear T9 q3 q4
                  go_wp2
                  go_end0
                  exact ⟨rfl, hfin.out⟩
              · obtain ⟨S2, q3, q4, T9⟩ := F3n.out S _ q1 T2 t3
                have hfin := Lib.hid (FIN.out S S2 _ q1 q2 q3 q4 T9)
                clear T9 q3 q4 T2 q1 q2
                by_cases t4 : mid < ed
                · have x1 : (mid : Int) < (ed : Int) := by omega
                  have x2 : ¬ (ed : Int) < (b : Int) := by omega
                  go_wp2
                  all_goals
                    go_end0
                    exact ⟨rfl, hfin.out⟩
                · have x1 : ¬ (mid : Int) < (ed : Int) := by omega
                  go_wp2
                  all_goals
                    go_end0
                    exact ⟨rfl, hfin.out⟩
            · have x1 : ¬ (a : Int) < (p : Int) := by omega
              obtain ⟨S, q1, q2, T2⟩ := hst
              by_cases t3 : mid < ed ∧ ed < b
              · have x1 : (mid : Int) < (ed : Int) := by have := t3; omega
                have x2 : (ed : Int) < (b : Int) := by have := t3; omega
                have hC := Lib.hid (F3.out S _ q1 T2 t3)
                have Q1 := Lib.hid q1
                have Q2 := Lib.hid q2
                clear T2 q1 q2
                go_wp2_with fail
                all_goals
                  (with_reducible refine hC.out.mono ?_)
                  rintro e w9 ⟨rfl, S2, q3, q4, T9⟩
                  have hfin := Lib.hid (FIN.out S S2 _ Q1.out Q2.out q3 q4 T9)
                  clear T9 q3 q4
                  go_wp2
                  go_end0
                  exact ⟨rfl, hfin.out⟩
              · obtain ⟨S2, q3, q4, T9⟩ := F3n.out S _ q1 T2 t3
                have hfin := Lib.hid (FIN.out S S2 _ q1 q2 q3 q4 T9)
                clear T9 q3 q4 T2 q1 q2
                by_cases t4 : mid < ed
                · have x1 : (mid : Int) < (ed : Int) := by omega
                  have x2 : ¬ (ed : Int) < (b : Int) := by omega
                  go_wp2
                  all_goals
                    go_end0
                    exact ⟨rfl, hfin.out⟩
                · have x1 : ¬ (mid : Int) < (ed : Int) := by omega
                  go_wp2
                  all_goals
                    go_end0
                    exact ⟨rfl, hfin.out⟩
        · have T1 := F1n.out t1
          by_cases t0 : p < m
          · have y1 : (p : Int) < (m : Int) := by omega
            have y2 : ¬ (m : Int) < (ed : Int) := by omega
            by_cases t2 : a < p ∧ p < mid
            · have x1 : (a : Int) < (p : Int) := by have := t2; omega
              have x2 : (p : Int) < (mid : Int) := by have := t2; omega
              have hC := Lib.hid (F2.out _ T1 t2)
              clear T1
              go_wp2_with fail
              (with_reducible refine hC.out.mono ?_)
              rintro e w9 ⟨rfl, hst⟩
              clear hC x1 x2
              obtain ⟨S, q1, q2, T2⟩ := hst
              by_cases t3 : mid < ed ∧ ed < b
              · have x1 : (mid : Int) < (ed : Int) := by have := t3; omega
                have x2 : (ed : Int) < (b : Int) := by have := t3; omega
                have hC := Lib.hid (F3.out S _ q1 T2 t3)
                have Q1 := Lib.hid q1
                have Q2 := Lib.hid q2
                clear T2 q1 q2
                go_wp2_with fail
                all_goals
                  (with_reducible refine hC.out.mono ?_)
                  rintro e w9 ⟨rfl, S2, q3, q4, T9⟩
                  have hfin := Lib.hid (FIN.out S S2 _ Q1.out Q2.out q3 q4 T9)
                  clear T9 q3 q4
                  go_wp2
                  go_end0
                  exact ⟨rfl, hfin.out⟩
              · obtain ⟨S2, q3, q4, T9⟩ := F3n.out S _ q1 T2 t3
                have hfin := Lib.hid (FIN.out S S2 _ q1 q2 q3 q4 T9)
                clear T9 q3 q4 T2 q1 q2
                by_cases t4 : mid < ed
                · have x1 : (mid : Int) < (ed : Int) := by omega
                  have x2 : ¬ (ed : Int) < (b : Int) := by omega
                  go_wp2
                  all_goals
                    go_end0
                    exact ⟨rfl, hfin.out⟩
                · have x1 : ¬ (mid : Int) < (ed : Int) := by omega
                  go_wp2
                  all_goals
                    go_end0
                    exact ⟨rfl, hfin.out⟩
            · have hst := F2n.out _ T1 t2
              clear T1
              by_cases t5 : a < p
              · have x1 : (a : Int) < (p : Int) := by omega
                have x2 : ¬ (p : Int) < (mid : Int) := by omega
                obtain ⟨S, q1, q2, T2⟩ := hst
                by_cases t3 : mid < ed ∧ ed < b
                · have x1 : (mid : Int) < (ed : Int) := by have := t3; omega
                  have x2 : (ed : Int) < (b : Int) := by have := t3; omega
                  have hC := Lib.hid (F3.out S _ q1 T2 t3)
                  have Q1 := Lib.hid q1
                  have Q2 := Lib.hid q2
                  clear T2 q1 q2
                  go_wp2_with fail
                  all_goals
                    (with_reducible refine hC.out.mono ?_)
                    rintro e w9 ⟨rfl, S2, q3, q4, T9⟩
                    have hfin := Lib.hid (FIN.out S S2 _ Q1.out Q2.out q3 q4 T9)
                    clear T9 q3 q4
                    go_wp2
                    go_end0
                    exact ⟨rfl, hfin.out⟩
                · obtain ⟨S2, q3, q4, T9⟩ := F3n.out S _ q1 T2 t3
                  have hfin := Lib.hid (FIN.out S S2 _ q1 q2 q3 q4 T9)
                  clear T9 q3 q4 T2 q1 q2
                  by_cases t4 : mid < ed
                  · have x1 : (mid : Int) < (ed : Int) := by omega
                    have x2 : ¬ (ed : Int) < (b : Int) := by omega
                    go_wp2
                    all_goals
                      go_end0
                      exact ⟨rfl, hfin.out⟩
                  · have x1 : ¬ (mid : Int) < (ed : Int) := by omega
                    go_wp2
                    all_goals
                      go_end0
                      exact ⟨rfl, hfin.out⟩
              · have x1 : ¬ (a : Int) < (p : Int) := by omega
                obtain ⟨S, q1, q2, T2⟩ := hst
                by_cases t3 : mid < ed ∧ ed < b
                · have x1 : (mid : Int) < (ed : Int) := by have := t3; omega
                  have x2 : (ed : Int) < (b : Int) := by have := t3; omega
                  have hC := Lib.hid (F3.out S _ q1 T2 t3)
                  have Q1 := Lib.hid q1
                  have Q2 := Lib.hid q2
                  clear T2 q1 q2
                  go_wp2_with fail
                  all_goals
                    (with_reducible refine hC.out.mono ?_)
                    rintro e w9 ⟨rfl, S2, q3, q4, T9⟩
                    have hfin := Lib.hid (FIN.out S S2 _ Q1.out Q2.out q3 q4 T9)
                    clear T9 q3 q4
                    go_wp2
                    go_end0
                    exact ⟨rfl, hfin.out⟩
                · obtain ⟨S2, q3, q4, T9⟩ := F3n.out S _ q1 T2 t3
                  have hfin := Lib.hid (FIN.out S S2 _ q1 q2 q3 q4 T9)
                  clear T9 q3 q4 T2 q1 q2
                  by_cases t4 : mid < ed
                  · have x1 : (mid : Int) < (ed : Int) := by omega
                    have x2 : ¬ (ed : Int) < (b : Int) := by omega
                    go_wp2
                    all_goals
                      go_end0
                      exact ⟨rfl, hfin.out⟩
                  · have x1 : ¬ (mid : Int) < (ed : Int) := by omega
                    go_wp2
                    all_goals
                      go_end0
                      exact ⟨rfl, hfin.out⟩
          · have y1 : ¬ (p : Int) < (m : Int) := by omega
            by_cases t2 : a < p ∧ p < mid
            · have x1 : (a : Int) < (p : Int) := by have := t2; omega
              have x2 : (p : Int) < (mid : Int) := by have := t2; omega
              have hC := Lib.hid (F2.out _ T1 t2)
              clear T1
              go_wp2_with fail
              (with_reducible refine hC.out.mono ?_)
              rintro e w9 ⟨rfl, hst⟩
              clear hC x1 x2
              obtain ⟨S, q1, q2, T2⟩ := hst
              by_cases t3 : mid < ed ∧ ed < b
              · have x1 : (mid : Int) < (ed : Int) := by have := t3; omega
                have x2 : (ed : Int) < (b : Int) := by have := t3; omega
                have hC := Lib.hid (F3.out S _ q1 T2 t3)
                have Q1 := Lib.hid q1
                have Q2 := Lib.hid q2
                clear T2 q1 q2
                go_wp2_with fail
                all_goals
                  (with_reducible refine hC.out.mono ?_)
                  rintro e w9 ⟨rfl, S2, q3, q4, T9⟩
                  have hfin := Lib.hid (FIN.out S S2 _ Q1.out Q2.out q3 q4 T9)
                  clear T9 q3 q4
                  go_wp2
                  go_end0
                  exact ⟨rfl, hfin.out⟩
              · obtain ⟨S2, q3, q4, T9⟩ := F3n.out S _ q1 T2 t3
                have hfin := Lib.hid (FIN.out S S2 _ q1 q2 q3 q4 T9)
                clear T9 q3 q4 T2 q1 q2
                by_cases t4 : mid < ed
                · have x1 : (mid : Int) < (ed : Int) := by omega
                  have x2 : ¬ (ed : Int) < (b : Int) := by omega
                  go_wp2
                  all_goals
                    go_end0
                    exact ⟨rfl, hfin.out⟩
                · have x1 : ¬ (mid : Int) < (ed : Int) := by omega
                  go_wp2
                  all_goals
                    go_end0
                    exact ⟨rfl, hfin.out⟩
            · have hst := F2n.out _ T1 t2
              clear T1
              by_cases t5 : a < p
              · have x1 : (a : Int) < (p : Int) := by omega
                have x2 : ¬ (p : Int) < (mid : Int) := by omega
                obtain ⟨S, q1, q2, T2⟩ := hst
                by_cases t3 : mid < ed ∧ ed < b
                · have x1 : (mid : Int) < (ed : Int) := by have := t3; omega
                  have x2 : (ed : Int) < (b : Int) := by have := t3; omega
                  have hC := Lib.hid (F3.out S _ q1 T2 t3)
                  have Q1 := Lib.hid q1
                  have Q2 := Lib.hid q2
                  clear T2 q1 q2
                  go_wp2_with fail
                  all_goals
                    (with_reducible refine hC.out.mono ?_)
                    rintro e w9 ⟨rfl, S2, q3, q4, T9⟩
                    have hfin := Lib.hid (FIN.out S S2 _ Q1.out Q2.out q3 q4 T9)
                    clear T9 q3 q4
                    go_wp2
                    go_end0
                    exact ⟨rfl, hfin.out⟩
                · obtain ⟨S2, q3, q4, T9⟩ := F3n.out S _ q1 T2 t3
                  have hfin := Lib.hid (FIN.out S S2 _ q1 q2 q3 q4 T9)
                  clear T9 q3 q4 T2 q1 q2
                  by_cases t4 : mid < ed
                  · have x1 : (mid : Int) < (ed : Int) := by omega
                    have x2 : ¬ (ed : Int) < (b : Int) := by omega
                    go_wp2
                    all_goals
                      go_end0
                      exact ⟨rfl, hfin.out⟩
                  · have x1 : ¬ (mid : Int) < (ed : Int) := by omega
                    go_wp2
                    all_goals
                      go_end0
                      exact ⟨rfl, hfin.out⟩
              · have x1 : ¬ (a : Int) < (p : Int) := by omega
                obtain ⟨S, q1, q2, T2⟩ := hst
                by_cases t3 : mid < ed ∧ ed < b
                · have x1 : (mid : Int) < (ed : Int) := by have := t3; omega
                  have x2 : (ed : Int) < (b : Int) := by have := t3; omega
                  have hC := Lib.hid (F3.out S _ q1 T2 t3)
                  have Q1 := Lib.hid q1
                  have Q2 := Lib.hid q2
                  clear T2 q1 q2
                  go_wp2_with fail
                  all_goals
                    (with_reducible refine hC.out.mono ?_)
                    rintro e w9 ⟨rfl, S2, q3, q4, T9⟩
                    have hfin := Lib.hid (FIN.out S S2 _ Q1.out Q2.out q3 q4 T9)
                    clear T9 q3 q4
                    go_wp2
                    go_end0
                    exact ⟨rfl, hfin.out⟩
                · obtain ⟨S2, q3, q4, T9⟩ := F3n.out S _ q1 T2 t3
                  have hfin := Lib.hid (FIN.out S S2 _ q1 q2 q3 q4 T9)
                  clear T9 q3 q4 T2 q1 q2
                  by_cases t4 : mid < ed
                  · have x1 : (mid : Int) < (ed : Int) := by omega
                    have x2 : ¬ (ed : Int) < (b : Int) := by omega
                    go_wp2
                    all_goals
                      go_end0
                      exact ⟨rfl, hfin.out⟩
                  · have x1 : ¬ (mid : Int) < (ed : Int) := by omega
                    go_wp2
                    all_goals
                      go_end0
                      exact ⟨rfl, hfin.out⟩
end Go.Proofs.Ytpjdlkbpnodcdaa
