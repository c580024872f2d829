/- Walk of the sort's merge, of more than one on either side. -/
import Derived.Test.YtpjihjbgihionaaPA
namespace Go.Proofs.Ytpjihjbgihionaa
open Go.RowKit
set_option linter.unusedVariables false

/-- what is said of a merge -/
def MrgSaid (g cap len : Nat) (N k : Nat → Nat) (I rest_ : List Nat) (rest : List Value) (n : Nat) : Prop := ∀ (a m b : Nat) (x L R y : List Nat) (w : World), L.length + R.length ≤ n → Two k I x L R y a m b len → Blk w g 131 (ptrs N (x ++ (L ++ (R ++ y))) ++ rest) → Nds w N k I →
    Calls Try.prog 101 #[.slice (some ⟨g, 0, none⟩) len cap, .int .i64 (a : Int), .int .i64 (m : Int), .int .i64 (b : Int), fcmp] w fun e w' => e = .returned (.tuple #[]) ∧ ∃ S, S.Perm (L ++ R) ∧ Srt k S ∧ Turned w w' g 131 (ptrs N (x ++ (S ++ y)) ++ rest)
/-- the merge of one part, which may be nothing to do: L and R are one row -/
theorem part_two {k : Nat → Nat} {I x L R y : List Nat} {a m b len : Nat} {L' R' x' y' : List Nat} {a' m' b' : Nat} (hl : ∀ l ∈ L', l ∈ L) (hr : ∀ r ∈ R', r ∈ R) (h : Two k I x L R y a m b len) (sL : Srt k L') (sR : Srt k R') (ha : x'.length = a') (hm : a' + L'.length = m') (hb : m' + R'.length = b') (h0 : 0 < L'.length) (h1 : 0 < R'.length)
    (hp : (x' ++ (L' ++ (R' ++ y'))).Perm I) : Two k I x' L' R' y' a' m' b' len :=
  ⟨ha, hm, hb, h0, h1, sL, sR, fun l hl' r hr' => h.lr l (hl l hl') r (hr r hr'), hp, by rw [hp.length_eq, ← h.perm.length_eq]; exact h.hl⟩
/-- one of the two parts is merged -/
theorem mrg_part {g cap len n : Nat} {N k : Nat → Nat} {I x L R y : List Nat} {rest vs : List Value} {a m b : Nat} {w w1 : World} (IH : MrgSaid g cap len N k I [] rest n) (h2 : Two k I x L R y a m b len) (hN : Nds w N k I) (hR : Blk w g 131 vs)
    {L' R' x' y' : List Nat} {a' m' b' : Nat} (hl : ∀ l ∈ L', l ∈ L) (hr : ∀ r ∈ R', r ∈ R) (sL : Srt k L') (sR : Srt k R') (ha : x'.length = a') (hm : a' + L'.length = m') (hb : m' + R'.length = b') (h0 : 0 < L'.length) (h1 : 0 < R'.length) (hn : L'.length + R'.length ≤ n)
    (hp : (x' ++ (L' ++ (R' ++ y'))).Perm I) (T : Turned w w1 g 131 (ptrs N (x' ++ (L' ++ (R' ++ y'))) ++ rest)) :
    Calls Try.prog 101 #[.slice (some ⟨g, 0, none⟩) len cap, .int .i64 (a' : Int), .int .i64 (m' : Int), .int .i64 (b' : Int), fcmp] w1 fun e w' => e = .returned (.tuple #[]) ∧ ∃ S, S.Perm (L' ++ R') ∧ Srt k S ∧ Turned w w' g 131 (ptrs N (x' ++ (S ++ y')) ++ rest) :=
  (IH a' m' b' x' L' R' y' w1 hn (part_two hl hr h2 sL sR ha hm hb h0 h1 hp) T.2 (hN.turned T hR)).mono fun e w' ⟨he, S, q1, q2, q3⟩ => ⟨he, S, q1, q2, T.trans q3⟩
theorem perm_mid (x u v z : List Nat) : (x ++ (u ++ (v ++ z))).Perm (x ++ (v ++ (u ++ z))) := by
  refine List.Perm.append_left _ ?_
  rw [← List.append_assoc, ← List.append_assoc]
  exact List.Perm.append_right _ List.perm_append_comm
set_option maxRecDepth 100000 in
set_option maxHeartbeats 8000000 in
theorem z_mrg3 (g cap len a m b n : Nat) (N k : Nat → Nat) (I x L R y : List Nat) (rest : List Value) (w : World) (ih : MrgSaid g cap len N k I [] rest n) (hn : L.length + R.length ≤ n + 1) (h2 : Two k I x L R y a m b len) (h0 : L.length ≠ 1) (h1 : R.length ≠ 1) (hR : Blk w g 131 (ptrs N (x ++ (L ++ (R ++ y))) ++ rest)) (hN : Nds w N k I) (hl : len ≤ 1000000) :
    Calls Try.prog 101 #[.slice (some ⟨g, 0, none⟩) len cap, .int .i64 (a : Int), .int .i64 (m : Int), .int .i64 (b : Int), fcmp] w fun e w' => e = .returned (.tuple #[]) ∧ ∃ S, S.Perm (L ++ R) ∧ Srt k S ∧ Turned w w' g 131 (ptrs N (x ++ (S ++ y)) ++ rest) := by
  have IH := Lib.hid ih
  clear ih
  unfold fcmp
  obtain ⟨b1, b2, b3⟩ := h2.bound
  have hT := Turned.refl hR
  obtain ⟨d, hd⟩ : ∃ d, x ++ (L ++ (R ++ y)) = d := ⟨_, rfl⟩
  have hlen : d.length = len := by rw [← hd]; exact h2.hl
  have hpm : d.Perm I := by rw [← hd]; exact h2.perm
  obtain ⟨mid, hmid⟩ : ∃ mid, (a + b) / 2 = mid := ⟨_, rfl⟩
  obtain ⟨s0, r0, hsr⟩ : ∃ s0 r0, (mid < m ∧ s0 = mid + m - b ∧ r0 = mid) ∨ (m ≤ mid ∧ s0 = a ∧ r0 = m) := by
    by_cases h : mid < m
    · exact ⟨_, _, .inl ⟨h, rfl, rfl⟩⟩
    · exact ⟨_, _, .inr ⟨by omega, rfl, rfl⟩⟩
  have hma : m ≠ a + 1 := by have := h2.hm; omega
  have hmb : b ≠ m + 1 := by have := h2.hb; omega
  rw [hd] at hT hR
  have hs0 : s0 ≤ r0 := by omega
  have H2 := Lib.hid h2
  have HD := Lib.hid hd
  have HT := Lib.hid hT
  have HR := Lib.hid hR
  have HN := Lib.hid hN
  have HLEN := Lib.hid hlen
  have HPM := Lib.hid hpm
  have HMID := Lib.hid hmid
  have HSR := Lib.hid hsr
  have HNN := Lib.hid hn
  have e0 : ((m : Int) - (a : Int) == 1) = false := by rw [beq_eq_false_iff_ne]; omega
  have e1 : ((b : Int) - (m : Int) == 1) = false := by rw [beq_eq_false_iff_ne]; omega
  have e2 : ((a : Int) + (b : Int)) / 2 = (mid : Int) := by omega
  have i1 : (b : Int) ≤ 1000000 := by omega
  have i2 : (a : Int) < (m : Int) := by omega
  have i3 : (m : Int) < (b : Int) := by omega
  have i4 : (0 : Int) ≤ (a : Int) + (b : Int) := by omega
  have i5 : (a : Int) + (b : Int) ≤ 2000000 := by omega
  have i6 : (mid : Int) ≤ 1000000 := by omega
  clear h2 h0 h1 hd hT hR hN hlen hpm hma hmb hmid
  have k8 : a < mid ∧ mid < b := by have := HMID.out; omega
  obtain ⟨nm, hnm⟩ : ∃ nm, mid + m = nm := ⟨_, rfl⟩
  obtain ⟨pp, hpp⟩ : ∃ pp, mid + m - 1 = pp := ⟨_, rfl⟩
  have e3 : (mid : Int) + (m : Int) = (nm : Int) := by omega
  have e5 : (nm : Int) - 1 = (pp : Int) := by omega
  have i7 : (nm : Int) ≤ 2000000 := by omega
  rcases hsr with ⟨k1, k2, k3⟩ | ⟨k1, k2, k3⟩
  · have d1 : decide ((m : Int) > (mid : Int)) = true := by simp; omega
    have d2 : decide (mid < m) = true := by simp; omega
    have d3 : (mid : Int) < (m : Int) := by omega
    have e4 : (nm : Int) - (b : Int) = (s0 : Int) := by omega
    have k4 : r0 ≤ mid ∧ mid ≤ r0 := by omega
    clear k3 k2
    go_enter Try.func101, Try.ntmps101
    go_wp2
    clear e0 e1 e2 e3 e4 e5 d1 d2 d3
    go_loopw [20, 21] (fun i j wr => ∃ p q : Nat, s0 ≤ p ∧ p ≤ q ∧ q ≤ r0 ∧ i = .int .i64 (p : Int) ∧ j = .int .i64 (q : Int) ∧ (p = s0 ∨ k (d.getD (p - 1) 0) ≤ k (d.getD (mid + m - p) 0)) ∧ (q = r0 ∨ k (d.getD (mid + m - 1 - q) 0) < k (d.getD q 0)) ∧ Turned w wr g 131 (ptrs N d ++ rest)) (fun i j _ => (intOf j).toNat - (intOf i).toNat)
    case atStart => exact ⟨s0, mid, by omega, by omega, by omega, rfl, rfl, .inl (by omega), .inl (by omega), HT.out⟩
    case round =>
      obtain ⟨p, q, hp, hpq, hq, rfl, rfl, g1, g2, gt⟩ := hrel
      clear HT
      by_cases hlt : p < q
      · have d1 : (p : Int) < (q : Int) := by omega
        obtain ⟨c, hc⟩ : ∃ c, (p + q) / 2 = c := ⟨_, rfl⟩
        have e1 : ((p : Int) + (q : Int)) / 2 = (c : Int) := by omega
        obtain ⟨k5, k6, k7⟩ := H2.out.search (c := c) HMID.out.symm HSR.out (by omega) (by omega)
        obtain ⟨f, hf⟩ : ∃ f, mid + m - 1 - c = f := ⟨_, rfl⟩
        have HF := Lib.hid hf
        rw [hf] at k7
        obtain ⟨bx, bz, c1, c2, hC⟩ := gt.two HR.out HN.out HPM.out (i := f) (j := c) (by rw [HLEN.out]; exact k7) (by rw [HLEN.out]; exact k5)
        have e2 : (pp : Int) - (c : Int) = (f : Int) := by omega
        have hcb : p ≤ c ∧ c < q := by omega
        have i7 : (0 : Int) ≤ (p : Int) + (q : Int) := by omega
        have i8 : (p : Int) + (q : Int) ≤ 2000000 := by omega
        have i9 : (c : Int) < (len : Int) := by omega
        have i10 : (f : Int) < (len : Int) := by omega
        have i11 : (c : Int) ≤ (pp : Int) := by omega
        have w1 : IntKind.i64.wrap (f : Int) = (f : Int) := IntWalk.i64_in _ (by omega)
        have w2 : IntKind.i64.wrap ((pp : Int) - (c : Int)) = (f : Int) := by rw [e2]; exact w1
        have G1 := Lib.hid g1
        have G2 := Lib.hid g2
        have e3 : mid + m - (c + 1) = f := by omega
        have E3 := Lib.hid e3
        clear g1 g2 hc hf e3
        by_cases hk : k (d.getD f 0) < k (d.getD c 0)
        · have hlt0 : cmpN (k (d.getD f 0)) (k (d.getD c 0)) < 0 := cmpN_lt.2 hk
          generalize cmpN (k (d.getD f 0)) (k (d.getD c 0)) = cv at *
          have dk : decide (cv < 0) = true := decide_eq_true hlt0
          have HC := Lib.hid hC
          have HK := Lib.hid hk
          clear hC hk hlt0
          go_wp2_with fail
          go_quiet ((go_at_call 93; exact Calls.quiet_of (HC.out _)))
          have T := gt.drewN nq
          clear c1 c2 HC gt dk
          generalize World.drewN wr nq = w3 at *
          go_wp2
          go_roundw
          case rel => exact ⟨p, c, by omega, by omega, by omega, rfl, rfl, G1.out, .inr (by rw [HF.out]; exact HK.out), T⟩
          case measure => (simp [intOf]; try omega)
        · have hlt0 : ¬ cmpN (k (d.getD f 0)) (k (d.getD c 0)) < 0 := fun h => hk (cmpN_lt.1 h)
          generalize cmpN (k (d.getD f 0)) (k (d.getD c 0)) = cv at *
          have dk : decide (cv < 0) = false := decide_eq_false hlt0
          have HC := Lib.hid hC
          have HK := Lib.hid hk
          clear hC hk
          go_wp2_with fail
          go_quiet ((go_at_call 93; exact Calls.quiet_of (HC.out _)))
          have T := gt.drewN nq
          clear c1 c2 HC gt dk
          generalize World.drewN wr nq = w3 at *
          go_wp2
          go_roundw
          case rel => exact ⟨c + 1, q, by omega, by omega, by omega, by first | rfl | go_num, rfl, .inr (by rw [E3.out, Nat.add_sub_cancel]; have := HK.out; omega), G2.out, T⟩
          case measure => (simp [intOf]; try omega)
      · obtain rfl : p = q := by omega
        have cut := H2.out.cut HMID.out.symm HSR.out hp hq (by rw [HD.out]; exact g1) (by rw [HD.out]; exact g2)
        obtain ⟨pd, pl1, pl2, pl3, pl4⟩ := cut.parts H2.out HMID.out.symm
        obtain ⟨c1, c2, c3, c4, _, _⟩ := id cut
        have hdone := fun S1 S2 => cut.done H2.out (S1 := S1) (S2 := S2)
        have sL1 := srt_take H2.out.sL (p - a)
        have sL2 := srt_drop H2.out.sL (p - a)
        have sR1 := srt_take H2.out.sR (mid - p)
        have sR2 := srt_drop H2.out.sR (mid - p)
        have mL1 : ∀ l ∈ L.take (p - a), l ∈ L := fun l h => List.mem_of_mem_take h
        have mL2 : ∀ l ∈ L.drop (p - a), l ∈ L := fun l h => List.mem_of_mem_drop h
        have mR1 : ∀ l ∈ R.take (mid - p), l ∈ R := fun l h => List.mem_of_mem_take h
        have mR2 : ∀ l ∈ R.drop (mid - p), l ∈ R := fun l h => List.mem_of_mem_drop h
        have hLL : (L.take (p - a)).length + (L.drop (p - a)).length = L.length := by simp; omega
        have hRR : (R.take (mid - p)).length + (R.drop (mid - p)).length = R.length := by simp; omega
        generalize L.take (p - a) = L1 at *
        generalize L.drop (p - a) = L2 at *
        generalize R.take (mid - p) = R1 at *
        generalize R.drop (mid - p) = R2 at *
        rw [HD.out] at pd
        obtain ⟨ed, hed⟩ : ∃ ed, mid + m - p = ed := ⟨_, rfl⟩
        have e2 : (nm : Int) - (p : Int) = (ed : Int) := by omega
        have i12 : (p : Int) ≤ (nm : Int) := by omega
        have hxa := H2.out.ha
        have hdl := HLEN.out
        have hpm1 : (x ++ (L1 ++ (R1 ++ (L2 ++ (R2 ++ y))))).Perm I := by
          refine List.Perm.trans ?_ HPM.out
          rw [pd]
          refine List.Perm.append_left _ ?_
          exact perm_mid L1 R1 L2 (R2 ++ y)
        have hnn := HNN.out
        clear g1 g2 cut e2
        have e2 : (nm : Int) - (p : Int) = (ed : Int) := by omega
        have HDONE := Lib.hid hdone
        clear hdone
        -- step one: turned round, or not
        have F1 : (p < m ∧ m < ed → Calls Try.prog 102 #[.slice (some ⟨g, 0, none⟩) len cap, .int .i64 (p : Int), .int .i64 (m : Int), .int .i64 (ed : Int), fcmp] wr fun e w' => e = .returned (.tuple #[]) ∧ Turned w w' g 131 (ptrs N (x ++ (L1 ++ (R1 ++ (L2 ++ (R2 ++ y))))) ++ rest)) := fun h => by
          have e0 : x ++ (L1 ++ (L2 ++ (R1 ++ (R2 ++ y)))) = (x ++ L1) ++ (L2 ++ (R1 ++ (R2 ++ y))) := by simp
          have T := gt
          rw [pd, e0] at T
          have hdl2 := hdl
          rw [pd, e0] at hdl2
          refine (z_rot g cap len p m ed N (x ++ L1) L2 R1 (R2 ++ y) rest fcmp wr hdl2 (by rw [List.length_append]; omega) (by omega) (by omega) (by omega) (by omega) T.2 hl).mono fun e w' ⟨he, ht⟩ => ⟨he, ?_⟩
          have ht2 := T.trans ht
          simpa using ht2
        have F1n : ¬ (p < m ∧ m < ed) → Turned w wr g 131 (ptrs N (x ++ (L1 ++ (R1 ++ (L2 ++ (R2 ++ y))))) ++ rest) := fun h => by
          have e0 : x ++ (L1 ++ (R1 ++ (L2 ++ (R2 ++ y)))) = d := by
            rw [pd]
            by_cases z : L2.length = 0
            · rw [List.eq_nil_of_length_eq_zero z]; rfl
            · rw [List.eq_nil_of_length_eq_zero (show R1.length = 0 by omega)]; rfl
          rw [e0]; exact gt
        -- step two: the lower part
        have F2 : ∀ w1, Turned w w1 g 131 (ptrs N (x ++ (L1 ++ (R1 ++ (L2 ++ (R2 ++ y))))) ++ rest) → a < p ∧ p < mid → Calls Try.prog 101 #[.slice (some ⟨g, 0, none⟩) len cap, .int .i64 (a : Int), .int .i64 (p : Int), .int .i64 (mid : Int), fcmp] w1 fun e w' => e = .returned (.tuple #[]) ∧ ∃ S, S.Perm (L1 ++ R1) ∧ Srt k S ∧ Turned w w' g 131 (ptrs N (x ++ (S ++ (L2 ++ (R2 ++ y)))) ++ rest) := fun w1 T h =>
          mrg_part IH.out H2.out HN.out HR.out mL1 mR1 sL1 sR1 hxa (by omega) (by omega) (by omega) (by omega) (by omega) hpm1 T
        have F2n : ∀ w1, Turned w w1 g 131 (ptrs N (x ++ (L1 ++ (R1 ++ (L2 ++ (R2 ++ y))))) ++ rest) → ¬ (a < p ∧ p < mid) → ∃ S, S.Perm (L1 ++ R1) ∧ Srt k S ∧ Turned w w1 g 131 (ptrs N (x ++ (S ++ (L2 ++ (R2 ++ y)))) ++ rest) := fun w1 T h =>
          ⟨L1 ++ R1, List.Perm.refl _, srt_app sL1 sR1 (by omega), by rw [List.append_assoc]; exact T⟩
        -- step three: the upper part
        have F3 : ∀ S w1, S.Perm (L1 ++ R1) → Turned w w1 g 131 (ptrs N (x ++ (S ++ (L2 ++ (R2 ++ y)))) ++ rest) → mid < ed ∧ ed < b → Calls Try.prog 101 #[.slice (some ⟨g, 0, none⟩) len cap, .int .i64 (mid : Int), .int .i64 (ed : Int), .int .i64 (b : Int), fcmp] w1 fun e w' => e = .returned (.tuple #[]) ∧ ∃ S2, S2.Perm (L2 ++ R2) ∧ Srt k S2 ∧ Turned w w' g 131 (ptrs N ((x ++ S) ++ (S2 ++ y)) ++ rest) := fun S w1 hS T h => by
          have e0 : x ++ (S ++ (L2 ++ (R2 ++ y))) = (x ++ S) ++ (L2 ++ (R2 ++ y)) := by simp
          rw [e0] at T
          have hSl := hS.length_eq
          rw [List.length_append] at hSl
          refine mrg_part IH.out H2.out HN.out HR.out mL2 mR2 sL2 sR2 (by rw [List.length_append]; omega) (by omega) (by omega) (by omega) (by omega) (by omega) ?_ T
          refine List.Perm.trans ?_ hpm1
          rw [← e0, ← List.append_assoc L1]
          exact List.Perm.append_left _ (List.Perm.append_right _ hS)
        have F3n : ∀ S w1, S.Perm (L1 ++ R1) → Turned w w1 g 131 (ptrs N (x ++ (S ++ (L2 ++ (R2 ++ y)))) ++ rest) → ¬ (mid < ed ∧ ed < b) → ∃ S2, S2.Perm (L2 ++ R2) ∧ Srt k S2 ∧ Turned w w1 g 131 (ptrs N ((x ++ S) ++ (S2 ++ y)) ++ rest) := fun S w1 hS T h =>
          ⟨L2 ++ R2, List.Perm.refl _, srt_app sL2 sR2 (by omega), by rw [show (x ++ S) ++ ((L2 ++ R2) ++ y) = x ++ (S ++ (L2 ++ (R2 ++ y))) by simp]; exact T⟩
        have FIN : ∀ S S2 w1, S.Perm (L1 ++ R1) → Srt k S → S2.Perm (L2 ++ R2) → Srt k S2 → Turned w w1 g 131 (ptrs N ((x ++ S) ++ (S2 ++ y)) ++ rest) → ∃ S, S.Perm (L ++ R) ∧ Srt k S ∧ Turned w w1 g 131 (ptrs N (x ++ (S ++ y)) ++ rest) := fun S S2 w1 q1 q2 q3 q4 T => by
          obtain ⟨r1, r2⟩ := HDONE.out S S2 q1 q3 q2 q4
          exact ⟨S ++ S2, r1, r2, by simpa using T⟩
        unfold fcmp at F1 F2 F3
        have F1 := Lib.hid F1
        have F1n := Lib.hid F1n
        have F2 := Lib.hid F2
        have F2n := Lib.hid F2n
        have F3 := Lib.hid F3
        have F3n := Lib.hid F3n
        have FIN := Lib.hid FIN
        have j1 : (p : Int) ≤ 1000000 := by omega
        have j2 : (ed : Int) ≤ 1000000 := by omega
        clear pd pl1 pl2 pl3 pl4 sL1 sL2 sR1 sR2 mL1 mL2 mR1 mR2 hLL hRR hpm1 hnn gt hxa hdl hed HDONE
        by_cases t1 : p < m ∧ m < ed
        · have x1 : (p : Int) < (m : Int) := by have := t1; omega
          have x2 : (m : Int) < (ed : Int) := by have := t1; omega
          have hC := Lib.hid (F1.out t1)
          go_wp2_with fail
          (with_reducible refine hC.out.mono ?_)
          rintro e w9 ⟨rfl, T1⟩
          clear hC x1 x2
          by_cases t2 : a < p ∧ p < mid
          · have x1 : (a : Int) < (p : Int) := by have := t2; omega
            have x2 : (p : Int) < (mid : Int) := by have := t2; omega
            have hC := Lib.hid (F2.out _ T1 t2)
            clear T1
            go_wp2_with fail
            (with_reducible refine hC.out.mono ?_)
            rintro e w9 ⟨rfl, hst⟩
            clear hC x1 x2
            obtain ⟨S, q1, q2, T2⟩ := hst
            by_cases t3 : mid < ed ∧ ed < b
            · have x1 : (mid : Int) < (ed : Int) := by have := t3; omega
              have x2 : (ed : Int) < (b : Int) := by have := t3; omega
              have hC := Lib.hid (F3.out S _ q1 T2 t3)
              have Q1 := Lib.hid q1
              have Q2 := Lib.hid q2
              clear T2 q1 q2
              go_wp2_with fail
              all_goals
                (with_reducible refine hC.out.mono ?_)
                rintro e w9 ⟨rfl, S2, q3, q4, T9⟩
                have hfin := Lib.hid (FIN.out S S2 _ Q1.out Q2.out q3 q4 T9)
                clear T9 q3 q4
                go_wp2
                go_end0
                exact ⟨rfl, hfin.out⟩
            · obtain ⟨S2, q3, q4, T9⟩ := F3n.out S _ q1 T2 t3
              have hfin := Lib.hid (FIN.out S S2 _ q1 q2 q3 q4 T9)
              clear T9 q3 q4 T2 q1 q2
              by_cases t4 : mid < ed
              · have x1 : (mid : Int) < (ed : Int) := by omega
                have x2 : ¬ (ed : Int) < (b : Int) := by omega
                go_wp2
                all_goals
                  go_end0
                  exact ⟨rfl, hfin.out⟩
              · have x1 : ¬ (mid : Int) < (ed : Int) := by omega
                go_wp2
                all_goals
                  go_end0
                  exact ⟨rfl, hfin.out⟩
          · have hst := F2n.out _ T1 t2
            clear T1
            by_cases t5 : a < p
            · have x1 : (a : Int) < (p : Int) := by omega
              have x2 : ¬ (p : Int) < (mid : Int) := by omega
              obtain ⟨S, q1, q2, T2⟩ := hst
              by_cases t3 : mid < ed ∧ ed < b
              · have x1 : (mid : Int) < (ed : Int) := by have := t3; omega
                have x2 : (ed : Int) < (b : Int) := by have := t3; omega
                have hC := Lib.hid (F3.out S _ q1 T2 t3)
                have Q1 := Lib.hid q1
                have Q2 := Lib.hid q2
                clear T2 q1 q2
                go_wp2_with fail
                all_goals
                  (with_reducible refine hC.out.mono ?_)
                  rintro e w9 ⟨rfl, S2, q3, q4, T9⟩
                  have hfin := Lib.hid (FIN.out S S2 _ Q1.out Q2.out q3 q4 T9)
                  clear T9 q3 q4
                  go_wp2
                  go_end0
                  exact ⟨rfl, hfin.out⟩
              · obtain ⟨S2, q3, q4, T9⟩ := F3n.out S _ q1 T2 t3
                have hfin := Lib.hid (FIN.out S S2 _ q1 q2 q3 q4 T9)
                clear T9 q3 q4 T2 q1 q2
                by_cases t4 : mid < ed
                · have x1 : (mid : Int) < (ed : Int) := by omega
                  have x2 : ¬ (ed : Int) < (b : Int) := by omega
                  go_wp2
                  all_goals
                    go_end0
                    exact ⟨rfl, hfin.out⟩
                · have x1 : ¬ (mid : Int) < (ed : Int) := by omega
                  go_wp2
                  all_goals
                    go_end0
                    exact ⟨rfl, hfin.out⟩
            · have x1 : ¬ (a : Int) < (p : Int) := by omega
              obtain ⟨S, q1, q2, T2⟩ := hst
              by_cases t3 : mid < ed ∧ ed < b
              · have x1 : (mid : Int) < (ed : Int) := by have := t3; omega
                have x2 : (ed : Int) < (b : Int) := by have := t3; omega
                have hC := Lib.hid (F3.out S _ q1 T2 t3)
                have Q1 := Lib.hid q1
                have Q2 := Lib.hid q2
                clear T2 q1 q2
                go_wp2_with fail
                all_goals
                  (with_reducible refine hC.out.mono ?_)
                  rintro e w9 ⟨rfl, S2, q3, q4, T9⟩
                  have hfin := Lib.hid (FIN.out S S2 _ Q1.out Q2.out q3 q4 T9)
                  clear T9 q3 q4
                  go_wp2
                  go_end0
                  exact ⟨rfl, hfin.out⟩
              · obtain ⟨S2, q3, q4, T9⟩ := F3n.out S _ q1 T2 t3
                have hfin := Lib.hid (FIN.out S S2 _ q1 q2 q3 q4 T9)
                clear T9 q3 q4 T2 q1 q2
                by_cases t4 : mid < ed
                · have x1 : (mid : Int) < (ed : Int) := by omega
                  have x2 : ¬ (ed : Int) < (b : Int) := by omega
                  go_wp2
                  all_goals
                    go_end0
                    exact ⟨rfl, hfin.out⟩
                · have x1 : ¬ (mid : Int) < (ed : Int) := by omega
                  go_wp2
                  all_goals
                    go_end0
                    exact ⟨rfl, hfin.out⟩
        · have T1 := F1n.out t1
          by_cases t0 : p < m
          · have y1 : (p : Int) < (m : Int) := by omega
            have y2 : ¬ (m : Int) < (ed : Int) := by omega
            by_cases t2 : a < p ∧ p < mid
            · have x1 : (a : Int) < (p : Int) := by have := t2; omega
              have x2 : (p : Int) < (mid : Int) := by have := t2; omega
              have hC := Lib.hid (F2.out _ T1 t2)
              clear T1
              go_wp2_with fail
              (with_reducible refine hC.out.mono ?_)
              rintro e w9 ⟨rfl, hst⟩
              clear hC x1 x2
              obtain ⟨S, q1, q2, T2⟩ := hst
              by_cases t3 : mid < ed ∧ ed < b
              · have x1 : (mid : Int) < (ed : Int) := by have := t3; omega
                have x2 : (ed : Int) < (b : Int) := by have := t3; omega
                have hC := Lib.hid (F3.out S _ q1 T2 t3)
                have Q1 := Lib.hid q1
                have Q2 := Lib.hid q2
                clear T2 q1 q2
                go_wp2_with fail
                all_goals
                  (with_reducible refine hC.out.mono ?_)
                  rintro e w9 ⟨rfl, S2, q3, q4, T9⟩
                  have hfin := Lib.hid (FIN.out S S2 _ Q1.out Q2.out q3 q4 T9)
                  clear T9 q3 q4
                  go_wp2
                  go_end0
                  exact ⟨rfl, hfin.out⟩
              · obtain ⟨S2, q3, q4, T9⟩ := F3n.out S _ q1 T2 t3
                have hfin := Lib.hid (FIN.out S S2 _ q1 q2 q3 q4 T9)
                clear T9 q3 q4 T2 q1 q2
                by_cases t4 : mid < ed
                · have x1 : (mid : Int) < (ed : Int) := by omega
                  have x2 : ¬ (ed : Int) < (b : Int) := by omega
                  go_wp2
                  all_goals
                    go_end0
                    exact ⟨rfl, hfin.out⟩
                · have x1 : ¬ (mid : Int) < (ed : Int) := by omega
                  go_wp2
                  all_goals
                    go_end0
                    exact ⟨rfl, hfin.out⟩
            · have hst := F2n.out _ T1 t2
              clear T1
              by_cases t5 : a < p
              · have x1 : (a : Int) < (p : Int) := by omega
                have x2 : ¬ (p : Int) < (mid : Int) := by omega
                obtain ⟨S, q1, q2, T2⟩ := hst
                by_cases t3 : mid < ed ∧ ed < b
                · have x1 : (mid : Int) < (ed : Int) := by have := t3; omega
                  have x2 : (ed : Int) < (b : Int) := by have := t3; omega
                  have hC := Lib.hid (F3.out S _ q1 T2 t3)
                  have Q1 := Lib.hid q1
                  have Q2 := Lib.hid q2
                  clear T2 q1 q2
                  go_wp2_with fail
                  all_goals
                    (with_reducible refine hC.out.mono ?_)
                    rintro e w9 ⟨rfl, S2, q3, q4, T9⟩
                    have hfin := Lib.hid (FIN.out S S2 _ Q1.out Q2.out q3 q4 T9)
                    clear T9 q3 q4
                    go_wp2
                    go_end0
                    exact ⟨rfl, hfin.out⟩
                · obtain ⟨S2, q3, q4, T9⟩ := F3n.out S _ q1 T2 t3
                  have hfin := Lib.hid (FIN.out S S2 _ q1 q2 q3 q4 T9)
                  clear T9 q3 q4 T2 q1 q2
                  by_cases t4 : mid < ed
                  · have x1 : (mid : Int) < (ed : Int) := by omega
                    have x2 : ¬ (ed : Int) < (b : Int) := by omega
                    go_wp2
                    all_goals
                      go_end0
                      exact ⟨rfl, hfin.out⟩
                  · have x1 : ¬ (mid : Int) < (ed : Int) := by omega
                    go_wp2
                    all_goals
                      go_end0
                      exact ⟨rfl, hfin.out⟩
              · have x1 : ¬ (a : Int) < (p : Int) := by omega
                obtain ⟨S, q1, q2, T2⟩ := hst
                by_cases t3 : mid < ed ∧ ed < b
                · have x1 : (mid : Int) < (ed : Int) := by have := t3; omega
                  have x2 : (ed : Int) < (b : Int) := by have := t3; omega
                  have hC := Lib.hid (F3.out S _ q1 T2 t3)
                  have Q1 := Lib.hid q1
                  have Q2 := Lib.hid q2
                  clear T2 q1 q2
                  go_wp2_with fail
                  all_goals
                    (with_reducible refine hC.out.mono ?_)
                    rintro e w9 ⟨rfl, S2, q3, q4, T9⟩
                    have hfin := Lib.hid (FIN.out S S2 _ Q1.out Q2.out q3 q4 T9)
                    clear T9 q3 q4
                    go_wp2
                    go_end0
                    exact ⟨rfl, hfin.out⟩
                · obtain ⟨S2, q3, q4, T9⟩ := F3n.out S _ q1 T2 t3
                  have hfin := Lib.hid (FIN.out S S2 _ q1 q2 q3 q4 T9)
                  clear T9 q3 q4 T2 q1 q2
                  by_cases t4 : mid < ed
                  · have x1 : (mid : Int) < (ed : Int) := by omega
                    have x2 : ¬ (ed : Int) < (b : Int) := by omega
                    go_wp2
                    all_goals
                      go_end0
                      exact ⟨rfl, hfin.out⟩
                  · have x1 : ¬ (mid : Int) < (ed : Int) := by omega
                    go_wp2
                    all_goals
                      go_end0
                      exact ⟨rfl, hfin.out⟩
          · have y1 : ¬ (p : Int) < (m : Int) := by omega
            by_cases t2 : a < p ∧ p < mid
            · have x1 : (a : Int) < (p : Int) := by have := t2; omega
              have x2 : (p : Int) < (mid : Int) := by have := t2; omega
              have hC := Lib.hid (F2.out _ T1 t2)
              clear T1
              go_wp2_with fail
              (with_reducible refine hC.out.mono ?_)
              rintro e w9 ⟨rfl, hst⟩
              clear hC x1 x2
              obtain ⟨S, q1, q2, T2⟩ := hst
              by_cases t3 : mid < ed ∧ ed < b
              · have x1 : (mid : Int) < (ed : Int) := by have := t3; omega
                have x2 : (ed : Int) < (b : Int) := by have := t3; omega
                have hC := Lib.hid (F3.out S _ q1 T2 t3)
                have Q1 := Lib.hid q1
                have Q2 := Lib.hid q2
                clear T2 q1 q2
                go_wp2_with fail
                all_goals
                  (with_reducible refine hC.out.mono ?_)
                  rintro e w9 ⟨rfl, S2, q3, q4, T9⟩
                  have hfin := Lib.hid (FIN.out S S2 _ Q1.out Q2.out q3 q4 T9)
                  clear T9 q3 q4
                  go_wp2
                  go_end0
                  exact ⟨rfl, hfin.out⟩
              · obtain ⟨S2, q3, q4, T9⟩ := F3n.out S _ q1 T2 t3
                have hfin := Lib.hid (FIN.out S S2 _ q1 q2 q3 q4 T9)
                clear T9 q3 q4 T2 q1 q2
                by_cases t4 : mid < ed
                · have x1 : (mid : Int) < (ed : Int) := by omega
                  have x2 : ¬ (ed : Int) < (b : Int) := by omega
                  go_wp2
                  all_goals
                    go_end0
                    exact ⟨rfl, hfin.out⟩
                · have x1 : ¬ (mid : Int) < (ed : Int) := by omega
                  go_wp2
                  all_goals
                    go_end0
                    exact ⟨rfl, hfin.out⟩
            · have hst := F2n.out _ T1 t2
              clear T1
              by_cases t5 : a < p
              · have x1 : (a : Int) < (p : Int) := by omega
                have x2 : ¬ (p : Int) < (mid : Int) := by omega
                obtain ⟨S, q1, q2, T2⟩ := hst
                by_cases t3 : mid < ed ∧ ed < b
                · have x1 : (mid : Int) < (ed : Int) := by have := t3; omega
                  have x2 : (ed : Int) < (b : Int) := by have := t3; omega
                  have hC := Lib.hid (F3.out S _ q1 T2 t3)
                  have Q1 := Lib.hid q1
                  have Q2 := Lib.hid q2
                  clear T2 q1 q2
                  go_wp2_with fail
                  all_goals
                    (with_reducible refine hC.out.mono ?_)
                    rintro e w9 ⟨rfl, S2, q3, q4, T9⟩
                    have hfin := Lib.hid (FIN.out S S2 _ Q1.out Q2.out q3 q4 T9)
                    clear T9 q3 q4
                    go_wp2
                    go_end0
                    exact ⟨rfl, hfin.out⟩
                · obtain ⟨S2, q3, q4, T9⟩ := F3n.out S _ q1 T2 t3
                  have hfin := Lib.hid (FIN.out S S2 _ q1 q2 q3 q4 T9)
                  clear T9 q3 q4 T2 q1 q2
                  by_cases t4 : mid < ed
                  · have x1 : (mid : Int) < (ed : Int) := by omega
                    have x2 : ¬ (ed : Int) < (b : Int) := by omega
                    go_wp2
                    all_goals
                      go_end0
                      exact ⟨rfl, hfin.out⟩
                  · have x1 : ¬ (mid : Int) < (ed : Int) := by omega
                    go_wp2
                    all_goals
                      go_end0
                      exact ⟨rfl, hfin.out⟩
              · have x1 : ¬ (a : Int) < (p : Int) := by omega
                obtain ⟨S, q1, q2, T2⟩ := hst
                by_cases t3 : mid < ed ∧ ed < b
                · have x1 : (mid : Int) < (ed : Int) := by have := t3; omega
                  have x2 : (ed : Int) < (b : Int) := by have := t3; omega
                  have hC := Lib.hid (F3.out S _ q1 T2 t3)
                  have Q1 := Lib.hid q1
                  have Q2 := Lib.hid q2
                  clear T2 q1 q2
                  go_wp2_with fail
                  all_goals
                    (with_reducible refine hC.out.mono ?_)
                    rintro e w9 ⟨rfl, S2, q3, q4, T9⟩
                    have hfin := Lib.hid (FIN.out S S2 _ Q1.out Q2.out q3 q4 T9)
                    clear T9 q3 q4
                    go_wp2
                    go_end0
                    exact ⟨rfl, hfin.out⟩
                · obtain ⟨S2, q3, q4, T9⟩ := F3n.out S _ q1 T2 t3
                  have hfin := Lib.hid (FIN.out S S2 _ q1 q2 q3 q4 T9)
                  clear T9 q3 q4 T2 q1 q2
                  by_cases t4 : mid < ed
                  · have x1 : (mid : Int) < (ed : Int) := by omega
                    have x2 : ¬ (ed : Int) < (b : Int) := by omega
                    go_wp2
                    all_goals
                      go_end0
                      exact ⟨rfl, hfin.out⟩
                  · have x1 : ¬ (mid : Int) < (ed : Int) := by omega
                    go_wp2
                    all_goals
                      go_end0
                      exact ⟨rfl, hfin.out⟩
  · have d1 : decide ((m : Int) > (mid : Int)) = false := by simp; omega
    have d2 : decide (mid < m) = false := by simp; omega
    have d3 : ¬ (mid : Int) < (m : Int) := by omega
    have e4 : 0 ≤ mid := by omega
    have k4 : r0 ≤ m ∧ m ≤ r0 ∧ s0 ≤ a ∧ a ≤ s0 := by omega
    clear k3 k2
    go_enter Try.func101, Try.ntmps101
    go_wp2
    clear e0 e1 e2 e3 e4 e5 d1 d2 d3
    go_loopw [20, 21] (fun i j wr => ∃ p q : Nat, s0 ≤ p ∧ p ≤ q ∧ q ≤ r0 ∧ i = .int .i64 (p : Int) ∧ j = .int .i64 (q : Int) ∧ (p = s0 ∨ k (d.getD (p - 1) 0) ≤ k (d.getD (mid + m - p) 0)) ∧ (q = r0 ∨ k (d.getD (mid + m - 1 - q) 0) < k (d.getD q 0)) ∧ Turned w wr g 131 (ptrs N d ++ rest)) (fun i j _ => (intOf j).toNat - (intOf i).toNat)
    case atStart => exact ⟨a, m, by omega, by omega, by omega, rfl, rfl, .inl (by omega), .inl (by omega), HT.out⟩
    case round =>
      obtain ⟨p, q, hp, hpq, hq, rfl, rfl, g1, g2, gt⟩ := hrel
      clear HT
      by_cases hlt : p < q
      · have d1 : (p : Int) < (q : Int) := by omega
        obtain ⟨c, hc⟩ : ∃ c, (p + q) / 2 = c := ⟨_, rfl⟩
        have e1 : ((p : Int) + (q : Int)) / 2 = (c : Int) := by omega
        obtain ⟨k5, k6, k7⟩ := H2.out.search (c := c) HMID.out.symm HSR.out (by omega) (by omega)
        obtain ⟨f, hf⟩ : ∃ f, mid + m - 1 - c = f := ⟨_, rfl⟩
        have HF := Lib.hid hf
        rw [hf] at k7
        obtain ⟨bx, bz, c1, c2, hC⟩ := gt.two HR.out HN.out HPM.out (i := f) (j := c) (by rw [HLEN.out]; exact k7) (by rw [HLEN.out]; exact k5)
        have e2 : (pp : Int) - (c : Int) = (f : Int) := by omega
        have hcb : p ≤ c ∧ c < q := by omega
        have i7 : (0 : Int) ≤ (p : Int) + (q : Int) := by omega
        have i8 : (p : Int) + (q : Int) ≤ 2000000 := by omega
        have i9 : (c : Int) < (len : Int) := by omega
        have i10 : (f : Int) < (len : Int) := by omega
        have i11 : (c : Int) ≤ (pp : Int) := by omega
        have w1 : IntKind.i64.wrap (f : Int) = (f : Int) := IntWalk.i64_in _ (by omega)
        have w2 : IntKind.i64.wrap ((pp : Int) - (c : Int)) = (f : Int) := by rw [e2]; exact w1
        have G1 := Lib.hid g1
        have G2 := Lib.hid g2
        have e3 : mid + m - (c + 1) = f := by omega
        have E3 := Lib.hid e3
        clear g1 g2 hc hf e3
        by_cases hk : k (d.getD f 0) < k (d.getD c 0)
        · have hlt0 : cmpN (k (d.getD f 0)) (k (d.getD c 0)) < 0 := cmpN_lt.2 hk
          generalize cmpN (k (d.getD f 0)) (k (d.getD c 0)) = cv at *
          have dk : decide (cv < 0) = true := decide_eq_true hlt0
          have HC := Lib.hid hC
          have HK := Lib.hid hk
          clear hC hk hlt0
          go_wp2_with fail
          go_quiet ((go_at_call 93; exact Calls.quiet_of (HC.out _)))
          have T := gt.drewN nq
          clear c1 c2 HC gt dk
          generalize World.drewN wr nq = w3 at *
          go_wp2
          go_roundw
          case rel => exact ⟨p, c, by omega, by omega, by omega, rfl, rfl, G1.out, .inr (by rw [HF.out]; exact HK.out), T⟩
          case measure => (simp [intOf]; try omega)
        · have hlt0 : ¬ cmpN (k (d.getD f 0)) (k (d.getD c 0)) < 0 := fun h => hk (cmpN_lt.1 h)
          generalize cmpN (k (d.getD f 0)) (k (d.getD c 0)) = cv at *
          have dk : decide (cv < 0) = false := decide_eq_false hlt0
          have HC := Lib.hid hC
          have HK := Lib.hid hk
          clear hC hk
          go_wp2_with fail
          go_quiet ((go_at_call 93; exact Calls.quiet_of (HC.out _)))
          have T := gt.drewN nq
          clear c1 c2 HC gt dk
          generalize World.drewN wr nq = w3 at *
          go_wp2
          go_roundw
          case rel => exact ⟨c + 1, q, by omega, by omega, by omega, by first | rfl | go_num, rfl, .inr (by rw [E3.out, Nat.add_sub_cancel]; have := HK.out; omega), G2.out, T⟩
          case measure => (simp [intOf]; try omega)
      · obtain rfl : p = q := by omega
        have cut := H2.out.cut HMID.out.symm HSR.out hp hq (by rw [HD.out]; exact g1) (by rw [HD.out]; exact g2)
        obtain ⟨pd, pl1, pl2, pl3, pl4⟩ := cut.parts H2.out HMID.out.symm
        obtain ⟨c1, c2, c3, c4, _, _⟩ := id cut
        have hdone := fun S1 S2 => cut.done H2.out (S1 := S1) (S2 := S2)
        have sL1 := srt_take H2.out.sL (p - a)
        have sL2 := srt_drop H2.out.sL (p - a)
        have sR1 := srt_take H2.out.sR (mid - p)
        have sR2 := srt_drop H2.out.sR (mid - p)
        have mL1 : ∀ l ∈ L.take (p - a), l ∈ L := fun l h => List.mem_of_mem_take h
        have mL2 : ∀ l ∈ L.drop (p - a), l ∈ L := fun l h => List.mem_of_mem_drop h
        have mR1 : ∀ l ∈ R.take (mid - p), l ∈ R := fun l h => List.mem_of_mem_take h
        have mR2 : ∀ l ∈ R.drop (mid - p), l ∈ R := fun l h => List.mem_of_mem_drop h
        have hLL : (L.take (p - a)).length + (L.drop (p - a)).length = L.length := by simp; omega
        have hRR : (R.take (mid - p)).length + (R.drop (mid - p)).length = R.length := by simp; omega
        generalize L.take (p - a) = L1 at *
        generalize L.drop (p - a) = L2 at *
        generalize R.take (mid - p) = R1 at *
        generalize R.drop (mid - p) = R2 at *
        rw [HD.out] at pd
        obtain ⟨ed, hed⟩ : ∃ ed, mid + m - p = ed := ⟨_, rfl⟩
        have e2 : (nm : Int) - (p : Int) = (ed : Int) := by omega
        have i12 : (p : Int) ≤ (nm : Int) := by omega
        have hxa := H2.out.ha
        have hdl := HLEN.out
        have hpm1 : (x ++ (L1 ++ (R1 ++ (L2 ++ (R2 ++ y))))).Perm I := by
          refine List.Perm.trans ?_ HPM.out
          rw [pd]
          refine List.Perm.append_left _ ?_
          exact perm_mid L1 R1 L2 (R2 ++ y)
        have hnn := HNN.out
        clear g1 g2 cut e2
        have e2 : (nm : Int) - (p : Int) = (ed : Int) := by omega
        have HDONE := Lib.hid hdone
        clear hdone
        -- step one: turned round, or not
        have F1 : (p < m ∧ m < ed → Calls Try.prog 102 #[.slice (some ⟨g, 0, none⟩) len cap, .int .i64 (p : Int), .int .i64 (m : Int), .int .i64 (ed : Int), fcmp] wr fun e w' => e = .returned (.tuple #[]) ∧ Turned w w' g 131 (ptrs N (x ++ (L1 ++ (R1 ++ (L2 ++ (R2 ++ y))))) ++ rest)) := fun h => by
          have e0 : x ++ (L1 ++ (L2 ++ (R1 ++ (R2 ++ y)))) = (x ++ L1) ++ (L2 ++ (R1 ++ (R2 ++ y))) := by simp
          have T := gt
          rw [pd, e0] at T
          have hdl2 := hdl
          rw [pd, e0] at hdl2
          refine (z_rot g cap len p m ed N (x ++ L1) L2 R1 (R2 ++ y) rest fcmp wr hdl2 (by rw [List.length_append]; omega) (by omega) (by omega) (by omega) (by omega) T.2 hl).mono fun e w' ⟨he, ht⟩ => ⟨he, ?_⟩
          have ht2 := T.trans ht
          simpa using ht2
        have F1n : ¬ (p < m ∧ m < ed) → Turned w wr g 131 (ptrs N (x ++ (L1 ++ (R1 ++ (L2 ++ (R2 ++ y))))) ++ rest) := fun h => by
          have e0 : x ++ (L1 ++ (R1 ++ (L2 ++ (R2 ++ y)))) = d := by
            rw [pd]
            by_cases z : L2.length = 0
            · rw [List.eq_nil_of_length_eq_zero z]; rfl
            · rw [List.eq_nil_of_length_eq_zero (show R1.length = 0 by omega)]; rfl
          rw [e0]; exact gt
        -- step two: the lower part
        have F2 : ∀ w1, Turned w w1 g 131 (ptrs N (x ++ (L1 ++ (R1 ++ (L2 ++ (R2 ++ y))))) ++ rest) → a < p ∧ p < mid → Calls Try.prog 101 #[.slice (some ⟨g, 0, none⟩) len cap, .int .i64 (a : Int), .int .i64 (p : Int), .int .i64 (mid : Int), fcmp] w1 fun e w' => e = .returned (.tuple #[]) ∧ ∃ S, S.Perm (L1 ++ R1) ∧ Srt k S ∧ Turned w w' g 131 (ptrs N (x ++ (S ++ (L2 ++ (R2 ++ y)))) ++ rest) := fun w1 T h =>
          mrg_part IH.out H2.out HN.out HR.out mL1 mR1 sL1 sR1 hxa (by omega) (by omega) (by omega) (by omega) (by omega) hpm1 T
        have F2n : ∀ w1, Turned w w1 g 131 (ptrs N (x ++ (L1 ++ (R1 ++ (L2 ++ (R2 ++ y))))) ++ rest) → ¬ (a < p ∧ p < mid) → ∃ S, S.Perm (L1 ++ R1) ∧ Srt k S ∧ Turned w w1 g 131 (ptrs N (x ++ (S ++ (L2 ++ (R2 ++ y)))) ++ rest) := fun w1 T h =>
          ⟨L1 ++ R1, List.Perm.refl _, srt_app sL1 sR1 (by omega), by rw [List.append_assoc]; exact T⟩
        -- step three: the upper part
        have F3 : ∀ S w1, S.Perm (L1 ++ R1) → Turned w w1 g 131 (ptrs N (x ++ (S ++ (L2 ++ (R2 ++ y)))) ++ rest) → mid < ed ∧ ed < b → Calls Try.prog 101 #[.slice (some ⟨g, 0, none⟩) len cap, .int .i64 (mid : Int), .int .i64 (ed : Int), .int .i64 (b : Int), fcmp] w1 fun e w' => e = .returned (.tuple #[]) ∧ ∃ S2, S2.Perm (L2 ++ R2) ∧ Srt k S2 ∧ Turned w w' g 131 (ptrs N ((x ++ S) ++ (S2 ++ y)) ++ rest) := fun S w1 hS T h => by
          have e0 : x ++ (S ++ (L2 ++ (R2 ++ y))) = (x ++ S) ++ (L2 ++ (R2 ++ y)) := by simp
          rw [e0] at T
          have hSl := hS.length_eq
          rw [List.length_append] at hSl
          refine mrg_part IH.out H2.out HN.out HR.out mL2 mR2 sL2 sR2 (by rw [List.length_append]; omega) (by omega) (by omega) (by omega) (by omega) (by omega) ?_ T
          refine List.Perm.trans ?_ hpm1
          rw [← e0, ← List.append_assoc L1]
          exact List.Perm.append_left _ (List.Perm.append_right _ hS)
        have F3n : ∀ S w1, S.Perm (L1 ++ R1) → Turned w w1 g 131 (ptrs N (x ++ (S ++ (L2 ++ (R2 ++ y)))) ++ rest) → ¬ (mid < ed ∧ ed < b) → ∃ S2, S2.Perm (L2 ++ R2) ∧ Srt k S2 ∧ Turned w w1 g 131 (ptrs N ((x ++ S) ++ (S2 ++ y)) ++ rest) := fun S w1 hS T h =>
          ⟨L2 ++ R2, List.Perm.refl _, srt_app sL2 sR2 (by omega), by rw [show (x ++ S) ++ ((L2 ++ R2) ++ y) = x ++ (S ++ (L2 ++ (R2 ++ y))) by simp]; exact T⟩
        have FIN : ∀ S S2 w1, S.Perm (L1 ++ R1) → Srt k S → S2.Perm (L2 ++ R2) → Srt k S2 → Turned w w1 g 131 (ptrs N ((x ++ S) ++ (S2 ++ y)) ++ rest) → ∃ S, S.Perm (L ++ R) ∧ Srt k S ∧ Turned w w1 g 131 (ptrs N (x ++ (S ++ y)) ++ rest) := fun S S2 w1 q1 q2 q3 q4 T => by
          obtain ⟨r1, r2⟩ := HDONE.out S S2 q1 q3 q2 q4
          exact ⟨S ++ S2, r1, r2, by simpa using T⟩
        unfold fcmp at F1 F2 F3
        have F1 := Lib.hid F1
        have F1n := Lib.hid F1n
        have F2 := Lib.hid F2
        have F2n := Lib.hid F2n
        have F3 := Lib.hid F3
        have F3n := Lib.hid F3n
        have FIN := Lib.hid FIN
        have j1 : (p : Int) ≤ 1000000 := by omega
        have j2 : (ed : Int) ≤ 1000000 := by omega
        clear pd pl1 pl2 pl3 pl4 sL1 sL2 sR1 sR2 mL1 mL2 mR1 mR2 hLL hRR hpm1 hnn gt hxa hdl hed HDONE
        by_cases t1 : p < m ∧ m < ed
        · have x1 : (p : Int) < (m : Int) := by have := t1; omega
          have x2 : (m : Int) < (ed : Int) := by have := t1; omega
          have hC := Lib.hid (F1.out t1)
          go_wp2_with fail
          (with_reducible refine hC.out.mono ?_)
          rintro e w9 ⟨rfl, T1⟩
          clear hC x1 x2
          by_cases t2 : a < p ∧ p < mid
          · have x1 : (a : Int) < (p : Int) := by have := t2; omega
            have x2 : (p : Int) < (mid : Int) := by have := t2; omega
            have hC := Lib.hid (F2.out _ T1 t2)
            clear T1
            go_wp2_with fail
            (with_reducible refine hC.out.mono ?_)
            rintro e w9 ⟨rfl, hst⟩
            clear hC x1 x2
            obtain ⟨S, q1, q2, T2⟩ := hst
            by_cases t3 : mid < ed ∧ ed < b
            · have x1 : (mid : Int) < (ed : Int) := by have := t3; omega
              have x2 : (ed : Int) < (b : Int) := by have := t3; omega
              have hC := Lib.hid (F3.out S _ q1 T2 t3)
              have Q1 := Lib.hid q1
              have Q2 := Lib.hid q2
              clear T2 q1 q2
              go_wp2_with fail
              all_goals
                (with_reducible refine hC.out.mono ?_)
                rintro e w9 ⟨rfl, S2, q3, q4, T9⟩
                have hfin := Lib.hid (FIN.out S S2 _ Q1.out Q2.out q3 q4 T9)
                clear T9 q3 q4
                go_wp2
                go_end0
                exact ⟨rfl, hfin.out⟩
            · obtain ⟨S2, q3, q4, T9⟩ := F3n.out S _ q1 T2 t3
              have hfin := Lib.hid (FIN.out S S2 _ q1 q2 q3 q4 T9)
              clear T9 q3 q4 T2 q1 q2
              by_cases t4 : mid < ed
              · have x1 : (mid : Int) < (ed : Int) := by omega
                have x2 : ¬ (ed : Int) < (b : Int) := by omega
                go_wp2
                all_goals
                  go_end0
                  exact ⟨rfl, hfin.out⟩
              · have x1 : ¬ (mid : Int) < (ed : Int) := by omega
                go_wp2
                all_goals
                  go_end0
                  exact ⟨rfl, hfin.out⟩
          · have hst := F2n.out _ T1 t2
            clear T1
            by_cases t5 : a < p
            · have x1 : (a : Int) < (p : Int) := by omega
              have x2 : ¬ (p : Int) < (mid : Int) := by omega
              obtain ⟨S, q1, q2, T2⟩ := hst
              by_cases t3 : mid < ed ∧ ed < b
              · have x1 : (mid : Int) < (ed : Int) := by have := t3; omega
                have x2 : (ed : Int) < (b : Int) := by have := t3; omega
                have hC := Lib.hid (F3.out S _ q1 T2 t3)
                have Q1 := Lib.hid q1
                have Q2 := Lib.hid q2
                clear T2 q1 q2
                go_wp2_with fail
                all_goals
                  (with_reducible refine hC.out.mono ?_)
                  rintro e w9 ⟨rfl, S2, q3, q4, T9⟩
                  have hfin := Lib.hid (FIN.out S S2 _ Q1.out Q2.out q3 q4 T9)
                  clear T9 q3 q4
                  go_wp2
                  go_end0
                  exact ⟨rfl, hfin.out⟩
              · obtain ⟨S2, q3, q4, T9⟩ := F3n.out S _ q1 T2 t3
                have hfin := Lib.hid (FIN.out S S2 _ q1 q2 q3 q4 T9)
                clear T9 q3 q4 T2 q1 q2
                by_cases t4 : mid < ed
                · have x1 : (mid : Int) < (ed : Int) := by omega
                  have x2 : ¬ (ed : Int) < (b : Int) := by omega
                  go_wp2
                  all_goals
                    go_end0
                    exact ⟨rfl, hfin.out⟩
                · have x1 : ¬ (mid : Int) < (ed : Int) := by omega
                  go_wp2
                  all_goals
                    go_end0
                    exact ⟨rfl, hfin.out⟩
            · have x1 : ¬ (a : Int) < (p : Int) := by omega
              obtain ⟨S, q1, q2, T2⟩ := hst
              by_cases t3 : mid < ed ∧ ed < b
              · have x1 : (mid : Int) < (ed : Int) := by have := t3; omega
                have x2 : (ed : Int) < (b : Int) := by have := t3; omega
                have hC := Lib.hid (F3.out S _ q1 T2 t3)
                have Q1 := Lib.hid q1
                have Q2 := Lib.hid q2
                clear T2 q1 q2
                go_wp2_with fail
                all_goals
                  (with_reducible refine hC.out.mono ?_)
                  rintro e w9 ⟨rfl, S2, q3, q4, T9⟩
                  have hfin := Lib.hid (FIN.out S S2 _ Q1.out Q2.out q3 q4 T9)
                  clear T9 q3 q4
                  go_wp2
                  go_end0
                  exact ⟨rfl, hfin.out⟩
              · obtain ⟨S2, q3, q4, T9⟩ := F3n.out S _ q1 T2 t3
                have hfin := Lib.hid (FIN.out S S2 _ q1 q2 q3 q4 T9)
                clear T9 q3 q4 T2 q1 q2
                by_cases t4 : mid < ed
                · have x1 : (mid : Int) < (ed : Int) := by omega
                  have x2 : ¬ (ed : Int) < (b : Int) := by omega
                  go_wp2
                  all_goals
                    go_end0
                    exact ⟨rfl, hfin.out⟩
                · have x1 : ¬ (mid : Int) < (ed : Int) := by omega
                  go_wp2
                  all_goals
                    go_end0
                    exact ⟨rfl, hfin.out⟩
        · have T1 := F1n.out t1
          by_cases t0 : p < m
          · have y1 : (p : Int) < (m : Int) := by omega
            have y2 : ¬ (m : Int) < (ed : Int) := by omega
            by_cases t2 : a < p ∧ p < mid
            · have x1 : (a : Int) < (p : Int) := by have := t2; omega
              have x2 : (p : Int) < (mid : Int) := by have := t2; omega
              have hC := Lib.hid (F2.out _ T1 t2)
              clear T1
              go_wp2_with fail
              (with_reducible refine hC.out.mono ?_)
              rintro e w9 ⟨rfl, hst⟩
              clear hC x1 x2
              obtain ⟨S, q1, q2, T2⟩ := hst
              by_cases t3 : mid < ed ∧ ed < b
              · have x1 : (mid : Int) < (ed : Int) := by have := t3; omega
                have x2 : (ed : Int) < (b : Int) := by have := t3; omega
                have hC := Lib.hid (F3.out S _ q1 T2 t3)
                have Q1 := Lib.hid q1
                have Q2 := Lib.hid q2
                clear T2 q1 q2
                go_wp2_with fail
                all_goals
                  (with_reducible refine hC.out.mono ?_)
                  rintro e w9 ⟨rfl, S2, q3, q4, T9⟩
                  have hfin := Lib.hid (FIN.out S S2 _ Q1.out Q2.out q3 q4 T9)
                  clear T9 q3 q4
                  go_wp2
                  go_end0
                  exact ⟨rfl, hfin.out⟩
              · obtain ⟨S2, q3, q4, T9⟩ := F3n.out S _ q1 T2 t3
                have hfin := Lib.hid (FIN.out S S2 _ q1 q2 q3 q4 T9)
                clear T9 q3 q4 T2 q1 q2
                by_cases t4 : mid < ed
                · have x1 : (mid : Int) < (ed : Int) := by omega
                  have x2 : ¬ (ed : Int) < (b : Int) := by omega
                  go_wp2
                  all_goals
                    go_end0
                    exact ⟨rfl, hfin.out⟩
                · have x1 : ¬ (mid : Int) < (ed : Int) := by omega
                  go_wp2
                  all_goals
                    go_end0
                    exact ⟨rfl, hfin.out⟩
            · have hst := F2n.out _ T1 t2
              clear T1
              by_cases t5 : a < p
              · have x1 : (a : Int) < (p : Int) := by omega
                have x2 : ¬ (p : Int) < (mid : Int) := by omega
                obtain ⟨S, q1, q2, T2⟩ := hst
                by_cases t3 : mid < ed ∧ ed < b
                · have x1 : (mid : Int) < (ed : Int) := by have := t3; omega
                  have x2 : (ed : Int) < (b : Int) := by have := t3; omega
                  have hC := Lib.hid (F3.out S _ q1 T2 t3)
                  have Q1 := Lib.hid q1
                  have Q2 := Lib.hid q2
                  clear T2 q1 q2
                  go_wp2_with fail
                  all_goals
                    (with_reducible refine hC.out.mono ?_)
                    rintro e w9 ⟨rfl, S2, q3, q4, T9⟩
                    have hfin := Lib.hid (FIN.out S S2 _ Q1.out Q2.out q3 q4 T9)
                    clear T9 q3 q4
                    go_wp2
                    go_end0
                    exact ⟨rfl, hfin.out⟩
                · obtain ⟨S2, q3, q4, T9⟩ := F3n.out S _ q1 T2 t3
                  have hfin := Lib.hid (FIN.out S S2 _ q1 q2 q3 q4 T9)
                  clear T9 q3 q4 T2 q1 q2
                  by_cases t4 : mid < ed
                  · have x1 : (mid : Int) < (ed : Int) := by omega
                    have x2 : ¬ (ed : Int) < (b : Int) := by omega
                    go_wp2
                    all_goals
                      go_end0
                      exact ⟨rfl, hfin.out⟩
                  · have x1 : ¬ (mid : Int) < (ed : Int) := by omega
                    go_wp2
                    all_goals
                      go_end0
                      exact ⟨rfl, hfin.out⟩
              · have x1 : ¬ (a : Int) < (p : Int) := by omega
                obtain ⟨S, q1, q2, T2⟩ := hst
                by_cases t3 : mid < ed ∧ ed < b
                · have x1 : (mid : Int) < (ed : Int) := by have := t3; omega
                  have x2 : (ed : Int) < (b : Int) := by have := t3; omega
                  have hC := Lib.hid (F3.out S _ q1 T2 t3)
                  have Q1 := Lib.hid q1
                  have Q2 := Lib.hid q2
                  clear T2 q1 q2
                  go_wp2_with fail
                  all_goals
                    (with_reducible refine hC.out.mono ?_)
                    rintro e w9 ⟨rfl, S2, q3, q4, T9⟩
                    have hfin := Lib.hid (FIN.out S S2 _ Q1.out Q2.out q3 q4 T9)
                    clear T9 q3 q4
                    go_wp2
                    go_end0
                    exact ⟨rfl, hfin.out⟩
                · obtain ⟨S2, q3, q4, T9⟩ := F3n.out S _ q1 T2 t3
                  have hfin := Lib.hid (FIN.out S S2 _ q1 q2 q3 q4 T9)
                  clear T9 q3 q4 T2 q1 q2
                  by_cases t4 : mid < ed
                  · have x1 : (mid : Int) < (ed : Int) := by omega
                    have x2 : ¬ (ed : Int) < (b : Int) := by omega
                    go_wp2
                    all_goals
                      go_end0
                      exact ⟨rfl, hfin.out⟩
                  · have x1 : ¬ (mid : Int) < (ed : Int) := by omega
                    go_wp2
                    all_goals
                      go_end0
                      exact ⟨rfl, hfin.out⟩
          · have y1 : ¬ (p : Int) < (m : Int) := by omega
            by_cases t2 : a < p ∧ p < mid
            · have x1 : (a : Int) < (p : Int) := by have := t2; omega
              have x2 : (p : Int) < (mid : Int) := by have := t2; omega
              have hC := Lib.hid (F2.out _ T1 t2)
              clear T1
              go_wp2_with fail
              (with_reducible refine hC.out.mono ?_)
              rintro e w9 ⟨rfl, hst⟩
              clear hC x1 x2
              obtain ⟨S, q1, q2, T2⟩ := hst
              by_cases t3 : mid < ed ∧ ed < b
              · have x1 : (mid : Int) < (ed : Int) := by have := t3; omega
                have x2 : (ed : Int) < (b : Int) := by have := t3; omega
                have hC := Lib.hid (F3.out S _ q1 T2 t3)
                have Q1 := Lib.hid q1
                have Q2 := Lib.hid q2
                clear T2 q1 q2
                go_wp2_with fail
                all_goals
                  (with_reducible refine hC.out.mono ?_)
                  rintro e w9 ⟨rfl, S2, q3, q4, T9⟩
                  have hfin := Lib.hid (FIN.out S S2 _ Q1.out Q2.out q3 q4 T9)
                  clear T9 q3 q4
                  go_wp2
                  go_end0
                  exact ⟨rfl, hfin.out⟩
              · obtain ⟨S2, q3, q4, T9⟩ := F3n.out S _ q1 T2 t3
                have hfin := Lib.hid (FIN.out S S2 _ q1 q2 q3 q4 T9)
                clear T9 q3 q4 T2 q1 q2
                by_cases t4 : mid < ed
                · have x1 : (mid : Int) < (ed : Int) := by omega
                  have x2 : ¬ (ed : Int) < (b : Int) := by omega
                  go_wp2
                  all_goals
                    go_end0
                    exact ⟨rfl, hfin.out⟩
                · have x1 : ¬ (mid : Int) < (ed : Int) := by omega
                  go_wp2
                  all_goals
                    go_end0
                    exact ⟨rfl, hfin.out⟩
            · have hst := F2n.out _ T1 t2
              clear T1
              by_cases t5 : a < p
              · have x1 : (a : Int) < (p : Int) := by omega
                have x2 : ¬ (p : Int) < (mid : Int) := by omega
                obtain ⟨S, q1, q2, T2⟩ := hst
                by_cases t3 : mid < ed ∧ ed < b
                · have x1 : (mid : Int) < (ed : Int) := by have := t3; omega
                  have x2 : (ed : Int) < (b : Int) := by have := t3; omega
                  have hC := Lib.hid (F3.out S _ q1 T2 t3)
                  have Q1 := Lib.hid q1
                  have Q2 := Lib.hid q2
                  clear T2 q1 q2
                  go_wp2_with fail
                  all_goals
                    (with_reducible refine hC.out.mono ?_)
                    rintro e w9 ⟨rfl, S2, q3, q4, T9⟩
                    have hfin := Lib.hid (FIN.out S S2 _ Q1.out Q2.out q3 q4 T9)
                    clear T9 q3 q4
                    go_wp2
                    go_end0
                    exact ⟨rfl, hfin.out⟩
                · obtain ⟨S2, q3, q4, T9⟩ := F3n.out S _ q1 T2 t3
                  have hfin := Lib.hid (FIN.out S S2 _ q1 q2 q3 q4 T9)
                  clear T9 q3 q4 T2 q1 q2
                  by_cases t4 : mid < ed
                  · have x1 : (mid : Int) < (ed : Int) := by omega
                    have x2 : ¬ (ed : Int) < (b : Int) := by omega
                    go_wp2
                    all_goals
                      go_end0
                      exact ⟨rfl, hfin.out⟩
                  · have x1 : ¬ (mid : Int) < (ed : Int) := by omega
                    go_wp2
                    all_goals
                      go_end0
                      exact ⟨rfl, hfin.out⟩
              · have x1 : ¬ (a : Int) < (p : Int) := by omega
                obtain ⟨S, q1, q2, T2⟩ := hst
                by_cases t3 : mid < ed ∧ ed < b
                · have x1 : (mid : Int) < (ed : Int) := by have := t3; omega
                  have x2 : (ed : Int) < (b : Int) := by have := t3; omega
                  have hC := Lib.hid (F3.out S _ q1 T2 t3)
                  have Q1 := Lib.hid q1
                  have Q2 := Lib.hid q2
                  clear T2 q1 q2
                  go_wp2_with fail
                  all_goals
                    (with_reducible refine hC.out.mono ?_)
                    rintro e w9 ⟨rfl, S2, q3, q4, T9⟩
                    have hfin := Lib.hid (FIN.out S S2 _ Q1.out Q2.out q3 q4 T9)
                    clear T9 q3 q4
                    go_wp2
                    go_end0
                    exact ⟨rfl, hfin.out⟩
                · obtain ⟨S2, q3, q4, T9⟩ := F3n.out S _ q1 T2 t3
                  have hfin := Lib.hid (FIN.out S S2 _ q1 q2 q3 q4 T9)
                  clear T9 q3 q4 T2 q1 q2
                  by_cases t4 : mid < ed
                  · have x1 : (mid : Int) < (ed : Int) := by omega
                    have x2 : ¬ (ed : Int) < (b : Int) := by omega
                    go_wp2
                    all_goals
                      go_end0
                      exact ⟨rfl, hfin.out⟩
                  · have x1 : ¬ (mid : Int) < (ed : Int) := by omega
                    go_wp2
                    all_goals
                      go_end0
                      exact ⟨rfl, hfin.out⟩
end Go.Proofs.Ytpjihjbgihionaa
namespace Go.Proofs.Ytpjihjbgihionaa
set_option linter.unusedVariables false

/-- the elements from s on, up to t -/
def seg (d : List Nat) (s t : Nat) : List Nat := (d.take t).drop s
theorem seg_len {d : List Nat} {s t : Nat} (h : t ≤ d.length) : (seg d s t).length = t - s := by unfold seg; rw [List.length_drop, List.length_take]; omega
theorem seg_getD {d : List Nat} {s t j : Nat} (h : s + j < t) : (seg d s t).getD j 0 = d.getD (s + j) 0 := by unfold seg; rw [getD_drop, getD_take _ _ _ h]
theorem seg_ext {d d' : List Nat} {s t : Nat} (h1 : t ≤ d.length) (h2 : t ≤ d'.length) (h : ∀ i, s ≤ i → i < t → d.getD i 0 = d'.getD i 0) : seg d s t = seg d' s t :=
  getD_ext (t - s) (seg_len h1) (seg_len h2) fun j hj => by rw [seg_getD (by omega), seg_getD (by omega)]; exact h _ (by omega) (by omega)
theorem seg_parts {d : List Nat} {s t : Nat} (h : s ≤ t) : d = d.take s ++ (seg d s t ++ d.drop t) := by
  unfold seg
  have e : d.take s = (d.take t).take s := by rw [List.take_take, Nat.min_eq_left h]
  rw [e, ← List.append_assoc, List.take_append_drop, List.take_append_drop]
theorem seg_split {d : List Nat} {s m t : Nat} (h1 : s ≤ m) (h2 : m ≤ t) (h3 : t ≤ d.length) : seg d s t = seg d s m ++ seg d m t := by
  refine getD_ext (t - s) (seg_len h3) (by rw [List.length_append, seg_len (by omega), seg_len h3]; omega) fun j hj => ?_
  rw [seg_getD (by omega), getD_app, seg_len (by omega)]
  split
  · rw [seg_getD (by omega)]
  · rw [seg_getD (by omega)]; congr 1; omega
theorem seg_all {d : List Nat} {n : Nat} (h : d.length = n) : seg d 0 n = d := by unfold seg; rw [List.take_of_length_le (by omega)]; rfl
theorem mem_seg {d : List Nat} {s t x : Nat} (ht : t ≤ d.length) (h : x ∈ seg d s t) : ∃ i, s ≤ i ∧ i < t ∧ x = d.getD i 0 := by
  obtain ⟨j, hj, rfl⟩ := mem_getD h
  rw [seg_len ht] at hj
  exact ⟨s + j, by omega, by omega, seg_getD (by omega)⟩
/-- sorted, and the same elements as at first -/
def Okk (k : Nat → Nat) (I d : List Nat) (s t : Nat) : Prop := Srt k (seg d s t) ∧ (seg d s t).Perm (seg I s t)
/-- a part in place of another one -/
def putS (d S : List Nat) (a b : Nat) : List Nat := d.take a ++ (S ++ d.drop b)
theorem putS_len {d S : List Nat} {a b : Nat} (hab : a ≤ b) (hb : b ≤ d.length) (hS : S.length = b - a) : (putS d S a b).length = d.length := by
  unfold putS
  rw [List.length_append, List.length_append, List.length_take, List.length_drop]
  omega
theorem putS_out {d S : List Nat} {a b i : Nat} (hab : a ≤ b) (hb : b ≤ d.length) (hS : S.length = b - a) (h : i < a ∨ b ≤ i) : (putS d S a b).getD i 0 = d.getD i 0 := by
  unfold putS
  have hl : (d.take a).length = a := by rw [List.length_take]; omega
  rw [getD_app, hl]
  rcases h with h | h
  · rw [if_pos h, getD_take _ _ _ h]
  · rw [if_neg (by omega), getD_app, if_neg (by omega), getD_drop]
    congr 1; omega
theorem putS_in {d S : List Nat} {a b : Nat} (hab : a ≤ b) (hb : b ≤ d.length) (hS : S.length = b - a) : seg (putS d S a b) a b = S := by
  refine getD_ext (b - a) (seg_len (by rw [putS_len hab hb hS]; exact hb)) hS fun j hj => ?_
  rw [seg_getD (by omega)]
  unfold putS
  have hl : (d.take a).length = a := by rw [List.length_take]; omega
  rw [getD_app, hl, if_neg (by omega), getD_app, if_pos (by omega)]
  congr 1; omega
theorem putS_perm {d S I : List Nat} {a b : Nat} (hab : a ≤ b) (hS : S.Perm (seg d a b)) (hp : d.Perm I) : (putS d S a b).Perm I := by
  refine List.Perm.trans ?_ hp
  conv => rhs; rw [seg_parts (d := d) hab]
  exact List.Perm.append_left _ (List.Perm.append_right _ hS)
theorem Okk.out {k : Nat → Nat} {I d S : List Nat} {a b s t : Nat} (h : Okk k I d s t) (hab : a ≤ b) (hb : b ≤ d.length) (hS : S.length = b - a) (ht : t ≤ d.length) (ho : t ≤ a ∨ b ≤ s) : Okk k I (putS d S a b) s t := by
  have e : seg (putS d S a b) s t = seg d s t := seg_ext (by rw [putS_len hab hb hS]; exact ht) ht fun i h1 h2 => putS_out hab hb hS (by omega)
  unfold Okk
  rw [e]; exact h
theorem Okk.put {k : Nat → Nat} {I d S : List Nat} {a b : Nat} (hab : a ≤ b) (hb : b ≤ d.length) (hS : S.length = b - a) (h1 : Srt k S) (h2 : S.Perm (seg I a b)) : Okk k I (putS d S a b) a b := by
  unfold Okk
  rw [putS_in hab hb hS]; exact ⟨h1, h2⟩
/-- the first pass: blocks of twenty, up to a -/
structure Ph1 (k : Nat → Nat) (I : List Nat) (n a : Nat) (d : List Nat) : Prop where
  len : d.length = n
  perm : d.Perm I
  low : ∀ s, 20 ∣ s → s < a → Okk k I d s (min (s + 20) n)
  high : ∀ i, a ≤ i → d.getD i 0 = I.getD i 0
theorem Ph1.first (k : Nat → Nat) (I : List Nat) : Ph1 k I I.length 0 I := ⟨rfl, List.Perm.refl _, fun s _ h => by omega, fun _ _ => rfl⟩
theorem Ph1.row {k : Nat → Nat} {I d : List Nat} {n a b : Nat} (h : Ph1 k I n a d) (hI : I.length = n) (hab : a ≤ b) (hb : b ≤ n) : d = d.take a ++ (seg I a b ++ d.drop b) := by
  have e : seg I a b = seg d a b := seg_ext (by omega) (by have := h.len; omega) fun i h1 h2 => (h.high i h1).symm
  rw [e]; exact seg_parts hab
theorem Ph1.step {k : Nat → Nat} {I d S : List Nat} {n a b : Nat} (h : Ph1 k I n a d) (hI : I.length = n) (ha : 20 ∣ a) (hab : a ≤ b) (hb : b = min (a + 20) n) (hS : S.Perm (seg I a b)) (hs : Srt k S) : Ph1 k I n b (putS d S a b) := by
  have hl := hS.length_eq
  rw [seg_len (by omega)] at hl
  have hd := h.len
  have hbn : b ≤ d.length := by omega
  have e : seg I a b = seg d a b := seg_ext (by omega) (by omega) fun i h1 h2 => (h.high i h1).symm
  refine ⟨by rw [putS_len hab hbn hl]; exact hd, putS_perm hab (by rw [← e]; exact hS) h.perm, fun s h1 h2 => ?_, fun i hi => ?_⟩
  · by_cases hsa : s < a
    · exact (h.low s h1 hsa).out hab hbn hl (by omega) (.inl (by obtain ⟨x, rfl⟩ := ha; obtain ⟨z, rfl⟩ := h1; omega))
    · obtain rfl : s = a := by obtain ⟨x, rfl⟩ := ha; obtain ⟨z, rfl⟩ := h1; omega
      rw [← hb]
      exact Okk.put hab hbn hl hs hS
  · rw [putS_out hab hbn hl (.inr hi)]; exact h.high i (by omega)
/-- a pass of merges: blocks of 2 * bs below a, of bs from a on -/
structure Ph2 (k : Nat → Nat) (I : List Nat) (n bs a : Nat) (d : List Nat) : Prop where
  len : d.length = n
  perm : d.Perm I
  low : ∀ s, 2 * bs ∣ s → s < a → s < n → Okk k I d s (min (s + 2 * bs) n)
  high : ∀ s, bs ∣ s → a ≤ s → s < n → Okk k I d s (min (s + bs) n)
theorem Ph1.second {k : Nat → Nat} {I d : List Nat} {n : Nat} (h : Ph1 k I n n d) : Ph2 k I n 20 0 d := ⟨h.len, h.perm, fun s _ h1 => by omega, fun s h1 _ h2 => h.low s h1 h2⟩
theorem Ph2.next {k : Nat → Nat} {I d : List Nat} {n bs a : Nat} (h : Ph2 k I n bs a d) (ha : n ≤ a) : Ph2 k I n (2 * bs) 0 d := ⟨h.len, h.perm, fun s _ h1 => by omega, fun s h1 _ h2 => h.low s h1 (by omega) h2⟩
theorem Ph2.last {k : Nat → Nat} {I d : List Nat} {n bs : Nat} (h : Ph2 k I n bs 0 d) (h0 : 0 < n) (hb : n ≤ bs) : Srt k d := by
  have := (h.high 0 (Nat.dvd_zero _) (Nat.le_refl _) h0).1
  rw [Nat.zero_add, Nat.min_eq_right hb, seg_all h.len] at this
  exact this
/-- what is left alone at the end of a pass: one block, or none -/
theorem Ph2.rest {k : Nat → Nat} {I d : List Nat} {n bs a : Nat} (h : Ph2 k I n bs a d) (ha : 2 * bs ∣ a) (hm : n ≤ a + bs) : Ph2 k I n bs n d := by
  refine ⟨h.len, h.perm, fun s h1 h2 h3 => ?_, fun s _ h1 h2 => by omega⟩
  by_cases hs : s < a
  · exact h.low s h1 hs h3
  · have hsa : s = a := by
      obtain ⟨x, rfl⟩ := ha
      obtain ⟨z, rfl⟩ := h1
      have h0 : 0 < bs := by
        rcases Nat.eq_zero_or_pos bs with e | e
        · subst e
          simp only [Nat.mul_zero, Nat.zero_mul] at hm h3
          omega
        · exact e
      have h4 : 2 * bs * z < 2 * bs * (x + 1) := by rw [Nat.mul_add, Nat.mul_one]; omega
      have h5 : z < x + 1 := Nat.lt_of_mul_lt_mul_left h4
      have h6 : 2 * bs * x < 2 * bs * (z + 1) := by rw [Nat.mul_add, Nat.mul_one]; omega
      have h7 : x < z + 1 := Nat.lt_of_mul_lt_mul_left h6
      rw [show z = x by omega]
    subst hsa
    have := h.high s (Nat.dvd_trans (Nat.dvd_mul_left bs 2) ha) (Nat.le_refl _) h3
    rwa [show min (s + bs) n = min (s + 2 * bs) n by omega] at this
/-- two blocks are merged -/
theorem Ph2.two {k : Nat → Nat} {I d : List Nat} {n bs a b : Nat} (h : Ph2 k I n bs a d) (hI : I.Pairwise (· < ·)) (hIn : I.length = n) (h0 : 0 < bs) (ha : 2 * bs ∣ a) (hm : a + bs < n) (hb : b = min (a + 2 * bs) n) :
    Two k I (d.take a) (seg d a (a + bs)) (seg d (a + bs) b) (d.drop b) a (a + bs) b n ∧ d.take a ++ (seg d a (a + bs) ++ (seg d (a + bs) b ++ d.drop b)) = d := by
  have hd := h.len
  have d1 : bs ∣ a := Nat.dvd_trans (Nat.dvd_mul_left bs 2) ha
  have o1 := h.high a d1 (Nat.le_refl _) (by omega)
  have o2 := h.high (a + bs) (Nat.dvd_add d1 (Nat.dvd_refl _)) (by omega) hm
  rw [show min (a + bs) n = a + bs by omega] at o1
  rw [show min (a + bs + bs) n = b by omega] at o2
  have e : d.take a ++ (seg d a (a + bs) ++ (seg d (a + bs) b ++ d.drop b)) = d := by
    rw [← List.append_assoc (seg d a (a + bs)), ← seg_split (by omega) (by omega) (by omega)]
    exact (seg_parts (by omega)).symm
  refine ⟨⟨by rw [List.length_take]; omega, by rw [seg_len (by omega)]; omega, by rw [seg_len (by omega)]; omega, by rw [seg_len (by omega)]; omega, by rw [seg_len (by omega)]; omega, o1.1, o2.1, fun l hl r hr => ?_, by rw [e]; exact h.perm, by rw [e]; exact hd⟩, e⟩
  obtain ⟨i, i1, i2, rfl⟩ := mem_seg (by omega) (o1.2.subset hl)
  obtain ⟨j, j1, j2, rfl⟩ := mem_seg (by omega) (o2.2.subset hr)
  have := List.pairwise_iff_getElem.1 hI i j (by omega) (by omega) (by omega)
  rwa [List.getD_eq_getElem?_getD, List.getElem?_eq_getElem (by omega), List.getD_eq_getElem?_getD, List.getElem?_eq_getElem (by omega)]
theorem Ph2.step {k : Nat → Nat} {I d S : List Nat} {n bs a b : Nat} (h : Ph2 k I n bs a d) (hI : I.length = n) (h0 : 0 < bs) (ha : 2 * bs ∣ a) (hm : a + bs < n) (hb : b = min (a + 2 * bs) n) (hp : S.Perm (seg d a (a + bs) ++ seg d (a + bs) b)) (hs : Srt k S) : Ph2 k I n bs b (putS d S a b) := by
  have hd := h.len
  have d1 : bs ∣ a := Nat.dvd_trans (Nat.dvd_mul_left bs 2) ha
  have o1 := h.high a d1 (Nat.le_refl _) (by omega)
  have o2 := h.high (a + bs) (Nat.dvd_add d1 (Nat.dvd_refl _)) (by omega) hm
  rw [show min (a + bs) n = a + bs by omega] at o1
  rw [show min (a + bs + bs) n = b by omega] at o2
  have hl := hp.length_eq
  rw [List.length_append, seg_len (by omega), seg_len (by omega)] at hl
  have hab : a ≤ b := by omega
  have hbn : b ≤ d.length := by omega
  have hl' : S.length = b - a := by omega
  rw [← seg_split (by omega) (by omega) (by omega)] at hp
  have hpI : S.Perm (seg I a b) := by
    refine hp.trans ?_
    rw [seg_split (d := d) (m := a + bs) (by omega) (by omega) (by omega), seg_split (d := I) (m := a + bs) (by omega) (by omega) (by omega)]
    exact o1.2.append o2.2
  refine ⟨by rw [putS_len hab hbn hl']; exact hd, putS_perm hab hp h.perm, fun s h1 h2 h3 => ?_, fun s h1 h2 h3 => ?_⟩
  · by_cases hsa : s < a
    · refine (h.low s h1 hsa h3).out hab hbn hl' (by omega) (.inl ?_)
      obtain ⟨x, rfl⟩ := ha
      obtain ⟨z, rfl⟩ := h1
      have : z < x := Nat.lt_of_mul_lt_mul_left hsa
      have := Nat.mul_le_mul_left (2 * bs) (show z + 1 ≤ x from this)
      rw [Nat.mul_add, Nat.mul_one] at this
      omega
    · have e : s = a := by
        obtain ⟨x, rfl⟩ := ha
        obtain ⟨z, rfl⟩ := h1
        have h4 : 2 * bs * z < 2 * bs * (x + 1) := by rw [Nat.mul_add, Nat.mul_one]; omega
        have h5 : z < x + 1 := Nat.lt_of_mul_lt_mul_left h4
        have h6 : 2 * bs * x < 2 * bs * (z + 1) := by rw [Nat.mul_add, Nat.mul_one]; omega
        have h7 : x < z + 1 := Nat.lt_of_mul_lt_mul_left h6
        rw [show z = x by omega]
      subst e
      rw [← hb]
      exact Okk.put hab hbn hl' hs hpI
  · exact (h.high s h1 (by omega) h3).out hab hbn hl' (by omega) (.inr h2)
end Go.Proofs.Ytpjihjbgihionaa
namespace Go.Proofs.Ytpjihjbgihionaa
open Go.RowKit
set_option linter.unusedVariables false

theorem z_mrg (g cap len : Nat) (N k : Nat → Nat) (I : List Nat) (rest : List Value) (hl : len ≤ 1000000) : ∀ n, MrgSaid g cap len N k I [] rest n
  | 0 => fun a m b x L R y w hn h2 _ _ => by have := h2.hL; omega
  | n + 1 => fun a m b x L R y w hn h2 hR hN => by
    by_cases e1 : L.length = 1
    · exact z_mrg1 g cap len a m b N k I x L R y rest [] w w h2 e1 hR hN hl
    · by_cases e2 : R.length = 1
      · exact z_mrg2 g cap len a m b N k I x L R y rest [] w w h2 e1 e2 hR hN hl
      · exact z_mrg3 g cap len a m b n N k I x L R y rest w (z_mrg g cap len N k I rest hl n) hn h2 e1 e2 hR hN hl
set_option maxRecDepth 100000 in
theorem z_ins0 (p : Option Addr) (len cap a : Nat) (w : World) (hl : a ≤ 1000000) :
    Calls Try.prog 100 #[.slice p len cap, .int .i64 (a : Int), .int .i64 (a : Int), fcmp] w fun e w' => e = .returned (.tuple #[]) ∧ w = w' := by
  unfold fcmp
  have i1 : (a : Int) ≤ 1000000 := by omega
  have i2 : ¬ (a : Int) + 1 < (a : Int) := by omega
  go_enter Try.func100, Try.ntmps100
  go_wp2
  go_loop [8] (fun i => i = .int .i64 ((a : Int) + 1)) (fun i => 0)
  case atStart => rfl
  case round =>
    subst hrel
    go_wp2
    go_end0
    exact ⟨rfl, rfl⟩
set_option maxRecDepth 100000 in
set_option maxHeartbeats 4000000 in
theorem z_stable (g cap n : Nat) (N k : Nat → Nat) (I : List Nat) (rest : List Value) (w : World) (hn : I.length = n) (hI : I.Pairwise (· < ·)) (hR : Blk w g 131 (ptrs N I ++ rest)) (hN : Nds w N k I) (hl : n ≤ 300) (h0 : 0 < n) :
    Calls Try.prog 98 #[.slice (some ⟨g, 0, none⟩) n cap, .int .i64 (n : Int), fcmp] w fun e w' => e = .returned (.tuple #[]) ∧ ∃ S, S.Perm I ∧ Srt k S ∧ Turned w w' g 131 (ptrs N S ++ rest) := by
  have hT := Turned.refl hR
  have hP : Ph1 k I n 0 I := by subst hn; exact Ph1.first k I
  have hINS := fun (a b : Nat) (d : List Nat) (w1 : World) (T : Turned w w1 g 131 (ptrs N d ++ rest)) (P : Ph1 k I n a d) (ha : 20 ∣ a) (hab : a ≤ b) (hb : b = min (a + 20) n) =>
    show Calls Try.prog 100 #[.slice (some ⟨g, 0, none⟩) n cap, .int .i64 (a : Int), .int .i64 (b : Int), fcmp] w1 fun e w' => e = .returned (.tuple #[]) ∧ ∃ d', Ph1 k I n b d' ∧ Turned w w' g 131 (ptrs N d' ++ rest) from by
      rcases Nat.lt_or_ge a b with h | h
      · have hrow := P.row hn hab (by omega)
        have hla : (d.take a).length = a := by rw [List.length_take, P.len]; omega
        have hT1 := T
        rw [hrow] at hT1
        refine (z_ins g cap n a b N k (d.take a) (seg I a b) (d.drop b) rest w1 (by rw [← hrow]; exact P.len) hla (by rw [seg_len (by omega)]; omega) (by rw [seg_len (by omega)]; omega) ?_ hT1.2 ?_ (by omega)).mono ?_
        · exact (hI.sublist (List.take_sublist _ _)).sublist (List.drop_sublist _ _)
        · rw [← hrow]
          intro z hz
          exact hN.turned T hR z (P.perm.subset hz)
        · rintro e w' ⟨he, S, q1, q2, q3⟩
          exact ⟨he, _, P.step hn ha hab hb q1 q2, hT1.trans q3⟩
      · obtain rfl : a = b := by omega
        refine (z_ins0 _ n cap a w1 (by omega)).mono ?_
        rintro e w' ⟨he, rfl⟩
        exact ⟨he, d, ⟨P.len, P.perm, P.low, P.high⟩, T⟩
  have hMRG := fun (bs a b : Nat) (d : List Nat) (w1 : World) (T : Turned w w1 g 131 (ptrs N d ++ rest)) (P : Ph2 k I n bs a d) (hb0 : 0 < bs) (ha : 2 * bs ∣ a) (hm : a + bs < n) (hb : b = min (a + 2 * bs) n) =>
    show Calls Try.prog 101 #[.slice (some ⟨g, 0, none⟩) n cap, .int .i64 (a : Int), .int .i64 ((a + bs : Nat) : Int), .int .i64 (b : Int), fcmp] w1 fun e w' => e = .returned (.tuple #[]) ∧ ∃ d', Ph2 k I n bs b d' ∧ Turned w w' g 131 (ptrs N d' ++ rest) from by
      obtain ⟨h2, e⟩ := P.two hI hn hb0 ha hm hb
      have hT1 := T
      rw [← e] at hT1
      refine (z_mrg g cap n N k I rest (by omega) _ a (a + bs) b _ _ _ _ w1 (Nat.le_refl _) h2 hT1.2 (hN.turned T hR)).mono ?_
      rintro e w' ⟨he, S, q1, q2, q3⟩
      exact ⟨he, _, P.step hn hb0 ha hm hb q1 q2, hT1.trans q3⟩
  unfold fcmp at hINS hMRG
  unfold fcmp
  have HT := Lib.hid hT
  have HP := Lib.hid hP
  have HINS := Lib.hid hINS
  have HMRG := Lib.hid hMRG
  have i0 : (n : Int) ≤ 300 := by omega
  clear hT hP hINS hMRG hR hN hn hI
  go_enter Try.func98, Try.ntmps98
  go_wp2
  go_loopw [7, 8] (fun i j wr => ∃ (a : Nat) (d : List Nat), 20 ∣ a ∧ a ≤ n ∧ i = .int .i64 (a : Int) ∧ j = .int .i64 ((a : Int) + 20) ∧ Ph1 k I n a d ∧ Turned w wr g 131 (ptrs N d ++ rest)) (fun i j _ => n + 20 - (intOf j).toNat)
  case atStart => exact ⟨0, I, by omega, by omega, rfl, rfl, HP.out, HT.out⟩
  case round =>
    obtain ⟨a, d, ha, han, rfl, rfl, gP, gt⟩ := hrel
    clear HT HP
    by_cases hlt : a + 20 ≤ n
    · have d1 : (a : Int) + 20 ≤ (n : Int) := by omega
      have hC := HINS.out a (a + 20) d _ gt gP ha (by omega) (by omega)
      have ea : ((a + 20 : Nat) : Int) = (a : Int) + 20 := by simp
      rw [ea] at hC
      have HC := Lib.hid hC
      clear hC gP gt ea
      go_wp2_with fail
      (with_reducible refine HC.out.mono ?_)
      rintro e w9 ⟨rfl, d', q1, q2⟩
      clear HC
      go_wp2
      go_roundw
      case rel => exact ⟨a + 20, d', by omega, by omega, by first | rfl | go_num, by first | rfl | go_num | (congr 1; omega), q1, q2⟩
      case measure => (simp [intOf]; try omega)
    · have d1 : ¬ (a : Int) + 20 ≤ (n : Int) := by omega
      have hC := HINS.out a n d _ gt gP ha han (by omega)
      have HC := Lib.hid hC
      clear hC gP gt
      go_wp2_with fail
      (with_reducible refine HC.out.mono ?_)
      rintro e w9 ⟨rfl, d', q1, q2⟩
      have Q1 := Lib.hid q1.second
      clear HC q1
      go_wp2_with fail
      go_loopw [6] (fun i wr => ∃ (bs : Nat) (d : List Nat), 20 ≤ bs ∧ bs ≤ 640 ∧ i = .int .i64 (bs : Int) ∧ Ph2 k I n bs 0 d ∧ Turned w wr g 131 (ptrs N d ++ rest)) (fun i _ => n - (intOf i).toNat)
      case atStart => exact ⟨20, d', by omega, by omega, rfl, Q1.out, q2⟩
      case round =>
        obtain ⟨bs, d, hb1, hb2, rfl, gP, gt⟩ := hrel
        clear Q1 q2
        by_cases hlt2 : bs < n
        · have d2 : (bs : Int) < (n : Int) := by omega
          have GP := Lib.hid gP
          clear gP
          go_wp2_with fail
          go_loopw [7, 8] (fun i j wr => ∃ (a : Nat) (d : List Nat), 2 * bs ∣ a ∧ a ≤ n ∧ i = .int .i64 (a : Int) ∧ j = .int .i64 ((a : Int) + 2 * (bs : Int)) ∧ Ph2 k I n bs a d ∧ Turned w wr g 131 (ptrs N d ++ rest)) (fun i j _ => n + 2 * bs - (intOf j).toNat)
          case atStart => exact ⟨0, d, Nat.dvd_zero _, by omega, rfl, by first | rfl | (congr 1; omega) | simp, GP.out, gt⟩
          case round =>
            obtain ⟨a, d, ha, han, rfl, rfl, gP, gt⟩ := hrel
            clear GP
            by_cases hlt3 : a + 2 * bs ≤ n
            · have d3 : (a : Int) + 2 * (bs : Int) ≤ (n : Int) := by omega
              have hC := HMRG.out bs a (a + 2 * bs) d _ gt gP (by omega) ha (by omega) (by omega)
              have ea : ((a + 2 * bs : Nat) : Int) = (a : Int) + 2 * (bs : Int) := by simp
              have eb : ((a + bs : Nat) : Int) = (a : Int) + (bs : Int) := by simp
              rw [ea, eb] at hC
              have HC := Lib.hid hC
              clear hC gP gt ea eb
              go_wp2_with fail
              (with_reducible refine HC.out.mono ?_)
              rintro e w9 ⟨rfl, d', q1, q2⟩
              clear HC
              go_wp2
              go_roundw
              case rel => exact ⟨a + 2 * bs, d', Nat.dvd_add ha (Nat.dvd_refl _), by omega, by first | rfl | go_num | (congr 1; omega), by first | rfl | go_num | (congr 1; omega), q1, q2⟩
              case measure => (simp [intOf]; try omega)
            · have d3 : ¬ (a : Int) + 2 * (bs : Int) ≤ (n : Int) := by omega
              by_cases hlt4 : a + bs < n
              · have d4 : (a : Int) + (bs : Int) < (n : Int) := by omega
                have hC := HMRG.out bs a n d _ gt gP (by omega) ha hlt4 (by omega)
                have eb : ((a + bs : Nat) : Int) = (a : Int) + (bs : Int) := by simp
                rw [eb] at hC
                have HC := Lib.hid hC
                clear hC gP gt eb
                go_wp2_with fail
                (with_reducible refine HC.out.mono ?_)
                rintro e w9 ⟨rfl, d', q1, q2⟩
                clear HC
                have q1 := q1.next (Nat.le_refl _)
                go_wp2
                go_roundw
                case rel => exact ⟨2 * bs, d', by omega, by omega, by first | rfl | go_num | (congr 1; omega), q1, q2⟩
                case measure => (simp [intOf]; try omega)
              · have d4 : ¬ (a : Int) + (bs : Int) < (n : Int) := by omega
                have q1 := (gP.rest ha (by omega)).next (Nat.le_refl _)
                clear gP
                go_wp2
                go_roundw
                case rel => exact ⟨2 * bs, d, by omega, by omega, by first | rfl | go_num | (congr 1; omega), q1, gt⟩
                case measure => (simp [intOf]; try omega)
        · have d2 : ¬ (bs : Int) < (n : Int) := by omega
          have q1 := gP.last h0 (by omega)
          have q0 := gP.perm
          clear gP
          go_wp2
          go_end0
          exact ⟨rfl, d, q0, q1, gt⟩
theorem z_sort (g cap n : Nat) (N k : Nat → Nat) (I : List Nat) (rest : List Value) (w : World) (hn : I.length = n) (hI : I.Pairwise (· < ·)) (hR : Blk w g 131 (ptrs N I ++ rest)) (hN : Nds w N k I) (hl : n ≤ 300) (h0 : 0 < n) :
    Calls Try.prog 92 #[.slice (some ⟨g, 0, none⟩) n cap, fcmp] w fun e w' => e = .returned (.tuple #[]) ∧ ∃ S, S.Perm I ∧ Srt k S ∧ Turned w w' g 131 (ptrs N S ++ rest) := by
  have hC := z_stable g cap n N k I rest w hn hI hR hN hl h0
  unfold fcmp at hC ⊢
  have HC := Lib.hid hC
  clear hC hn hI hR hN
  go_enter Try.func92, Try.ntmps92
  go_wp2_with fail
  (with_reducible refine HC.out.mono ?_)
  rintro e w9 ⟨rfl, S, q1, q2, q3⟩
  go_wp2
  go_end0
  exact ⟨rfl, S, q1, q2, q3⟩
theorem z_sort0 (w : World) : Calls Try.prog 92 #[.slice none 0 0, fcmp] w fun e w' => e = .returned (.tuple #[]) ∧ w = w' := by
  have hI := z_ins0 none 0 0 0 w (by omega)
  have e0 : ((0 : Nat) : Int) = 0 := rfl
  rw [e0] at hI
  clear e0
  unfold fcmp at hI ⊢
  have HI := Lib.hid hI
  clear hI
  have hS : Calls Try.prog 98 #[.slice none 0 0, .int .i64 0, .func (.func 93) #[] #[]] w fun e w' => e = .returned (.tuple #[]) ∧ w = w' := by
    go_enter Try.func98, Try.ntmps98
    go_wp2
    go_loop [7, 8] (fun i j => i = .int .i64 0 ∧ j = .int .i64 20) (fun _ _ => 0)
    case atStart => exact ⟨rfl, rfl⟩
    case round =>
      obtain ⟨rfl, rfl⟩ := hrel
      go_wp2_with fail
      (with_reducible refine HI.out.mono ?_)
      rintro e w9 ⟨rfl, rfl⟩
      go_wp2
      go_loop [6] (fun i => i = .int .i64 20) (fun _ => 0)
      case atStart => rfl
      case round =>
        subst hrel
        go_wp2
        go_end0
        exact ⟨rfl, rfl⟩
  have HS := Lib.hid hS
  clear hS
  go_enter Try.func92, Try.ntmps92
  go_wp2_with fail
  (with_reducible refine HS.out.mono ?_)
  rintro e w9 ⟨rfl, rfl⟩
  go_wp2
  go_end0
  exact ⟨rfl, rfl⟩
end Go.Proofs.Ytpjihjbgihionaa
