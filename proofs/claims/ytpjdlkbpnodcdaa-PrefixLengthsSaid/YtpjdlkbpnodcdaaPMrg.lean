/- Walk of the sort's merge. -/
import Derived.Test.YtpjdlkbpnodcdaaPRot
import Derived.Test.YtpjdlkbpnodcdaaPIns
import Derived.Test.YtpjdlkbpnodcdaaPMrgN
namespace Go.Proofs.Ytpjdlkbpnodcdaa
open Go.RowKit
set_option linter.unusedVariables false

set_option maxRecDepth 100000 in
set_option maxHeartbeats 4000000 in
theorem z_mrg1 (g cap len a m b : Nat) (N k : Nat → Nat) (I x L R y : List Nat) (rest vs : List Value) (w w0 : World) (h2 : Two k I x L R y a m b len) (h1 : L.length = 1) (hR : Blk w g 83 (ptrs N (x ++ (L ++ (R ++ y))) ++ rest)) (hN : Nds w N k I) (hl : len ≤ 1000000) :
    Calls Try.prog 64 #[.slice (some ⟨g, 0, none⟩) len cap, .int .i64 (a : Int), .int .i64 (m : Int), .int .i64 (b : Int), fcmp] w fun e w' => e = .returned (.tuple #[]) ∧ ∃ S, S.Perm (L ++ R) ∧ Srt k S ∧ Turned w w' g 83 (ptrs N (x ++ (S ++ y)) ++ rest) := by
  unfold fcmp
  obtain ⟨b1, b2, b3⟩ := h2.bound
  have hT := Turned.refl hR
  obtain ⟨d, hd⟩ : ∃ d, x ++ (L ++ (R ++ y)) = d := ⟨_, rfl⟩
  have hlen : d.length = len := by rw [← hd]; exact h2.hl
  have hpm : d.Perm I := by rw [← hd]; exact h2.perm
  have hma : m = a + 1 := by have := h2.hm; omega
  subst hma
  rw [hd] at hT hR
  have H2 := Lib.hid h2
  have H1 := Lib.hid h1
  have HD := Lib.hid hd
  have HT := Lib.hid hT
  have HR := Lib.hid hR
  have HN := Lib.hid hN
  have HLEN := Lib.hid hlen
  have HPM := Lib.hid hpm
  have em : ((a + 1 : Nat) : Int) = (a : Int) + 1 := by simp
  rw [em]
  have e1 : (a : Int) + 1 - (a : Int) = 1 := by omega
  have i1 : (b : Int) ≤ 1000000 := by omega
  have i2 : (a : Int) + 1 < (b : Int) := by omega
  clear h2 h1 hd hT hR hN hlen hpm em
  go_enter Try.func64, Try.ntmps64
  go_wp2
  clear e1
  go_loopw [10, 11] (fun i j wr => ∃ p q : Nat, a + 1 ≤ p ∧ p ≤ q ∧ q ≤ b ∧ i = .int .i64 (p : Int) ∧ j = .int .i64 (q : Int) ∧ (p = a + 1 ∨ k (d.getD (p - 1) 0) < k (d.getD a 0)) ∧ (q = b ∨ ¬ k (d.getD q 0) < k (d.getD a 0)) ∧ Turned w wr g 83 (ptrs N d ++ rest)) (fun i j _ => (intOf j).toNat - (intOf i).toNat)
  case atStart => exact ⟨a + 1, b, by omega, by omega, by omega, by simp, rfl, .inl rfl, .inl rfl, HT.out⟩
  case round =>
    obtain ⟨p, q, hp, hpq, hq, rfl, rfl, g1, g2, gt⟩ := hrel
    clear HT
    by_cases hlt : p < q
    · have d1 : (p : Int) < (q : Int) := by omega
      obtain ⟨c, hc⟩ : ∃ c, (p + q) / 2 = c := ⟨_, rfl⟩
      have e1 : ((p : Int) + (q : Int)) / 2 = (c : Int) := by omega
      have hcl : c < len ∧ a < len := by have := HLEN.out; omega
      obtain ⟨bx, bz, c1, c2, hC⟩ := gt.two HR.out HN.out HPM.out (i := c) (j := a) (by rw [HLEN.out]; exact hcl.1) (by rw [HLEN.out]; exact hcl.2)
      have hcb : p ≤ c ∧ c < q := by omega
      have i3 : (0 : Int) ≤ (p : Int) + (q : Int) := by omega
      have i4 : (p : Int) + (q : Int) ≤ 2000000 := by omega
      have i5 : (c : Int) < (len : Int) := by omega
      have i6 : (a : Int) < (len : Int) := by omega
      have G1 := Lib.hid g1
      have G2 := Lib.hid g2
      clear hcl g1 g2 hc
      by_cases hk : k (d.getD c 0) < k (d.getD a 0)
      · have hlt0 : cmpN (k (d.getD c 0)) (k (d.getD a 0)) < 0 := cmpN_lt.2 hk
        generalize cmpN (k (d.getD c 0)) (k (d.getD a 0)) = cv at *
        have dk : decide (cv < 0) = true := decide_eq_true hlt0
        have HC := Lib.hid hC
        have HK := Lib.hid hk
        clear hC hk hlt0
        go_wp2_with fail
        go_quiet ((go_at_call 58; exact Calls.quiet_of (HC.out _)))
        have T := gt.drewN nq
        clear c1 c2 HC gt dk
        generalize World.drewN wr nq = w3 at *
        go_wp2
        go_roundw
        case rel => exact ⟨c + 1, q, by omega, by omega, by omega, by first | rfl | go_num, rfl, .inr HK.out, G2.out, T⟩
        case measure => (simp [intOf]; try omega)
      · have hlt0 : ¬ cmpN (k (d.getD c 0)) (k (d.getD a 0)) < 0 := fun h => hk (cmpN_lt.1 h)
        generalize cmpN (k (d.getD c 0)) (k (d.getD a 0)) = cv at *
        have dk : decide (cv < 0) = false := decide_eq_false hlt0
        have HC := Lib.hid hC
        have HK := Lib.hid hk
        clear hC hk
        go_wp2_with fail
        go_quiet ((go_at_call 58; exact Calls.quiet_of (HC.out _)))
        have T := gt.drewN nq
        clear c1 c2 HC gt dk
        generalize World.drewN wr nq = w3 at *
        go_wp2
        go_roundw
        case rel => exact ⟨p, c, by omega, by omega, by omega, rfl, rfl, G1.out, .inr HK.out, T⟩
        case measure => (simp [intOf]; try omega)
    · obtain rfl : p = q := by omega
      have hres := H2.out.low H1.out hp hq (by rw [HD.out]; exact g1) (by rw [HD.out]; exact g2)
      obtain ⟨t, ht⟩ : ∃ t, p - (a + 1) = t := ⟨_, rfl⟩
      rw [ht] at hres
      obtain rfl : p = a + 1 + t := by omega
      have HRES := Lib.hid hres
      have hLv : L = [L.getD 0 0] := by
        have := H1.out
        match L, this with
        | [v], _ => rfl
      have htR : t ≤ R.length := by have := H2.out.hb; omega
      generalize L.getD 0 0 = v at *
      have hdv : d = x ++ ([] ++ (v :: (R.drop 0 ++ y))) := by rw [← HD.out, hLv]; simp
      have htk : ∀ j, j < R.length → R.take (j + 1) = R.take j ++ [R.getD j 0] := fun j hj => take_snoc R j hj
      have hdr : ∀ j, j < R.length → R.drop j = R.getD j 0 :: R.drop (j + 1) := fun j hj => by rw [List.drop_eq_getElem_cons hj, List.getD_eq_getElem?_getD, List.getElem?_eq_getElem hj]; rfl
      have hall : ∀ j, j ≤ R.length → (x ++ (R.take j ++ (v :: (R.drop j ++ y)))).length = len := fun j hj => by
        rw [← H2.out.hl]
        have := H1.out
        simp only [List.length_append, List.length_cons, List.length_take, List.length_drop]
        omega
      rw [hdv] at gt
      have HTK := Lib.hid htk
      have HDR := Lib.hid hdr
      have HALL := Lib.hid hall
      have HXA := Lib.hid H2.out.ha
      have HTR := Lib.hid htR
      have et : ((a + 1 + t : Nat) : Int) = (a : Int) + 1 + (t : Int) := by simp
      rw [et]
      have hal : a + 1 + t ≤ len := by omega
      have j1 : (a : Int) + 1 + (t : Int) - 1 = (a : Int) + (t : Int) := by omega
      have j2 : (a : Int) + 1 + (t : Int) ≤ 1000000 := by omega
      have GT := Lib.hid gt
      clear hres ht htk hdr hall hLv hdv gt g1 g2 et htR
      go_wp2_with fail
      go_loopw [13] (fun i wr => ∃ j : Nat, j ≤ t ∧ i = .int .i64 ((a : Int) + (j : Int)) ∧ Turned w wr g 83 (ptrs N (x ++ (R.take j ++ (v :: (R.drop j ++ y)))) ++ rest)) (fun i _ => a + t - (intOf i).toNat)
      case atStart => exact ⟨0, by omega, by simp, GT.out⟩
      case round =>
        obtain ⟨j, hj, rfl, gt⟩ := hrel
        clear GT
        by_cases hlt2 : j < t
        · have hjR : j < R.length := by have := HTR.out; omega
          have hl2 := HALL.out j (by omega)
          have hsw : swp (x ++ (R.take j ++ (v :: (R.drop j ++ y)))) (a + j) (a + j + 1) = x ++ (R.take (j + 1) ++ (v :: (R.drop (j + 1) ++ y))) := by
            rw [HDR.out j hjR, HTK.out j hjR]
            have := swp_next (x ++ R.take j) v (R.getD j 0) (R.drop (j + 1) ++ y) (a + j) (by rw [List.length_append, HXA.out, List.length_take]; omega)
            simpa using this
          obtain ⟨s1, hs1⟩ : ∃ s, a + j = s := ⟨_, rfl⟩
          obtain ⟨s2, hs2⟩ : ∃ s, a + j + 1 = s := ⟨_, rfl⟩
          rw [hs1, ← hs1, hs2, hs1] at hsw
          obtain ⟨bx, bz, u, c1, c2, f1, f2, c3, f3, T2⟩ := gt.ex (i := s1) (j := s2) (by omega) (by omega)
          rw [hsw] at T2
          have T2 := Lib.hid T2
          have e1 : ((a : Int) + (j : Int)).toNat = s1 := by omega
          have e2 : ((a : Int) + (j : Int) + 1).toNat = s2 := by omega
          have k1 : (0 : Int) ≤ (a : Int) + (j : Int) := by omega
          have k2 : (0 : Int) ≤ (a : Int) + (j : Int) + 1 := by omega
          have k3 : (a : Int) + (j : Int) < (len : Int) := by omega
          have k4 : (a : Int) + (j : Int) + 1 < (len : Int) := by omega
          have k5 : (a : Int) + (j : Int) < (a : Int) + (t : Int) := by omega
          have w1 : IntKind.i64.wrap ((a : Int) + (j : Int)) = (a : Int) + (j : Int) := IntWalk.i64_in _ (by omega)
          have w2 : IntKind.i64.wrap ((a : Int) + (j : Int) + 1) = (a : Int) + (j : Int) + 1 := IntWalk.i64_in _ (by omega)
          clear hsw hl2 gt hs1 hs2 j1
          go_wp2_with fail
          go_big_region
          all_goals go_wp2
          go_roundw
          case rel => exact ⟨j + 1, by omega, by first | rfl | go_num | (congr 1; omega), T2.out⟩
          case measure => (simp [intOf]; try omega)
        · obtain rfl : j = t := by omega
          have j5 : ¬ ((a : Int) + (j : Int) < (a : Int) + (j : Int)) := by omega
          have e0 : x ++ (R.take j ++ (v :: (R.drop j ++ y))) = x ++ ((R.take j ++ (v :: R.drop j)) ++ y) := by simp
          rw [e0] at gt
          clear e0
          go_wp2
          refine bodyPost_ret (results_none rfl _ _ _) rfl ⟨rfl, _, HRES.out.2, HRES.out.1, gt⟩
set_option maxRecDepth 100000 in
set_option maxHeartbeats 4000000 in
theorem z_mrg2 (g cap len a m b : Nat) (N k : Nat → Nat) (I x L R y : List Nat) (rest vs : List Value) (w w0 : World) (h2 : Two k I x L R y a m b len) (h0 : L.length ≠ 1) (h1 : R.length = 1) (hR : Blk w g 83 (ptrs N (x ++ (L ++ (R ++ y))) ++ rest)) (hN : Nds w N k I) (hl : len ≤ 1000000) :
    Calls Try.prog 64 #[.slice (some ⟨g, 0, none⟩) len cap, .int .i64 (a : Int), .int .i64 (m : Int), .int .i64 (b : Int), fcmp] w fun e w' => e = .returned (.tuple #[]) ∧ ∃ S, S.Perm (L ++ R) ∧ Srt k S ∧ Turned w w' g 83 (ptrs N (x ++ (S ++ y)) ++ rest) := by
  unfold fcmp
  obtain ⟨b1, b2, b3⟩ := h2.bound
  have hT := Turned.refl hR
  obtain ⟨d, hd⟩ : ∃ d, x ++ (L ++ (R ++ y)) = d := ⟨_, rfl⟩
  have hlen : d.length = len := by rw [← hd]; exact h2.hl
  have hpm : d.Perm I := by rw [← hd]; exact h2.perm
  have hmb : b = m + 1 := by have := h2.hb; omega
  have hma : m ≠ a + 1 := by have := h2.hm; omega
  subst hmb
  rw [hd] at hT hR
  have H2 := Lib.hid h2
  have H1 := Lib.hid h1
  have HD := Lib.hid hd
  have HT := Lib.hid hT
  have HR := Lib.hid hR
  have HN := Lib.hid hN
  have HLEN := Lib.hid hlen
  have HPM := Lib.hid hpm
  have em : ((m + 1 : Nat) : Int) = (m : Int) + 1 := by simp
  rw [em]
  have e0 : ((m : Int) - (a : Int) == 1) = false := by rw [beq_eq_false_iff_ne]; omega
  have e1 : (m : Int) + 1 - (m : Int) = 1 := by omega
  have i1 : (m : Int) + 1 ≤ 1000000 := by omega
  have i2 : (a : Int) < (m : Int) := by omega
  clear h2 h1 h0 hd hT hR hN hlen hpm em hma
  go_enter Try.func64, Try.ntmps64
  go_wp2
  clear e1 e0
  go_loopw [14, 15] (fun i j wr => ∃ p q : Nat, a ≤ p ∧ p ≤ q ∧ q ≤ m ∧ i = .int .i64 (p : Int) ∧ j = .int .i64 (q : Int) ∧ (p = a ∨ ¬ k (d.getD m 0) < k (d.getD (p - 1) 0)) ∧ (q = m ∨ k (d.getD m 0) < k (d.getD q 0)) ∧ Turned w wr g 83 (ptrs N d ++ rest)) (fun i j _ => (intOf j).toNat - (intOf i).toNat)
  case atStart => exact ⟨a, m, by omega, by omega, by omega, rfl, rfl, .inl rfl, .inl rfl, HT.out⟩
  case round =>
    obtain ⟨p, q, hp, hpq, hq, rfl, rfl, g1, g2, gt⟩ := hrel
    clear HT
    by_cases hlt : p < q
    · have d1 : (p : Int) < (q : Int) := by omega
      obtain ⟨c, hc⟩ : ∃ c, (p + q) / 2 = c := ⟨_, rfl⟩
      have e1 : ((p : Int) + (q : Int)) / 2 = (c : Int) := by omega
      have hcl : c < len ∧ m < len := by have := HLEN.out; omega
      obtain ⟨bx, bz, c1, c2, hC⟩ := gt.two HR.out HN.out HPM.out (i := m) (j := c) (by rw [HLEN.out]; exact hcl.2) (by rw [HLEN.out]; exact hcl.1)
      have hcb : p ≤ c ∧ c < q := by omega
      have i3 : (0 : Int) ≤ (p : Int) + (q : Int) := by omega
      have i4 : (p : Int) + (q : Int) ≤ 2000000 := by omega
      have i5 : (c : Int) < (len : Int) := by omega
      have i6 : (m : Int) < (len : Int) := by omega
      have G1 := Lib.hid g1
      have G2 := Lib.hid g2
      clear hcl g1 g2 hc
      by_cases hk : k (d.getD m 0) < k (d.getD c 0)
      · have hlt0 : cmpN (k (d.getD m 0)) (k (d.getD c 0)) < 0 := cmpN_lt.2 hk
        generalize cmpN (k (d.getD m 0)) (k (d.getD c 0)) = cv at *
        have dk : decide (cv < 0) = true := decide_eq_true hlt0
        have HC := Lib.hid hC
        have HK := Lib.hid hk
        clear hC hk hlt0
        go_wp2_with fail
        go_quiet ((go_at_call 58; exact Calls.quiet_of (HC.out _)))
        have T := gt.drewN nq
        clear c1 c2 HC gt dk
        generalize World.drewN wr nq = w3 at *
        go_wp2
        go_roundw
        case rel => exact ⟨p, c, by omega, by omega, by omega, rfl, rfl, G1.out, .inr HK.out, T⟩
        case measure => (simp [intOf]; try omega)
      · have hlt0 : ¬ cmpN (k (d.getD m 0)) (k (d.getD c 0)) < 0 := fun h => hk (cmpN_lt.1 h)
        generalize cmpN (k (d.getD m 0)) (k (d.getD c 0)) = cv at *
        have dk : decide (cv < 0) = false := decide_eq_false hlt0
        have HC := Lib.hid hC
        have HK := Lib.hid hk
        clear hC hk
        go_wp2_with fail
        go_quiet ((go_at_call 58; exact Calls.quiet_of (HC.out _)))
        have T := gt.drewN nq
        clear c1 c2 HC gt dk
        generalize World.drewN wr nq = w3 at *
        go_wp2
        go_roundw
        case rel => exact ⟨c + 1, q, by omega, by omega, by omega, by first | rfl | go_num, rfl, .inr HK.out, G2.out, T⟩
        case measure => (simp [intOf]; try omega)
    · obtain rfl : p = q := by omega
      have hres := H2.out.high H1.out hp hq (by rw [HD.out]; exact g1) (by rw [HD.out]; exact g2)
      obtain ⟨t, ht⟩ : ∃ t, p - a = t := ⟨_, rfl⟩
      rw [ht] at hres
      obtain rfl : p = a + t := by omega
      have HRES := Lib.hid hres
      have hRv : R = [R.getD 0 0] := by
        have := H1.out
        match R, this with
        | [v], _ => rfl
      obtain ⟨nl, hnl⟩ : ∃ nl, L.length = nl := ⟨_, rfl⟩
      have hmn : a + nl = m := by rw [← hnl]; exact H2.out.hm
      have htR : t ≤ nl := by omega
      generalize R.getD 0 0 = v at *
      have hdv : d = x ++ (L.take nl ++ (v :: (L.drop nl ++ y))) := by rw [← HD.out, hRv, List.take_of_length_le (by omega), List.drop_of_length_le (by omega)]; simp
      have htk : ∀ j, j < L.length → L.take (j + 1) = L.take j ++ [L.getD j 0] := fun j hj => take_snoc L j hj
      have hdr : ∀ j, j < L.length → L.drop j = L.getD j 0 :: L.drop (j + 1) := fun j hj => by rw [List.drop_eq_getElem_cons hj, List.getD_eq_getElem?_getD, List.getElem?_eq_getElem hj]; rfl
      have hall : ∀ j, j ≤ L.length → (x ++ (L.take j ++ (v :: (L.drop j ++ y)))).length = len := fun j hj => by
        rw [← H2.out.hl]
        have := H1.out
        simp only [List.length_append, List.length_cons, List.length_take, List.length_drop]
        omega
      rw [hdv] at gt
      have HTK := Lib.hid htk
      have HDR := Lib.hid hdr
      have HALL := Lib.hid hall
      have HXA := Lib.hid H2.out.ha
      have HNL := Lib.hid hnl
      have et : ((a + t : Nat) : Int) = (a : Int) + (t : Int) := by simp
      rw [et]
      have em : (m : Int) = (a : Int) + (nl : Int) := by omega
      rw [em]
      have GT := Lib.hid gt
      have hal : a + nl < len := by omega
      clear hres ht htk hdr hall hRv hdv gt g1 g2 et hnl em
      go_wp2_with fail
      go_loopw [17] (fun i wr => ∃ j : Nat, t ≤ j ∧ j ≤ nl ∧ i = .int .i64 ((a : Int) + (j : Int)) ∧ Turned w wr g 83 (ptrs N (x ++ (L.take j ++ (v :: (L.drop j ++ y)))) ++ rest)) (fun i _ => (intOf i).toNat)
      case atStart => exact ⟨nl, htR, by omega, rfl, GT.out⟩
      case round =>
        obtain ⟨j, hj, hjn, rfl, gt⟩ := hrel
        clear GT
        by_cases hlt2 : t < j
        · obtain ⟨jp, rfl⟩ : ∃ jp, j = jp + 1 := ⟨j - 1, by omega⟩
          have hjL : jp < L.length := by have := HNL.out; omega
          have hl2 := HALL.out (jp + 1) (by omega)
          have hsw : swp (x ++ (L.take (jp + 1) ++ (v :: (L.drop (jp + 1) ++ y)))) (a + jp + 1) (a + jp) = x ++ (L.take jp ++ (v :: (L.drop jp ++ y))) := by
            rw [HDR.out jp hjL, HTK.out jp hjL]
            have := swp_back (x ++ L.take jp) (L.getD jp 0) v (L.drop (jp + 1) ++ y) (a + jp) (a + jp + 1) (by rw [List.length_append, HXA.out, List.length_take]; omega) rfl
            simpa using this
          obtain ⟨s1, hs1⟩ : ∃ s, a + jp = s := ⟨_, rfl⟩
          obtain ⟨s2, hs2⟩ : ∃ s, a + jp + 1 = s := ⟨_, rfl⟩
          rw [hs2, hs1] at hsw
          obtain ⟨bx, bz, u, c1, c2, f1, f2, c3, f3, T2⟩ := gt.ex (i := s2) (j := s1) (by omega) (by omega)
          rw [hsw] at T2
          have T2 := Lib.hid T2
          have ej : ((jp + 1 : Nat) : Int) = (jp : Int) + 1 := by simp
          rw [ej]
          have e1 : ((a : Int) + ((jp : Int) + 1)).toNat = s2 := by omega
          have e2 : ((a : Int) + ((jp : Int) + 1) - 1).toNat = s1 := by omega
          have k1 : (0 : Int) ≤ (a : Int) + ((jp : Int) + 1) := by omega
          have k2 : (0 : Int) ≤ (a : Int) + ((jp : Int) + 1) - 1 := by omega
          have k2' : (1 : Int) ≤ (a : Int) + ((jp : Int) + 1) := by omega
          have k3 : (a : Int) + ((jp : Int) + 1) < (len : Int) := by omega
          have k4 : (a : Int) + ((jp : Int) + 1) - 1 < (len : Int) := by omega
          have k5 : (a : Int) + (t : Int) < (a : Int) + ((jp : Int) + 1) := by omega
          have w1 : IntKind.i64.wrap ((a : Int) + ((jp : Int) + 1)) = (a : Int) + ((jp : Int) + 1) := IntWalk.i64_in _ (by omega)
          have w2 : IntKind.i64.wrap ((a : Int) + ((jp : Int) + 1) - 1) = (a : Int) + ((jp : Int) + 1) - 1 := IntWalk.i64_in _ (by omega)
          clear hsw hl2 gt hs1 hs2 ej
          go_wp2_with fail
          go_big_region
          all_goals go_wp2
          go_roundw
          case rel => exact ⟨jp, by omega, by omega, by first | rfl | go_num | (congr 1; omega), T2.out⟩
          case measure => (simp [intOf]; try omega)
        · obtain rfl : j = t := by omega
          have j5 : ¬ ((a : Int) + (j : Int) < (a : Int) + (j : Int)) := by omega
          have e0 : x ++ (L.take j ++ (v :: (L.drop j ++ y))) = x ++ ((L.take j ++ (v :: L.drop j)) ++ y) := by simp
          rw [e0] at gt
          clear e0
          go_wp2
          refine bodyPost_ret (results_none rfl _ _ _) rfl ⟨rfl, _, HRES.out.2, HRES.out.1, gt⟩
end Go.Proofs.Ytpjdlkbpnodcdaa
