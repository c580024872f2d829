/- Walks of the trees' comparison, and of the sort's insertion. -/
import Derived.Test.YtpjdlkbpnodcdaaPRow
namespace Go.Proofs.Ytpjdlkbpnodcdaa
open Go.RowKit
set_option linter.unusedVariables false

/-- a tree's cells -/
def node (wt s : Nat) (l r : Value) : List Value := [.int .i64 (wt : Int), .int .i64 (s : Int), l, r]
/-- a leaf's -/
def leafN (wt s : Nat) : List Value := node wt s (.pointer none) (.pointer none)
theorem z_nan (x : Int) (w : World) : Calls Try.prog 62 #[.int .i64 x] w fun e w' => e = .returned (.bool false) ∧ w = w' := by
  have h1 : (x != x) = false := by simp
  go_enter Try.func62, Try.ntmps62
  go_wp2
  go_ret
  exact ⟨rfl, rfl⟩
theorem z_compare (a b : Nat) (w : World) : Calls Try.prog 59 #[.int .i64 (a : Int), .int .i64 (b : Int)] w fun e w' => e = .returned (.int .i64 (cmpN a b)) ∧ w = w' := by
  have hN := z_nan
  have HN := Lib.hid hN
  clear hN
  rcases Nat.lt_trichotomy a b with h | h | h
  · have d1 : decide (a < b) = true := by simp; omega
    have d2 : decide ((a : Int) < (b : Int)) = true := by simp; omega
    have e : cmpN a b = -1 := by unfold cmpN; rw [if_pos h]
    rw [e]
    clear e h
    go_enter Try.func59, Try.ntmps59
    go_wp2_with (go_at_call 62; (with_reducible refine (HN.out _ _).mono ?_); rintro e w9 ⟨rfl, rfl⟩)
    go_ret
    exact ⟨rfl, rfl⟩
  · subst h
    have d1 : decide (a < a) = false := by simp
    have d2 : decide ((a : Int) < (a : Int)) = false := by simp
    have e : cmpN a a = 0 := by unfold cmpN; rw [if_neg (by omega), if_neg (by omega)]
    rw [e]
    clear e
    go_enter Try.func59, Try.ntmps59
    go_wp2_with (go_at_call 62; (with_reducible refine (HN.out _ _).mono ?_); rintro e w9 ⟨rfl, rfl⟩)
    go_ret
    exact ⟨rfl, rfl⟩
  · have d1 : decide (a < b) = false := by simp; omega
    have d2 : decide ((a : Int) < (b : Int)) = false := by simp; omega
    have d3 : decide (b < a) = true := by simp; omega
    have d4 : decide ((b : Int) < (a : Int)) = true := by simp; omega
    have e : cmpN a b = 1 := by unfold cmpN; rw [if_neg (by omega), if_pos h]
    rw [e]
    clear e h
    go_enter Try.func59, Try.ntmps59
    go_wp2_with (go_at_call 62; (with_reducible refine (HN.out _ _).mono ?_); rintro e w9 ⟨rfl, rfl⟩)
    go_ret
    exact ⟨rfl, rfl⟩
set_option maxRecDepth 100000 in
theorem z_cmp (b1 b2 n1 n2 s1 s2 : Nat) (l1 r1 l2 r2 : Value) (w : World) (h1 : Blk w b1 85 (node n1 s1 l1 r1)) (h2 : Blk w b2 85 (node n2 s2 l2 r2)) :
    Calls Try.prog 58 #[.pointer (some ⟨b1, 0, none⟩), .pointer (some ⟨b2, 0, none⟩)] w fun e w' => e = .returned (.int .i64 (cmpN n1 n2)) ∧ ∃ n, w' = w.drewN n := by
  have c1 := h1.cell 0
  have c2 := h2.cell 0
  simp only [node, List.getElem?_cons_zero] at c1 c2
  have HC := Lib.hid z_compare
  clear h1 h2
  go_enter Try.func58, Try.ntmps58
  go_wp2
  go_quiet ((go_at_call 59; exact Calls.quiet_of_same ((HC.out _ _ _).mono fun _ _ h => ⟨h.1, h.2.symm⟩)))
  go_wp2
  go_ret
  exact ⟨rfl, _, rfl⟩
/-- the leaves that these numbers stand for -/
def Nds (w : World) (N k : Nat → Nat) (I : List Nat) : Prop := ∀ z, z ∈ I → Blk w (N z) 85 (leafN (k z) z)
theorem Nds.turned {w w' : World} {N k : Nat → Nat} {I : List Nat} {g : Nat} {vs vs' : List Value} (h : Nds w N k I) (ht : Turned w w' g 83 vs) (hg : Blk w g 83 vs') : Nds w' N k I := fun z hz => by
  refine ht.other (h z hz) fun e => ?_
  have h1 := h z hz
  rw [e] at h1
  unfold Blk at h1 hg
  rw [h1] at hg
  simp at hg
theorem Nds.cmp {w : World} {N k : Nat → Nat} {I : List Nat} (h : Nds w N k I) {x y : Nat} (hx : x ∈ I) (hy : y ∈ I) (m : Nat) :
    Calls Try.prog 58 #[.pointer (some ⟨N x, 0, none⟩), .pointer (some ⟨N y, 0, none⟩)] (w.drewN m) fun e w' => e = .returned (.int .i64 (cmpN (k x) (k y))) ∧ ∃ n, w' = (w.drewN m).drewN n :=
  z_cmp _ _ _ _ _ _ _ _ _ _ _ ((h x hx).drewN m) ((h y hy).drewN m)
/-- what an exchange asks -/
theorem Turned.ex {w w1 : World} {g : Nat} {t : TypeId} {N : Nat → Nat} {d : List Nat} {rest : List Value} (h : Turned w w1 g t (ptrs N d ++ rest)) {i j : Nat} (hi : i < d.length) (hj : j < d.length) :
    ∃ (bx bz : Nat) (u : Value), w1.cell? ⟨g, i, none⟩ = some (.pointer (some ⟨bx, 0, none⟩)) ∧ w1.cell? ⟨g, j, none⟩ = some (.pointer (some ⟨bz, 0, none⟩)) ∧ w1.frozen? ⟨g, i, none⟩ = false ∧ w1.frozen? ⟨g, j, none⟩ = false ∧
      (w1.setCell ⟨g, i, none⟩ (.pointer (some ⟨bz, 0, none⟩))).cell? ⟨g, j, none⟩ = some u ∧ (w1.setCell ⟨g, i, none⟩ (.pointer (some ⟨bz, 0, none⟩))).frozen? ⟨g, j, none⟩ = false ∧
      Turned w (((w1.setCell ⟨g, i, none⟩ (.pointer (some ⟨bz, 0, none⟩))).setCell ⟨g, j, none⟩ (.pointer (some ⟨bx, 0, none⟩))).drew) g t (ptrs N (swp d i j) ++ rest) := by
  obtain ⟨u, c3⟩ := swap_some h.2 (i := i) (j := j) (by rw [List.length_append, ptrs_len]; omega) (pv (N (d.getD j 0)))
  exact ⟨N (d.getD i 0), N (d.getD j 0), u, h.2.ptr hi, h.2.ptr hj, h.2.free i, h.2.free j, c3, swap_free h.2 i j _, h.swap hi hj⟩
/-- what a comparison asks -/
theorem Turned.two {w w1 : World} {g : Nat} {N k : Nat → Nat} {d I : List Nat} {rest vs : List Value} (h : Turned w w1 g 83 (ptrs N d ++ rest)) (hR : Blk w g 83 vs) (hN : Nds w N k I) (hp : d.Perm I) {i j : Nat} (hi : i < d.length) (hj : j < d.length) :
    ∃ bx bz : Nat, w1.cell? ⟨g, i, none⟩ = some (.pointer (some ⟨bx, 0, none⟩)) ∧ w1.cell? ⟨g, j, none⟩ = some (.pointer (some ⟨bz, 0, none⟩)) ∧
      ∀ m, Calls Try.prog 58 #[.pointer (some ⟨bx, 0, none⟩), .pointer (some ⟨bz, 0, none⟩)] (w1.drewN m) fun e w' => e = .returned (.int .i64 (cmpN (k (d.getD i 0)) (k (d.getD j 0)))) ∧ ∃ n, w' = (w1.drewN m).drewN n :=
  ⟨_, _, h.2.ptr hi, h.2.ptr hj, fun m => (hN.turned h hR).cmp (hp.subset (getD_mem _ _ hi)) (hp.subset (getD_mem _ _ hj)) m⟩
/-- the comparison, as a value -/
def fcmp : Value := .func (.func 58) #[] #[]
def InsO (k : Nat → Nat) (x B y : List Nat) (i : Nat) (d : List Nat) : Prop := ∃ S, d = x ++ (S ++ (B.drop i ++ y)) ∧ S.Perm (B.take i) ∧ Srt k S
def InsI (k : Nat → Nat) (x B y : List Nat) (i j : Nat) (d : List Nat) : Prop := ∃ P1 P2, d = x ++ (P1 ++ (B.getD i 0 :: (P2 ++ (B.drop (i + 1) ++ y)))) ∧ (P1 ++ P2).Perm (B.take i) ∧ Srt k (P1 ++ P2) ∧ (∀ z ∈ P2, ltk k (B.getD i 0) z) ∧ j = x.length + P1.length
theorem InsO.first {k : Nat → Nat} {x B y : List Nat} (hB : 0 < B.length) : InsO k x B y 1 (x ++ (B ++ y)) := by
  match B, hB with
  | b :: B, _ => exact ⟨[b], by simp, by simp, List.pairwise_singleton _ _⟩
theorem InsO.inner {k : Nat → Nat} {x B y : List Nat} {i : Nat} {d : List Nat} (h : InsO k x B y i d) (hi : i < B.length) : InsI k x B y i (x.length + i) d := by
  obtain ⟨S, rfl, h1, h2⟩ := h
  refine ⟨S, [], ?_, by rw [List.append_nil]; exact h1, by rw [List.append_nil]; exact h2, (fun z hz => by cases hz), ?_⟩
  · have e : B.drop i = B.getD i 0 :: B.drop (i + 1) := by rw [List.drop_eq_getElem_cons hi, List.getD_eq_getElem?_getD, List.getElem?_eq_getElem hi]; rfl
    rw [e]
    rfl
  · have := h1.length_eq
    rw [List.length_take] at this
    omega
theorem InsI.out {k : Nat → Nat} {x B y : List Nat} (hB : B.Pairwise (· < ·)) {i j : Nat} {d : List Nat} (hi : i < B.length) (h : InsI k x B y i j d) (hs : j = x.length ∨ ¬ k (d.getD j 0) < k (d.getD (j - 1) 0)) : InsO k x B y (i + 1) d := by
  obtain ⟨P1, P2, rfl, h1, h2, h3, rfl⟩ := h
  have hj : (x ++ (P1 ++ (B.getD i 0 :: (P2 ++ (B.drop (i + 1) ++ y))))).getD (x.length + P1.length) 0 = B.getD i 0 := by
    rw [getD_app, if_neg (by omega), getD_app, if_neg (by omega), show x.length + P1.length - x.length - P1.length = 0 by omega]
    rfl
  obtain ⟨q1, q2⟩ := ins_out hB hi h1 h2 h3 (by
    rcases List.eq_nil_or_concat P1 with rfl | ⟨P, p, rfl⟩
    · exact .inl rfl
    · simp only [List.concat_eq_append] at *
      refine .inr ⟨P, p, rfl, ?_⟩
      rcases hs with hs | hs
      · simp at hs
      · rw [hj] at hs
        refine fun hk => hs ?_
        rw [getD_app, if_neg (by simp), getD_app, if_pos (by simp), getD_app, if_neg (by simp), show x.length + (P ++ [p]).length - 1 - x.length - P.length = 0 by simp]
        exact hk)
  exact ⟨_, by simp, q1, q2⟩
theorem InsI.step {k : Nat → Nat} {x B y : List Nat} {i j : Nat} {d : List Nat} (h : InsI k x B y i j d) (hj : x.length < j) (hk : k (d.getD j 0) < k (d.getD (j - 1) 0)) : InsI k x B y i (j - 1) (swp d j (j - 1)) := by
  obtain ⟨P1, P2, rfl, h1, h2, h3, rfl⟩ := h
  rcases List.eq_nil_or_concat P1 with rfl | ⟨P, p, rfl⟩
  · simp at hj
  · simp only [List.concat_eq_append] at *
    have e0 : (x ++ (P ++ [p] ++ (B.getD i 0 :: (P2 ++ (B.drop (i + 1) ++ y))))) = (x ++ P) ++ (p :: B.getD i 0 :: (P2 ++ (B.drop (i + 1) ++ y))) := by simp
    rw [e0] at hk ⊢
    have el : x.length + (P ++ [p]).length = (x ++ P).length + 1 := by simp; omega
    rw [el] at hk hj ⊢
    rw [Nat.add_sub_cancel] at hk ⊢
    have g1 : (x ++ P ++ p :: B.getD i 0 :: (P2 ++ (B.drop (i + 1) ++ y))).getD ((x ++ P).length + 1) 0 = B.getD i 0 := by
      rw [getD_app, if_neg (by omega), Nat.add_sub_cancel_left]; rfl
    have g2 : (x ++ P ++ p :: B.getD i 0 :: (P2 ++ (B.drop (i + 1) ++ y))).getD ((x ++ P).length) 0 = p := by
      rw [getD_app, if_neg (by omega), Nat.sub_self]; rfl
    rw [g1, g2] at hk
    rw [swp_back _ _ _ _ _ _ rfl rfl]
    have e1 : P ++ [p] ++ P2 = P ++ (p :: P2) := by simp
    rw [e1] at h1 h2
    refine ⟨P, p :: P2, by simp, h1, h2, fun z hz => ?_, by simp⟩
    rcases List.mem_cons.1 hz with rfl | hz
    · exact .inl hk
    · exact h3 z hz
theorem InsI.mem {k : Nat → Nat} {x B y : List Nat} {i j : Nat} {d : List Nat} (hi : i < B.length) (h : InsI k x B y i j d) : d.Perm (x ++ (B ++ y)) ∧ x.length ≤ j ∧ j ≤ x.length + i := by
  obtain ⟨P1, P2, rfl, h1, h2, h3, rfl⟩ := h
  refine ⟨List.Perm.append_left _ ?_, by omega, ?_⟩
  · have e : P1 ++ (B.getD i 0 :: (P2 ++ (B.drop (i + 1) ++ y))) = (P1 ++ (B.getD i 0 :: P2)) ++ (B.drop (i + 1) ++ y) := by simp
    rw [e]
    have e2 : B ++ y = B.take (i + 1) ++ (B.drop (i + 1) ++ y) := by rw [← List.append_assoc, List.take_append_drop]
    rw [e2]
    refine List.Perm.append_right _ ?_
    rw [take_snoc B i hi]
    exact (List.perm_middle).trans ((List.Perm.cons _ h1).trans (List.perm_append_singleton _ _).symm)
  · have := h1.length_eq
    rw [List.length_append, List.length_take] at this
    omega
set_option maxRecDepth 100000 in
set_option maxHeartbeats 2000000 in
theorem z_ins (g cap len a b : Nat) (N k : Nat → Nat) (x B y : List Nat) (rest : List Value) (w : World) (hd : (x ++ (B ++ y)).length = len) (ha : x.length = a) (hb : a + B.length = b) (hB0 : 0 < B.length) (hBs : B.Pairwise (· < ·))
    (hR : Blk w g 83 (ptrs N (x ++ (B ++ y)) ++ rest)) (hN : Nds w N k (x ++ (B ++ y))) (hl : len ≤ 1000000) :
    Calls Try.prog 63 #[.slice (some ⟨g, 0, none⟩) len cap, .int .i64 (a : Int), .int .i64 (b : Int), fcmp] w fun e w' => e = .returned (.tuple #[]) ∧ ∃ S, S.Perm B ∧ Srt k S ∧ Turned w w' g 83 (ptrs N (x ++ (S ++ y)) ++ rest) := by
  unfold fcmp
  have hT := Turned.refl hR
  have hO := InsO.first (k := k) (x := x) (B := B) (y := y) hB0
  have hT := Lib.hid hT
  have hO := Lib.hid hO
  have HR := Lib.hid hR
  have HN := Lib.hid hN
  have HBS := Lib.hid hBs
  have bl : a + B.length ≤ len := by simp at hd; omega
  subst hb
  obtain ⟨n, hn⟩ : ∃ n, B.length = n := ⟨_, rfl⟩
  have HLEN := Lib.hid hd
  have HA := Lib.hid ha
  have HBL := Lib.hid hn
  rw [hn] at bl hB0 ⊢
  clear hR hN hBs hd ha hn
  have en : ((a + n : Nat) : Int) = (a : Int) + (n : Int) := by simp
  rw [en]
  clear en
  go_enter Try.func63, Try.ntmps63
  go_wp2
  go_loopw [8] (fun i wr => ∃ (p : Nat) (D : List Nat), 1 ≤ p ∧ p ≤ n ∧ i = .int .i64 ((a : Int) + (p : Int)) ∧ InsO k x B y p D ∧ Turned w wr g 83 (ptrs N D ++ rest)) (fun i _ => a + n - (intOf i).toNat)
  case atStart => exact ⟨1, _, by omega, by omega, rfl, hO.out, hT.out⟩
  case round =>
    obtain ⟨p, D, hp1, hpn, rfl, gO, gt⟩ := hrel
    clear hT hO
    by_cases hlt : p < n
    · have d1 : (p : Int) < (n : Int) := by omega
      have d2 : (a : Int) + (p : Int) < (a : Int) + (n : Int) := by omega
      have gI := gO.inner (by rw [HBL.out]; exact hlt)
      rw [HA.out] at gI
      have GI := Lib.hid gI
      clear gI gO
      go_wp2_with fail
      go_loopw [9] (fun i wr2 => ∃ (q : Nat) (E : List Nat), i = .int .i64 (q : Int) ∧ InsI k x B y p q E ∧ Turned w wr2 g 83 (ptrs N E ++ rest)) (fun i _ => (intOf i).toNat)
      case atStart => exact ⟨a + p, _, by simp, GI.out, gt⟩
      case round =>
        obtain ⟨q, E, rfl, gI, gt2⟩ := hrel
        clear gt GI
        obtain ⟨m1, m2, m3⟩ := gI.mem (by rw [HBL.out]; exact hlt)
        rw [HA.out] at m2 m3
        have hEl : E.length = len := by rw [m1.length_eq]; exact HLEN.out
        by_cases haq : a < q
        · obtain ⟨qp, rfl⟩ : ∃ qp, q = qp + 1 := ⟨q - 1, by omega⟩
          obtain ⟨bx, bz, c1, c2, hC⟩ := gt2.two HR.out HN.out m1 (i := qp + 1) (j := qp) (by omega) (by omega)
          have hout := gI.out HBS.out (by rw [HBL.out]; exact hlt)
          have hstep := gI.step (by rw [HA.out]; exact haq)
          simp only [Nat.add_sub_cancel] at hout hstep
          have ec : ((qp + 1 : Nat) : Int) = (qp : Int) + 1 := by simp
          rw [ec]
          obtain ⟨s1, hs1⟩ : ∃ s, qp + 1 = s := ⟨_, rfl⟩
          have e1 : ((qp : Int) + 1).toNat = s1 := by omega
          have i1 : (a : Int) < (qp : Int) + 1 := by omega
          have i2 : (0 : Int) ≤ (qp : Int) + 1 := by omega
          have i3 : (qp : Int) + 1 < (len : Int) := by omega
          have i4 : (qp : Int) < (len : Int) := by omega
          have i5 : (len : Int) ≤ 1000000 := by omega
          have w1 : IntKind.i64.wrap ((qp : Int) + 1) = (qp : Int) + 1 := IntWalk.i64_in _ (by omega)
          have w2 : IntKind.i64.wrap (qp : Int) = (qp : Int) := IntWalk.i64_in _ (by omega)
          have HG := Lib.hid gt2
          have HEL := Lib.hid hEl
          have HS1 := Lib.hid hs1
          have hsl : s1 < E.length := by omega
          rw [hs1] at hC c1
          by_cases hk : k (E.getD (qp + 1) 0) < k (E.getD qp 0)
          · have hlt0 : cmpN (k (E.getD (qp + 1) 0)) (k (E.getD qp 0)) < 0 := cmpN_lt.2 hk
            have hst := Lib.hid (hstep hk)
            rw [hs1] at hlt0 hst
            generalize cmpN (k (E.getD s1 0)) (k (E.getD qp 0)) = cv at *
            have dk : decide (cv < 0) = true := decide_eq_true hlt0
            have HC := Lib.hid hC
            have HSL := Lib.hid hsl
            clear hC hs1 hout hstep m1 m2 m3 hEl gI gt2 hlt0 hk ec hsl
            go_wp2_with fail
            go_quiet ((go_at_call 58; exact Calls.quiet_of (HC.out _)))
            have T := HG.out.drewN nq
            clear c1 c2 HC HG dk
            generalize World.drewN wr nq = w3 at *
            obtain ⟨bx, bz, u, c1, c2, f1, f2, c3, f3, T2⟩ := T.ex (i := s1) (j := qp) HSL.out (by have := HSL.out; have := HS1.out; omega)
            have T2 := Lib.hid T2
            clear T
            go_wp2_with fail
            go_big_region
            all_goals go_wp2
            go_roundw
            case rel => exact ⟨qp, _, by first | rfl | go_num | (congr 1; omega), hst.out, T2.out⟩
            case measure => (simp [intOf]; try omega)
          · have hlt0 : ¬ cmpN (k (E.getD (qp + 1) 0)) (k (E.getD qp 0)) < 0 := fun h => hk (cmpN_lt.1 h)
            have hst := Lib.hid (hout (.inr hk))
            rw [hs1] at hlt0
            generalize cmpN (k (E.getD s1 0)) (k (E.getD qp 0)) = cv at *
            have dk : decide (cv < 0) = false := decide_eq_false hlt0
            have HC := Lib.hid hC
            clear hC hs1 hout hstep m1 m2 m3 hEl gI gt2 hk ec hsl
            go_wp2_with fail
            go_quiet ((go_at_call 58; exact Calls.quiet_of (HC.out _)))
            have T := HG.out.drewN nq
            clear c1 c2 HC HG dk
            generalize World.drewN wr nq = w3 at *
            go_wp2
            go_roundw
            case rel => exact ⟨p + 1, _, by omega, by omega, by first | rfl | go_num | (congr 1; omega), hst.out, T⟩
            case measure => (simp [intOf]; try omega)
        · obtain rfl : q = a := by omega
          have hout := Lib.hid (gI.out HBS.out (by rw [HBL.out]; exact hlt) (.inl HA.out.symm))
          have d3 : decide ((q : Int) > (q : Int)) = false := by simp
          have d4 : ¬ (q : Int) < (q : Int) := by omega
          clear gI m1 m2 m3 hEl
          have T := gt2.drew
          go_wp2_with fail
          go_big_region
          all_goals go_wp2
          go_roundw
          case rel => exact ⟨p + 1, _, by omega, by omega, by first | rfl | go_num | (congr 1; omega), hout.out, T⟩
          case measure => (simp [intOf]; try omega)
    · obtain rfl : p = n := by omega
      obtain ⟨S, rfl, q1, q2⟩ := gO
      have e0 : B.take p = B := List.take_of_length_le (by rw [HBL.out]; exact Nat.le_refl _)
      have e1 : B.drop p = [] := List.drop_of_length_le (by rw [HBL.out]; exact Nat.le_refl _)
      rw [e0] at q1
      rw [e1, List.nil_append] at gt
      have d2 : ¬ ((a : Int) + (p : Int) < (a : Int) + (p : Int)) := by omega
      clear e0 e1
      go_wp2
      go_end0
      exact ⟨rfl, S, q1, q2, gt⟩
end Go.Proofs.Ytpjdlkbpnodcdaa
