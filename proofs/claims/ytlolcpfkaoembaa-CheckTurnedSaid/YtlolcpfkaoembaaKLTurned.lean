/-
  For all texts, places, bits and whether they are the sum's: a frame some bits of whose sum, or of what is framed, are turned within 32 of one another is none; one of which none is turned is found. Longer texts than the bound, and no bits, are answered by the case shown alone. No condition.
-/
import Derived.Test.YtlolcpfkaoembaaRows
import Derived.Test.YtlolcpfkaoembaaKB
import Derived.Test.YtlolcpfkaoembaaKA
import Derived.Test.YtlolcpfkaoembaaG1
import Derived.ShutString
import Derived.ChangeOld
namespace Go.Proofs.Ytlolcpfkaoembaa.checkTurned
open Go.ChangeShapes Go.WideShapes Go.ChangeAt Go.RowKit
open Go.ChangeMaps (open_string shut_string)
set_option linter.unusedVariables false

theorem nat_u16 (x : Int) (h : (Lit.int .u16 x).wf = true) : ∃ n : Nat, x = (n : Int) ∧ n < 65536 := by
  have := bounds_u16 h
  exact ⟨x.toNat, by omega, by omega⟩
theorem turn_yes {bits f p M i : Nat} {b : List Nat} (h1 : p + i < M) (h2 : bits / 2 ^ i % 2 = 1) : turnK bits f p M (i + 1) b = flipK (turnK bits f p M i b) (f + (p + i)) ∧ anyT bits p M (i + 1) = true := by
  refine ⟨by rw [turnK, if_pos ⟨h1, h2⟩], ?_⟩
  unfold anyT
  simp [h1, h2]
theorem turn_no {bits f p M i : Nat} {b : List Nat} (h : ¬ (p + i < M ∧ bits / 2 ^ i % 2 = 1)) : turnK bits f p M (i + 1) b = turnK bits f p M i b ∧ anyT bits p M (i + 1) = anyT bits p M i := by
  refine ⟨by rw [turnK, if_neg h], ?_⟩
  conv => lhs; unfold anyT
  by_cases h1 : p + i < M
  · have h2 : ¬ bits / 2 ^ i % 2 = 1 := fun h2 => h ⟨h1, h2⟩
    simp [h2]
  · simp [h1]
theorem pow_byte : ∀ r : Fin 8, IntKind.u8.wrap ((2 : Int) ^ r.val) = ((2 ^ r.val : Nat) : Int) ∧ 2 ^ r.val < 256 := by decide +kernel
set_option maxHeartbeats 4000000 in
set_option maxRecDepth 100000 in
theorem walk (s : ByteArray) (x1 x2 : Int) (sum : Bool) (rest : ByteArray) (n0 : s.size ≤ maxLen) (n1 : (Lit.int .u16 x1).wf = true) (n2 : (Lit.int .u32 x2).wf = true) (n4 : rest.size ≤ maxLen) (w : World) :
    Calls Try.prog 5 #[.string s, .int .u16 x1, .int .u32 x2, .bool sum, .string rest] w fun e w' => e = .returned (.bool true) ∧ Below w.heap.size w w' := by
  obtain ⟨at0, rfl, hat⟩ := nat_u16 x1 n1
  obtain ⟨bt, rfl, hbt⟩ := nat_u32 x2 n2
  have HS := Lib.hid (fun w => k_shown w)
  clear n1 n2
  by_cases h1 : 200 < s.size
  · have g1 : (200 : Int) < (s.size : Int) := by omega
    go_enter Try.func5, Try.ntmps5
    go_wp2_with (go_at_call 9; (with_reducible refine (HS.out _).mono ?_); rintro e w1 ⟨rfl, hb1⟩)
    go_ret
    exact ⟨rfl, hb1⟩
  have g1 : ¬ (200 : Int) < (s.size : Int) := by omega
  by_cases h2 : 200 < rest.size
  · have g2 : (200 : Int) < (rest.size : Int) := by omega
    go_enter Try.func5, Try.ntmps5
    go_wp2_with (go_at_call 9; (with_reducible refine (HS.out _).mono ?_); rintro e w1 ⟨rfl, hb1⟩)
    go_ret
    exact ⟨rfl, hb1⟩
  have g2 : ¬ (200 : Int) < (rest.size : Int) := by omega
  by_cases h3 : bt = 0
  · subst h3
    go_enter Try.func5, Try.ntmps5
    go_wp2_with (go_at_call 9; (with_reducible refine (HS.out _).mono ?_); rintro e w1 ⟨rfl, hb1⟩)
    go_ret
    exact ⟨rfl, hb1⟩
  have g3 : ((bt : Int) == 0) = false := by rw [beq_eq_false_iff_ne]; omega
  obtain ⟨K, hK⟩ : ∃ K, frameK (sl s) = K := ⟨_, rfl⟩
  have hKb : Bys K := by rw [← hK]; exact frame_bys (sl_bys s)
  have hKl : K.length = 6 + s.size := by rw [← hK, frame_len, sl_len]
  obtain ⟨F, hF⟩ : ∃ F, tx K = F := ⟨_, rfl⟩
  have hFr := fun w => k_Frame s w (by omega) F (by rw [hK]; exact hF)
  have hFz : F.size = 6 + s.size := by rw [← hF, tx_size, hKl]
  have hFl : sl F = K := by rw [← hF]; exact sl_tx hKb
  have hFi : is F = nn K := by rw [is_sl, hFl]
  have g4 : (F.size : Int) = 6 + (s.size : Int) := by omega
  have g5 : ((F.size : Int) != 6 + (s.size : Int)) = false := by rw [g4]; simp
  have HFr := Lib.hid hFr
  have HFi := Lib.hid hFi
  have HK := Lib.hid hK
  have HKB := Lib.hid hKb
  have HKL := Lib.hid hKl
  have hm0 : F.size ≤ maxLen := by unfold maxLen; omega
  clear hFr hFi hK hKb hKl hF hFl g4 h3
  by_cases hsel : sum = true
  · -- 16, 32
    subst hsel
    obtain ⟨p, hp, hpM⟩ : ∃ p, at0 % 32 = p ∧ p < 32 := ⟨_, rfl, Nat.mod_lt _ (by omega)⟩
    have e1 : (at0 : Int) % 32 = (p : Int) := by rw [← hp]; simp
    have e2 : (at0 : Int).tmod 32 = (p : Int) := by rw [Int.tmod_eq_emod_of_nonneg (by omega)]; exact e1
    have hfin : ∀ tt, anyT bt p 32 32 = tt → ∃ (x r : ByteArray) (er : Nat), (∀ w : World, Calls Try.prog 12 #[.string (tx (turnK bt 16 p 32 32 K) ++ rest)] w fun e w' => e = .returned (.tuple #[.string x, .string r, .int .i64 (er : Int)]) ∧ Below w.heap.size w w') ∧
        ((tt = true ∧ er = 100 ∧ x = ⟨#[]⟩) ∨ (tt = false ∧ er = 0 ∧ x = s)) := fun tt htt => by
      have hTb := turn_bys bt 16 p 32 HKB.out 32
      have hTl := turn_len bt 16 p 32 32 K
      have hC := fun w => k_First (tx (turnK bt 16 p 32 32 K) ++ rest) w (by rw [ByteArray.size_append, tx_size, hTl, HKL.out]; omega)
      unfold FirstRet at hC
      rw [sl_app, sl_tx hTb] at hC
      cases tt with
      | true =>
        have hq : firstK (turnK bt 16 p 32 32 K ++ sl rest) = ([], [], 100) := by
          rw [← HK.out]
          exact turned_sum (sl_bys s) (by rw [sl_len]; omega) htt
        rw [hq] at hC
        exact ⟨_, _, 100, hC, .inl ⟨rfl, rfl, rfl⟩⟩
      | false =>
        have hq : firstK (turnK bt 16 p 32 32 K ++ sl rest) = (sl s, sl rest, 0) := by
          rw [anyT_none htt 16 K, ← HK.out]
          exact first_frame (sl_bys s) (by rw [sl_len]; omega) _
        rw [hq] at hC
        exact ⟨_, _, 0, hC, .inr ⟨rfl, rfl, by rw [tx_sl]⟩⟩
    have HFin := Lib.hid hfin
    clear hfin hp
    go_enter Try.func5, Try.ntmps5
    go_wp2_with (first | (go_at_call 9; (with_reducible refine (HS.out _).mono ?_); rintro e w1 ⟨rfl, hb1⟩) | (go_at_call 10; (with_reducible refine (HFr.out _).mono ?_); rintro e w2 ⟨rfl, hb2⟩) | (refine wpList_bytes_at rfl 9 38 5 _ rfl w2.heap.size F rfl Try.underlying9 Try.underlying38 Try.underlying5 (Nat.le_refl _) hm0 ?_; intro cap5 w5 how5 hb5; rw [HFi.out] at how5))
    have hb0 := (hb1.trans (hb2.mono hb1.size)).trans (hb5.mono (by have := hb1.size; have := hb2.size; omega))
    have hB : w.heap.size ≤ w2.heap.size := by have := hb1.size; have := hb2.size; omega
    generalize w2.heap.size = B at *
    clear hb1 hb2 hb5
    go_loopw [16, 17, 18] (fun u i _ wr => ∃ j : Nat, j ≤ 32 ∧ i = .int .i64 (j : Int) ∧ u = .bool (anyT bt p 32 j) ∧ OwnM wr B 5 (.slice (some ⟨B, 0, none⟩) F.size cap5) (nn (turnK bt 16 p 32 j K)) ∧ Below w.heap.size w wr) (fun _ i _ _ => 32 - (intOf i).toNat)
    case atStart => exact ⟨0, by omega, rfl, rfl, how5, hb0⟩
    case round =>
      obtain ⟨j, hj, rfl, rfl, go, gb⟩ := hrel
      clear how5 hb0
      by_cases hlt : j < 32
      · have d1 : (j : Int) < 32 := by omega
        obtain ⟨kk, hkk⟩ : ∃ kk, p + j = kk := ⟨_, rfl⟩
        have ek : (p : Int) + (j : Int) = (kk : Int) := by omega
        have hv : (bt : Int) / 2 ^ j = ((bt / 2 ^ j : Nat) : Int) := by simp
        have hlt2 : bt / 2 ^ j < 4294967296 := Nat.lt_of_le_of_lt (Nat.div_le_self _ _) hbt
        have hand : bits .and .u32 ((bt : Int) / 2 ^ j) 1 = ((bt / 2 ^ j % 2 : Nat) : Int) := by rw [hv]; exact lowK _ hlt2
        have i2 : (j : Int).toNat = j := by omega
        have i3 : (0 : Int) ≤ (j : Int) := by omega
        by_cases hk : p + j < 32
        · have d2 : (kk : Int) < 32 := by omega
          by_cases hbit : bt / 2 ^ j % 2 = 1
          · obtain ⟨t1, t2⟩ := turn_yes (f := 16) (b := K) hk hbit
            rw [hkk] at t1
            have hand1 : bits .and .u32 ((bt : Int) / 2 ^ j) 1 = 1 := by rw [hand, hbit]; rfl
            obtain ⟨q, r, hq, hr, hr8⟩ : ∃ q r, (16 + kk) / 8 = q ∧ (16 + kk) % 8 = r ∧ r < 8 := ⟨_, _, rfl, rfl, Nat.mod_lt _ (by decide)⟩
            obtain ⟨T, hT⟩ : ∃ T, turnK bt 16 p 32 j K = T := ⟨_, rfl⟩
            have hTl : T.length = F.size := by rw [← hT, turn_len, HKL.out, hFz]
            have hTb : Bys T := by rw [← hT]; exact turn_bys bt 16 p 32 HKB.out j
            have hqT : q < T.length := by omega
            rw [hT] at t1 go
            unfold flipK at t1
            rw [hq, hr] at t1
            have hqn : q < (nn T).length := by rw [nn_length]; exact hqT
            have c1 := go.cell hqn
            have z1 := go.free hqn
            rw [nn_getD] at c1
            obtain ⟨c, hc⟩ : ∃ c, T.getD q 0 = c := ⟨_, rfl⟩
            rw [hc] at c1 t1
            have hc8 : c < 256 := by rw [← hc]; exact hTb q
            obtain ⟨hw8, hw9⟩ := pow_byte ⟨r, hr8⟩
            dsimp only at hw8 hw9
            have hx := xorB c (2 ^ r) hc8 hw9
            obtain ⟨P, hP⟩ : ∃ P, 2 ^ r = P := ⟨_, rfl⟩
            rw [hP] at hw8 hx t1
            obtain ⟨y, hy⟩ : ∃ y, c ^^^ P = y := ⟨_, rfl⟩
            rw [hy] at hx t1
            obtain ⟨J, hJ⟩ : ∃ J, 16 + kk = J := ⟨_, rfl⟩
            have j0 : (16 : Int) + (kk : Int) = (J : Int) := by omega
            have j1 : (J : Int) / 8 = (q : Int) := by omega
            have j2 : (J : Int) % 8 = (r : Int) := by omega
            have j3 : (J : Int).tmod 8 = (r : Int) := by rw [Int.tmod_eq_emod_of_nonneg (by omega)]; exact j2
            have j4 : (0 : Int) ≤ (J : Int) := by omega
            have j5 : (J : Int) < 100000 := by omega
            have j6 : (q : Int) < (F.size : Int) := by omega
            have j7 : (0 : Int) ≤ (q : Int) := by omega
            have j8 : (q : Int).toNat = q := by omega
            have j9 : (r : Int).toNat = r := by omega
            have j10 : (0 : Int) ≤ (r : Int) := by omega
            have GO := Lib.hid go
            have HQN := Lib.hid hqn
            have T1 := Lib.hid t1
            have T2 := Lib.hid t2
            clear hq hr hT hTl hTb hqT t1 t2 hqn hc hP hy hJ hkk hand hv hlt2 go hw9 hc8
            go_wp2
            refine region_drew_tail 19 mixed (by kernel_rfl) ?_
            simp only [List.take_succ_cons, List.take_zero, List.drop_succ_cons, List.drop_zero]
            repeat (first | go_big_quiet_step (fail) | quiet_step (fail))
            refine wpQuiet_nil ?_
            rintro _ ⟨nq, rfl⟩
            have c2 := (GO.out.drewN nq).cell HQN.out
            have z2 := (GO.out.drewN nq).free HQN.out
            have o5 := (GO.out.drewN nq).set HQN.out (y : Int)
            rw [nn_set, ← T1.out] at o5
            have gb5 := (below_drewN gb nq).setCell (p := ⟨B, q, none⟩) hB (.int .u8 (y : Int))
            have O5 := Lib.hid o5
            have G5 := Lib.hid gb5
            clear o5 gb5 c1 z1 GO gb
            generalize wr.drewN nq = w6 at *
            go_wp2
            go_roundw
            case rel => exact ⟨j + 1, by omega, by go_num, by rw [T2.out], O5.out, G5.out⟩
            case measure => simp [intOf]; omega
          · obtain ⟨t1, t2⟩ := turn_no (bits := bt) (p := p) (M := 32) (f := 16) (b := K) (i := j) (fun h => hbit h.2)
            have hand1 : bits .and .u32 ((bt : Int) / 2 ^ j) 1 = 0 := by rw [hand, show bt / 2 ^ j % 2 = 0 by omega]; rfl
            have T1 := Lib.hid t1
            have T2 := Lib.hid t2
            clear hand hv hlt2 hbit t1 t2 hkk
            go_wp2
            go_roundw
            case rel => exact ⟨j + 1, by omega, by go_num, by rw [T2.out], by rw [T1.out]; exact go, gb⟩
            case measure => simp [intOf]; omega
        · obtain ⟨t1, t2⟩ := turn_no (bits := bt) (f := 16) (b := K) (i := j) (fun h => hk h.1)
          have d2 : ¬ (kk : Int) < 32 := by omega
          have T1 := Lib.hid t1
          have T2 := Lib.hid t2
          clear hand hv hlt2 t1 t2 hkk
          go_wp2
          go_roundw
          case rel => exact ⟨j + 1, by omega, by go_num, by rw [T2.out], by rw [T1.out]; exact go, gb⟩
          case measure => simp [intOf]; omega
      · obtain rfl : j = 32 := by omega
        obtain ⟨tt, htt⟩ : ∃ tt, anyT bt p 32 32 = tt := ⟨_, rfl⟩
        obtain ⟨x, r, er, hC, hcase⟩ := HFin.out tt htt
        obtain ⟨TT, hTT⟩ : ∃ TT, tx (turnK bt 16 p 32 32 K) = TT := ⟨_, rfl⟩
        have hTz : TT.size = 6 + s.size := by rw [← hTT, tx_size, turn_len, HKL.out]
        have hadd := fun w' => run_string_add_sum (P := Try.prog) w' TT rest (by omega)
        rw [htt]
        simp only [hTT] at hC
        have HC := Lib.hid hC
        have HTT : Hid (bs (nn (turnK bt 16 p 32 32 K)) = TT) := Lib.hid hTT
        rw [hFz] at go
        have GO := Lib.hid go
        clear hC hTT htt go hTz HFin hlt hj
        rcases hcase with ⟨rfl, rfl, rfl⟩ | ⟨rfl, rfl, rfl⟩
        · go_wp2_with (first | (refine wpList_string_ownM rfl 38 9 5 _ rfl B _ _ rfl Try.underlying38 Try.underlying5 Try.underlying9 GO.out ?_; rw [HTT.out]) | (go_at_call 12; (with_reducible refine (HC.out _).mono ?_); rintro e w9 ⟨rfl, hb9⟩))
          go_ret
          exact ⟨rfl, gb.trans (hb9.mono gb.size)⟩
        · have hxs := txt_same x
          go_wp2_with (first | (refine wpList_string_ownM rfl 38 9 5 _ rfl B _ _ rfl Try.underlying38 Try.underlying5 Try.underlying9 GO.out ?_; rw [HTT.out]) | (go_at_call 12; (with_reducible refine (HC.out _).mono ?_); rintro e w9 ⟨rfl, hb9⟩))
          go_ret
          exact ⟨rfl, gb.trans (hb9.mono gb.size)⟩
  by_cases hsel2 : sum = false ∧ s.size = 0
  · -- 16, 32
    obtain ⟨rfl, hs0⟩ := hsel2
    have z1 : ((8 * (s.size : Int)) == 0) = true := by rw [beq_iff_eq]; omega
    have HS0 := Lib.hid hs0
    clear hs0
    obtain ⟨p, hp, hpM⟩ : ∃ p, at0 % 32 = p ∧ p < 32 := ⟨_, rfl, Nat.mod_lt _ (by omega)⟩
    have e1 : (at0 : Int) % 32 = (p : Int) := by rw [← hp]; simp
    have e2 : (at0 : Int).tmod 32 = (p : Int) := by rw [Int.tmod_eq_emod_of_nonneg (by omega)]; exact e1
    have hfin : ∀ tt, anyT bt p 32 32 = tt → ∃ (x r : ByteArray) (er : Nat), (∀ w : World, Calls Try.prog 12 #[.string (tx (turnK bt 16 p 32 32 K) ++ rest)] w fun e w' => e = .returned (.tuple #[.string x, .string r, .int .i64 (er : Int)]) ∧ Below w.heap.size w w') ∧
        ((tt = true ∧ er = 100 ∧ x = ⟨#[]⟩) ∨ (tt = false ∧ er = 0 ∧ x = s)) := fun tt htt => by
      have hTb := turn_bys bt 16 p 32 HKB.out 32
      have hTl := turn_len bt 16 p 32 32 K
      have hC := fun w => k_First (tx (turnK bt 16 p 32 32 K) ++ rest) w (by rw [ByteArray.size_append, tx_size, hTl, HKL.out]; omega)
      unfold FirstRet at hC
      rw [sl_app, sl_tx hTb] at hC
      cases tt with
      | true =>
        have hq : firstK (turnK bt 16 p 32 32 K ++ sl rest) = ([], [], 100) := by
          rw [← HK.out]
          exact turned_sum (sl_bys s) (by rw [sl_len]; omega) htt
        rw [hq] at hC
        exact ⟨_, _, 100, hC, .inl ⟨rfl, rfl, rfl⟩⟩
      | false =>
        have hq : firstK (turnK bt 16 p 32 32 K ++ sl rest) = (sl s, sl rest, 0) := by
          rw [anyT_none htt 16 K, ← HK.out]
          exact first_frame (sl_bys s) (by rw [sl_len]; omega) _
        rw [hq] at hC
        exact ⟨_, _, 0, hC, .inr ⟨rfl, rfl, by rw [tx_sl]⟩⟩
    have HFin := Lib.hid hfin
    clear hfin hp
    go_enter Try.func5, Try.ntmps5
    go_wp2_with (first | (go_at_call 9; (with_reducible refine (HS.out _).mono ?_); rintro e w1 ⟨rfl, hb1⟩) | (go_at_call 10; (with_reducible refine (HFr.out _).mono ?_); rintro e w2 ⟨rfl, hb2⟩) | (refine wpList_bytes_at rfl 9 38 5 _ rfl w2.heap.size F rfl Try.underlying9 Try.underlying38 Try.underlying5 (Nat.le_refl _) hm0 ?_; intro cap5 w5 how5 hb5; rw [HFi.out] at how5))
    have hb0 := (hb1.trans (hb2.mono hb1.size)).trans (hb5.mono (by have := hb1.size; have := hb2.size; omega))
    have hB : w.heap.size ≤ w2.heap.size := by have := hb1.size; have := hb2.size; omega
    generalize w2.heap.size = B at *
    clear hb1 hb2 hb5
    go_loopw [16, 17, 18] (fun u i _ wr => ∃ j : Nat, j ≤ 32 ∧ i = .int .i64 (j : Int) ∧ u = .bool (anyT bt p 32 j) ∧ OwnM wr B 5 (.slice (some ⟨B, 0, none⟩) F.size cap5) (nn (turnK bt 16 p 32 j K)) ∧ Below w.heap.size w wr) (fun _ i _ _ => 32 - (intOf i).toNat)
    case atStart => exact ⟨0, by omega, rfl, rfl, how5, hb0⟩
    case round =>
      obtain ⟨j, hj, rfl, rfl, go, gb⟩ := hrel
      clear how5 hb0
      by_cases hlt : j < 32
      · have d1 : (j : Int) < 32 := by omega
        obtain ⟨kk, hkk⟩ : ∃ kk, p + j = kk := ⟨_, rfl⟩
        have ek : (p : Int) + (j : Int) = (kk : Int) := by omega
        have hv : (bt : Int) / 2 ^ j = ((bt / 2 ^ j : Nat) : Int) := by simp
        have hlt2 : bt / 2 ^ j < 4294967296 := Nat.lt_of_le_of_lt (Nat.div_le_self _ _) hbt
        have hand : bits .and .u32 ((bt : Int) / 2 ^ j) 1 = ((bt / 2 ^ j % 2 : Nat) : Int) := by rw [hv]; exact lowK _ hlt2
        have i2 : (j : Int).toNat = j := by omega
        have i3 : (0 : Int) ≤ (j : Int) := by omega
        by_cases hk : p + j < 32
        · have d2 : (kk : Int) < 32 := by omega
          by_cases hbit : bt / 2 ^ j % 2 = 1
          · obtain ⟨t1, t2⟩ := turn_yes (f := 16) (b := K) hk hbit
            rw [hkk] at t1
            have hand1 : bits .and .u32 ((bt : Int) / 2 ^ j) 1 = 1 := by rw [hand, hbit]; rfl
            obtain ⟨q, r, hq, hr, hr8⟩ : ∃ q r, (16 + kk) / 8 = q ∧ (16 + kk) % 8 = r ∧ r < 8 := ⟨_, _, rfl, rfl, Nat.mod_lt _ (by decide)⟩
            obtain ⟨T, hT⟩ : ∃ T, turnK bt 16 p 32 j K = T := ⟨_, rfl⟩
            have hTl : T.length = F.size := by rw [← hT, turn_len, HKL.out, hFz]
            have hTb : Bys T := by rw [← hT]; exact turn_bys bt 16 p 32 HKB.out j
            have hqT : q < T.length := by omega
            rw [hT] at t1 go
            unfold flipK at t1
            rw [hq, hr] at t1
            have hqn : q < (nn T).length := by rw [nn_length]; exact hqT
            have c1 := go.cell hqn
            have z1 := go.free hqn
            rw [nn_getD] at c1
            obtain ⟨c, hc⟩ : ∃ c, T.getD q 0 = c := ⟨_, rfl⟩
            rw [hc] at c1 t1
            have hc8 : c < 256 := by rw [← hc]; exact hTb q
            obtain ⟨hw8, hw9⟩ := pow_byte ⟨r, hr8⟩
            dsimp only at hw8 hw9
            have hx := xorB c (2 ^ r) hc8 hw9
            obtain ⟨P, hP⟩ : ∃ P, 2 ^ r = P := ⟨_, rfl⟩
            rw [hP] at hw8 hx t1
            obtain ⟨y, hy⟩ : ∃ y, c ^^^ P = y := ⟨_, rfl⟩
            rw [hy] at hx t1
            obtain ⟨J, hJ⟩ : ∃ J, 16 + kk = J := ⟨_, rfl⟩
            have j0 : (16 : Int) + (kk : Int) = (J : Int) := by omega
            have j1 : (J : Int) / 8 = (q : Int) := by omega
            have j2 : (J : Int) % 8 = (r : Int) := by omega
            have j3 : (J : Int).tmod 8 = (r : Int) := by rw [Int.tmod_eq_emod_of_nonneg (by omega)]; exact j2
            have j4 : (0 : Int) ≤ (J : Int) := by omega
            have j5 : (J : Int) < 100000 := by omega
            have j6 : (q : Int) < (F.size : Int) := by omega
            have j7 : (0 : Int) ≤ (q : Int) := by omega
            have j8 : (q : Int).toNat = q := by omega
            have j9 : (r : Int).toNat = r := by omega
            have j10 : (0 : Int) ≤ (r : Int) := by omega
            have GO := Lib.hid go
            have HQN := Lib.hid hqn
            have T1 := Lib.hid t1
            have T2 := Lib.hid t2
            clear hq hr hT hTl hTb hqT t1 t2 hqn hc hP hy hJ hkk hand hv hlt2 go hw9 hc8
            go_wp2
            refine region_drew_tail 19 mixed (by kernel_rfl) ?_
            simp only [List.take_succ_cons, List.take_zero, List.drop_succ_cons, List.drop_zero]
            repeat (first | go_big_quiet_step (fail) | quiet_step (fail))
            refine wpQuiet_nil ?_
            rintro _ ⟨nq, rfl⟩
            have c2 := (GO.out.drewN nq).cell HQN.out
            have z2 := (GO.out.drewN nq).free HQN.out
            have o5 := (GO.out.drewN nq).set HQN.out (y : Int)
            rw [nn_set, ← T1.out] at o5
            have gb5 := (below_drewN gb nq).setCell (p := ⟨B, q, none⟩) hB (.int .u8 (y : Int))
            have O5 := Lib.hid o5
            have G5 := Lib.hid gb5
            clear o5 gb5 c1 z1 GO gb
            generalize wr.drewN nq = w6 at *
            go_wp2
            go_roundw
            case rel => exact ⟨j + 1, by omega, by go_num, by rw [T2.out], O5.out, G5.out⟩
            case measure => simp [intOf]; omega
          · obtain ⟨t1, t2⟩ := turn_no (bits := bt) (p := p) (M := 32) (f := 16) (b := K) (i := j) (fun h => hbit h.2)
            have hand1 : bits .and .u32 ((bt : Int) / 2 ^ j) 1 = 0 := by rw [hand, show bt / 2 ^ j % 2 = 0 by omega]; rfl
            have T1 := Lib.hid t1
            have T2 := Lib.hid t2
            clear hand hv hlt2 hbit t1 t2 hkk
            go_wp2
            go_roundw
            case rel => exact ⟨j + 1, by omega, by go_num, by rw [T2.out], by rw [T1.out]; exact go, gb⟩
            case measure => simp [intOf]; omega
        · obtain ⟨t1, t2⟩ := turn_no (bits := bt) (f := 16) (b := K) (i := j) (fun h => hk h.1)
          have d2 : ¬ (kk : Int) < 32 := by omega
          have T1 := Lib.hid t1
          have T2 := Lib.hid t2
          clear hand hv hlt2 t1 t2 hkk
          go_wp2
          go_roundw
          case rel => exact ⟨j + 1, by omega, by go_num, by rw [T2.out], by rw [T1.out]; exact go, gb⟩
          case measure => simp [intOf]; omega
      · obtain rfl : j = 32 := by omega
        obtain ⟨tt, htt⟩ : ∃ tt, anyT bt p 32 32 = tt := ⟨_, rfl⟩
        obtain ⟨x, r, er, hC, hcase⟩ := HFin.out tt htt
        obtain ⟨TT, hTT⟩ : ∃ TT, tx (turnK bt 16 p 32 32 K) = TT := ⟨_, rfl⟩
        have hTz : TT.size = 6 + s.size := by rw [← hTT, tx_size, turn_len, HKL.out]
        have hadd := fun w' => run_string_add_sum (P := Try.prog) w' TT rest (by omega)
        rw [htt]
        simp only [hTT] at hC
        have HC := Lib.hid hC
        have HTT : Hid (bs (nn (turnK bt 16 p 32 32 K)) = TT) := Lib.hid hTT
        rw [hFz] at go
        have GO := Lib.hid go
        clear hC hTT htt go hTz HFin hlt hj
        rcases hcase with ⟨rfl, rfl, rfl⟩ | ⟨rfl, rfl, rfl⟩
        · go_wp2_with (first | (refine wpList_string_ownM rfl 38 9 5 _ rfl B _ _ rfl Try.underlying38 Try.underlying5 Try.underlying9 GO.out ?_; rw [HTT.out]) | (go_at_call 12; (with_reducible refine (HC.out _).mono ?_); rintro e w9 ⟨rfl, hb9⟩))
          go_ret
          exact ⟨rfl, gb.trans (hb9.mono gb.size)⟩
        · have hxs := txt_same x
          go_wp2_with (first | (refine wpList_string_ownM rfl 38 9 5 _ rfl B _ _ rfl Try.underlying38 Try.underlying5 Try.underlying9 GO.out ?_; rw [HTT.out]) | (go_at_call 12; (with_reducible refine (HC.out _).mono ?_); rintro e w9 ⟨rfl, hb9⟩))
          go_ret
          exact ⟨rfl, gb.trans (hb9.mono gb.size)⟩
  · -- 48, (8 * s.size)
    obtain ⟨rfl, hs0⟩ : sum = false ∧ s.size ≠ 0 := by
      cases sum with
      | true => exact absurd rfl hsel
      | false => exact ⟨rfl, fun h => hsel2 ⟨rfl, h⟩⟩
    have z0 : ¬ 8 * (s.size : Int) = 0 := by omega
    have z1 : ((8 * (s.size : Int)) == 0) = false := by rw [beq_eq_false_iff_ne]; omega
    obtain ⟨p, hp, hpM⟩ : ∃ p, at0 % (8 * s.size) = p ∧ p < (8 * s.size) := ⟨_, rfl, Nat.mod_lt _ (by omega)⟩
    have e1 : (at0 : Int) % (8 * (s.size : Int)) = (p : Int) := by rw [← hp]; simp
    have e2 : (at0 : Int).tmod (8 * (s.size : Int)) = (p : Int) := by rw [Int.tmod_eq_emod_of_nonneg (by omega)]; exact e1
    have hfin : ∀ tt, anyT bt p (8 * s.size) 32 = tt → ∃ (x r : ByteArray) (er : Nat), (∀ w : World, Calls Try.prog 12 #[.string (tx (turnK bt 48 p (8 * s.size) 32 K) ++ rest)] w fun e w' => e = .returned (.tuple #[.string x, .string r, .int .i64 (er : Int)]) ∧ Below w.heap.size w w') ∧
        ((tt = true ∧ er = 100 ∧ x = ⟨#[]⟩) ∨ (tt = false ∧ er = 0 ∧ x = s)) := fun tt htt => by
      have hTb := turn_bys bt 48 p (8 * s.size) HKB.out 32
      have hTl := turn_len bt 48 p (8 * s.size) 32 K
      have hC := fun w => k_First (tx (turnK bt 48 p (8 * s.size) 32 K) ++ rest) w (by rw [ByteArray.size_append, tx_size, hTl, HKL.out]; omega)
      unfold FirstRet at hC
      rw [sl_app, sl_tx hTb] at hC
      cases tt with
      | true =>
        have hq : firstK (turnK bt 48 p (8 * s.size) 32 K ++ sl rest) = ([], [], 100) := by
          rw [← HK.out]
          exact (by rw [← sl_len] at htt ⊢; exact turned_text (sl_bys s) (by rw [sl_len]; omega) (by decide) htt)
        rw [hq] at hC
        exact ⟨_, _, 100, hC, .inl ⟨rfl, rfl, rfl⟩⟩
      | false =>
        have hq : firstK (turnK bt 48 p (8 * s.size) 32 K ++ sl rest) = (sl s, sl rest, 0) := by
          rw [anyT_none htt 48 K, ← HK.out]
          exact first_frame (sl_bys s) (by rw [sl_len]; omega) _
        rw [hq] at hC
        exact ⟨_, _, 0, hC, .inr ⟨rfl, rfl, by rw [tx_sl]⟩⟩
    have HFin := Lib.hid hfin
    clear hfin hp
    go_enter Try.func5, Try.ntmps5
    go_wp2_with (first | (go_at_call 9; (with_reducible refine (HS.out _).mono ?_); rintro e w1 ⟨rfl, hb1⟩) | (go_at_call 10; (with_reducible refine (HFr.out _).mono ?_); rintro e w2 ⟨rfl, hb2⟩) | (refine wpList_bytes_at rfl 9 38 5 _ rfl w2.heap.size F rfl Try.underlying9 Try.underlying38 Try.underlying5 (Nat.le_refl _) hm0 ?_; intro cap5 w5 how5 hb5; rw [HFi.out] at how5))
    have hb0 := (hb1.trans (hb2.mono hb1.size)).trans (hb5.mono (by have := hb1.size; have := hb2.size; omega))
    have hB : w.heap.size ≤ w2.heap.size := by have := hb1.size; have := hb2.size; omega
    generalize w2.heap.size = B at *
    clear hb1 hb2 hb5
    go_loopw [16, 17, 18] (fun u i _ wr => ∃ j : Nat, j ≤ 32 ∧ i = .int .i64 (j : Int) ∧ u = .bool (anyT bt p (8 * s.size) j) ∧ OwnM wr B 5 (.slice (some ⟨B, 0, none⟩) F.size cap5) (nn (turnK bt 48 p (8 * s.size) j K)) ∧ Below w.heap.size w wr) (fun _ i _ _ => 32 - (intOf i).toNat)
    case atStart => exact ⟨0, by omega, rfl, rfl, how5, hb0⟩
    case round =>
      obtain ⟨j, hj, rfl, rfl, go, gb⟩ := hrel
      clear how5 hb0
      by_cases hlt : j < 32
      · have d1 : (j : Int) < 32 := by omega
        obtain ⟨kk, hkk⟩ : ∃ kk, p + j = kk := ⟨_, rfl⟩
        have ek : (p : Int) + (j : Int) = (kk : Int) := by omega
        have hv : (bt : Int) / 2 ^ j = ((bt / 2 ^ j : Nat) : Int) := by simp
        have hlt2 : bt / 2 ^ j < 4294967296 := Nat.lt_of_le_of_lt (Nat.div_le_self _ _) hbt
        have hand : bits .and .u32 ((bt : Int) / 2 ^ j) 1 = ((bt / 2 ^ j % 2 : Nat) : Int) := by rw [hv]; exact lowK _ hlt2
        have i2 : (j : Int).toNat = j := by omega
        have i3 : (0 : Int) ≤ (j : Int) := by omega
        by_cases hk : p + j < (8 * s.size)
        · have d2 : (kk : Int) < (8 * (s.size : Int)) := by omega
          by_cases hbit : bt / 2 ^ j % 2 = 1
          · obtain ⟨t1, t2⟩ := turn_yes (f := 48) (b := K) hk hbit
            rw [hkk] at t1
            have hand1 : bits .and .u32 ((bt : Int) / 2 ^ j) 1 = 1 := by rw [hand, hbit]; rfl
            obtain ⟨q, r, hq, hr, hr8⟩ : ∃ q r, (48 + kk) / 8 = q ∧ (48 + kk) % 8 = r ∧ r < 8 := ⟨_, _, rfl, rfl, Nat.mod_lt _ (by decide)⟩
            obtain ⟨T, hT⟩ : ∃ T, turnK bt 48 p (8 * s.size) j K = T := ⟨_, rfl⟩
            have hTl : T.length = F.size := by rw [← hT, turn_len, HKL.out, hFz]
            have hTb : Bys T := by rw [← hT]; exact turn_bys bt 48 p (8 * s.size) HKB.out j
            have hqT : q < T.length := by omega
            rw [hT] at t1 go
            unfold flipK at t1
            rw [hq, hr] at t1
            have hqn : q < (nn T).length := by rw [nn_length]; exact hqT
            have c1 := go.cell hqn
            have z1 := go.free hqn
            rw [nn_getD] at c1
            obtain ⟨c, hc⟩ : ∃ c, T.getD q 0 = c := ⟨_, rfl⟩
            rw [hc] at c1 t1
            have hc8 : c < 256 := by rw [← hc]; exact hTb q
            obtain ⟨hw8, hw9⟩ := pow_byte ⟨r, hr8⟩
            dsimp only at hw8 hw9
            have hx := xorB c (2 ^ r) hc8 hw9
            obtain ⟨P, hP⟩ : ∃ P, 2 ^ r = P := ⟨_, rfl⟩
            rw [hP] at hw8 hx t1
            obtain ⟨y, hy⟩ : ∃ y, c ^^^ P = y := ⟨_, rfl⟩
            rw [hy] at hx t1
            obtain ⟨J, hJ⟩ : ∃ J, 48 + kk = J := ⟨_, rfl⟩
            have j0 : (48 : Int) + (kk : Int) = (J : Int) := by omega
            have j1 : (J : Int) / 8 = (q : Int) := by omega
            have j2 : (J : Int) % 8 = (r : Int) := by omega
            have j3 : (J : Int).tmod 8 = (r : Int) := by rw [Int.tmod_eq_emod_of_nonneg (by omega)]; exact j2
            have j4 : (0 : Int) ≤ (J : Int) := by omega
            have j5 : (J : Int) < 100000 := by omega
            have j6 : (q : Int) < (F.size : Int) := by omega
            have j7 : (0 : Int) ≤ (q : Int) := by omega
            have j8 : (q : Int).toNat = q := by omega
            have j9 : (r : Int).toNat = r := by omega
            have j10 : (0 : Int) ≤ (r : Int) := by omega
            have GO := Lib.hid go
            have HQN := Lib.hid hqn
            have T1 := Lib.hid t1
            have T2 := Lib.hid t2
            clear hq hr hT hTl hTb hqT t1 t2 hqn hc hP hy hJ hkk hand hv hlt2 go hw9 hc8
            go_wp2
            refine region_drew_tail 19 mixed (by kernel_rfl) ?_
            simp only [List.take_succ_cons, List.take_zero, List.drop_succ_cons, List.drop_zero]
            repeat (first | go_big_quiet_step (fail) | quiet_step (fail))
            refine wpQuiet_nil ?_
            rintro _ ⟨nq, rfl⟩
            have c2 := (GO.out.drewN nq).cell HQN.out
            have z2 := (GO.out.drewN nq).free HQN.out
            have o5 := (GO.out.drewN nq).set HQN.out (y : Int)
            rw [nn_set, ← T1.out] at o5
            have gb5 := (below_drewN gb nq).setCell (p := ⟨B, q, none⟩) hB (.int .u8 (y : Int))
            have O5 := Lib.hid o5
            have G5 := Lib.hid gb5
            clear o5 gb5 c1 z1 GO gb
            generalize wr.drewN nq = w6 at *
            go_wp2
            go_roundw
            case rel => exact ⟨j + 1, by omega, by go_num, by rw [T2.out], O5.out, G5.out⟩
            case measure => simp [intOf]; omega
          · obtain ⟨t1, t2⟩ := turn_no (bits := bt) (p := p) (M := (8 * s.size)) (f := 48) (b := K) (i := j) (fun h => hbit h.2)
            have hand1 : bits .and .u32 ((bt : Int) / 2 ^ j) 1 = 0 := by rw [hand, show bt / 2 ^ j % 2 = 0 by omega]; rfl
            have T1 := Lib.hid t1
            have T2 := Lib.hid t2
            clear hand hv hlt2 hbit t1 t2 hkk
            go_wp2
            go_roundw
            case rel => exact ⟨j + 1, by omega, by go_num, by rw [T2.out], by rw [T1.out]; exact go, gb⟩
            case measure => simp [intOf]; omega
        · obtain ⟨t1, t2⟩ := turn_no (bits := bt) (f := 48) (b := K) (i := j) (fun h => hk h.1)
          have d2 : ¬ (kk : Int) < (8 * (s.size : Int)) := by omega
          have T1 := Lib.hid t1
          have T2 := Lib.hid t2
          clear hand hv hlt2 t1 t2 hkk
          go_wp2
          go_roundw
          case rel => exact ⟨j + 1, by omega, by go_num, by rw [T2.out], by rw [T1.out]; exact go, gb⟩
          case measure => simp [intOf]; omega
      · obtain rfl : j = 32 := by omega
        obtain ⟨tt, htt⟩ : ∃ tt, anyT bt p (8 * s.size) 32 = tt := ⟨_, rfl⟩
        obtain ⟨x, r, er, hC, hcase⟩ := HFin.out tt htt
        obtain ⟨TT, hTT⟩ : ∃ TT, tx (turnK bt 48 p (8 * s.size) 32 K) = TT := ⟨_, rfl⟩
        have hTz : TT.size = 6 + s.size := by rw [← hTT, tx_size, turn_len, HKL.out]
        have hadd := fun w' => run_string_add_sum (P := Try.prog) w' TT rest (by omega)
        rw [htt]
        simp only [hTT] at hC
        have HC := Lib.hid hC
        have HTT : Hid (bs (nn (turnK bt 48 p (8 * s.size) 32 K)) = TT) := Lib.hid hTT
        rw [hFz] at go
        have GO := Lib.hid go
        clear hC hTT htt go hTz HFin hlt hj
        rcases hcase with ⟨rfl, rfl, rfl⟩ | ⟨rfl, rfl, rfl⟩
        · go_wp2_with (first | (refine wpList_string_ownM rfl 38 9 5 _ rfl B _ _ rfl Try.underlying38 Try.underlying5 Try.underlying9 GO.out ?_; rw [HTT.out]) | (go_at_call 12; (with_reducible refine (HC.out _).mono ?_); rintro e w9 ⟨rfl, hb9⟩))
          go_ret
          exact ⟨rfl, gb.trans (hb9.mono gb.size)⟩
        · have hxs := txt_same x
          go_wp2_with (first | (refine wpList_string_ownM rfl 38 9 5 _ rfl B _ _ rfl Try.underlying38 Try.underlying5 Try.underlying9 GO.out ?_; rw [HTT.out]) | (go_at_call 12; (with_reducible refine (HC.out _).mono ?_); rintro e w9 ⟨rfl, hb9⟩))
          go_ret
          exact ⟨rfl, gb.trans (hb9.mono gb.size)⟩

set_option maxRecDepth 100000 in
theorem lifted (os : Os) (started : os.Started) (H : Type) (enc : TypeId × Value → H) :
    ReturnsInHanded {} Try.checked os 5 .any (Rows.checkTurnedSpec.pre6 enc Try.prog Try.f5 Rows.checkTurnedRow.domain false) (Rows.checkTurnedSpec.post enc Try.prog Try.f5 false true false false) := by
  refine returnsInHanded_of_change (C := Try.checked) own started (by kernel_rfl) Try.func5
    (ChangeSpec.witness6 (enc := enc) (C := Try.checked) false ⟨#[], #[.string ByteArray.empty, .int .u16 0, .int .u32 0, .bool false, .string ByteArray.empty], []⟩ 8 (by kernel_rfl) (by kernel_rfl) (by kernel_rfl) (by kernel_rfl)) ?_
  intro W base args ds gs before hval0 hW hcnd _
  have hval : ∀ (j : Nat) t v, Try.f5.params[j]? = some t → args[j]? = some v → Value.okWide Try.prog W .any base t v := hval0
  have hW' := hW
  obtain ⟨p, q, hA0, hV, rfl, hfz, hnd⟩ := hW
  have hA : DataW.TrodAll enc Try.prog W 0 (fun _ => true) true Try.f5.params.toList args.toList ds p := hA0
  rw [Try.params5] at hA hval
  obtain ⟨v0, vs0, d0, ds0, p0, q0, hargs, rfl, rfl, h0, r0⟩ := trodAll_cons hA
  obtain ⟨v1, vs1, d1, ds1, p1, q1, rfl, rfl, rfl, h1, r1⟩ := trodAll_cons r0
  obtain ⟨v2, vs2, d2, ds2, p2, q2, rfl, rfl, rfl, h2, r2⟩ := trodAll_cons r1
  obtain ⟨v3, vs3, d3, ds3, p3, q3, rfl, rfl, rfl, h3, r3⟩ := trodAll_cons r2
  obtain ⟨v4, vs4, d4, ds4, p4, q4, rfl, rfl, rfl, h4, r4⟩ := trodAll_cons r3
  obtain ⟨rfl, rfl, rfl⟩ := trodAll_nil r4
  obtain rfl : args = #[v0, v1, v2, v3, v4] := by cases args; simp_all
  obtain ⟨rfl, rfl⟩ := trodVars_none hV
  obtain ⟨l0, rfl, rfl, rfl, n0⟩ := open_string Try.underlying9 (hval 0 9 v0 rfl rfl) h0
  obtain ⟨l1, rfl, rfl, rfl, n1⟩ := open_int Try.underlying35 (hval 1 35 v1 rfl rfl) h1
  obtain ⟨l2, rfl, rfl, rfl, n2⟩ := open_int Try.underlying31 (hval 2 31 v2 rfl rfl) h2
  obtain ⟨l3, rfl, rfl, rfl⟩ := open_bool Try.underlying4 (hval 3 4 v3 rfl rfl) h3
  obtain ⟨l4, rfl, rfl, rfl, n4⟩ := open_string Try.underlying9 (hval 4 9 v4 rfl rfl) h4
  clear hA0 hval0
  simp only [List.append_nil] at hW'
  refine (walk l0 l1 l2 l3 l4 n0 n1 n2 n4 W).mono fun e W' ⟨he, bel⟩ => ?_
  subst he
  exact ⟨_, rfl, _, _, _, [], _, [], hW', trodAll_mk1 (shut_bool Try.underlying4 _), (trodAll_cons_mk (shut_string Try.underlying9 n0) (trodAll_cons_mk (shut_int Try.underlying35 n1) (trodAll_cons_mk (shut_int Try.underlying31 n2) (trodAll_cons_mk (shut_bool Try.underlying4 _) (trodAll_cons_mk (shut_string Try.underlying9 n4) trodAll_mk0))))), rfl, bel.frame _, fun h => by cases h⟩

theorem over : Rows.checkTurnedRow.holds Try.pinned (OpenSpec.ofChange Rows.checkTurnedSpec) :=
  OpenClaim.holds_of_wide 5 Try.f5 rfl rfl rfl rfl rfl rfl rfl ⟨rfl, rfl, rfl, rfl, rfl⟩ rfl rfl rfl rfl rfl (by kernel_rfl) Try.func5 (by kernel_rfl)
    (of_decide_eq_true (by kernel_rfl)) (by unfold Func.isWrapper; first | (rw [if_pos (by decide +kernel)]; kernel_rfl) | (rw [if_neg (by decide +kernel)]; exact ⟨rfl, rfl⟩))
    (fun os started H enc _ => lifted os started H enc)

theorem proved : Rows.CheckTurnedSaid :=
  over
#print axioms proved
end Go.Proofs.Ytlolcpfkaoembaa.checkTurned
