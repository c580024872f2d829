/-
  For all lists of texts and cuts: frames that stand one behind the other are all found; where they are cut all whole ones are. Longer lists and texts than the bound are answered by the case shown alone. No condition.
-/
import Derived.Test.YtlolcpfkaoembaaRows
import Derived.Test.YtlolcpfkaoembaaKB
import Derived.Test.YtlolcpfkaoembaaKC
import Derived.Test.YtlolcpfkaoembaaG1
import Derived.ShutString
import Derived.ChangeOld
namespace Go.Proofs.Ytlolcpfkaoembaa.checkBack
open Go.ChangeShapes Go.WideShapes Go.ChangeAt Go.RowKit
open Go.ChangeMaps (open_string shut_string)
set_option linter.unusedVariables false

theorem nat_u16 (x : Int) (h : (Lit.int .u16 x).wf = true) : ∃ n : Nat, x = (n : Int) ∧ n < 65536 := by
  have := bounds_u16 h
  exact ⟨x.toNat, by omega, by omega⟩
set_option maxHeartbeats 4000000 in
set_option maxRecDepth 100000 in
/-- no texts -/
theorem walk_nil (cut : Nat) (hcut : cut < 65536) (w : World) :
    Calls Try.prog 4 #[.slice none 0 0, .int .u16 (cut : Int)] w fun e w' => e = .returned (.bool true) ∧ Below w.heap.size w w' := by
  have HS := Lib.hid (fun w => k_shown w)
  have hA : ∀ w : World, Calls Try.prog 14 #[.string ⟨#[]⟩] w fun e w' => ∃ p c, e = .returned (.tuple #[.slice p 0 c, .int .i64 0]) ∧ Below w.heap.size w w' := fun w => by
    have h := k_All ⟨#[]⟩ w (by decide)
    unfold AllRet at h
    rw [show sl ⟨#[]⟩ = [] from rfl, show allK [] = ([], 0) from allK_stop first_nil] at h
    refine h.mono ?_
    rintro e w' ⟨v, rfl, ho, hb⟩
    obtain ⟨p, c, rfl⟩ := ho.isSlice
    exact ⟨p, c, rfl, hb⟩
  have hSame : ∀ (p : Option Addr) (c : Nat) (w : World), Calls Try.prog 18 #[.slice p 0 c, .slice none 0 0] w fun e w' => e = .returned (.bool true) ∧ Below w.heap.size w w' := fun p c w =>
    kr_Same [] p none c 0 w (by decide) ⟨(fun r h => by cases h), p, c, rfl, fun i r h => by simp [rowsS] at h⟩ (Sl.none 1)
  have HA := Lib.hid hA
  have HSame := Lib.hid hSame
  clear hA hSame
  go_enter Try.func4, Try.ntmps4
  go_wp2_with (go_at_call 9; (with_reducible refine (HS.out _).mono ?_); rintro e w1 ⟨rfl, hb1⟩; have kb := Lib.hid (hb1.alloc hb1.size (.cells #[] 3)))
  go_loopw [5, 6, 7, 8, 9] (fun u v i _ _ wr => u = .string ⟨#[]⟩ ∧ v = .slice (some ⟨w1.heap.size, 0, none⟩) 0 0 ∧ i = .int .i64 0 ∧ Below w.heap.size w wr) (fun _ _ _ _ _ _ => 0)
  case atStart => exact ⟨rfl, rfl, rfl, kb.out⟩
  case round =>
    obtain ⟨rfl, rfl, rfl, gb⟩ := hrel
    clear kb hb1
    go_wp2_with (first | (go_at_call 14; (with_reducible refine (HA.out _).mono ?_); rintro e w6 ⟨p6, c6, rfl, hb6⟩) | (go_at_call 18; refine (HSame.out p6 c6 w6).mono ?_; rintro e w7 ⟨rfl, hb7⟩))
    have gb6 := gb.trans ((hb6.trans (hb7.mono hb6.size)).mono gb.size)
    clear gb hb6 hb7
    go_loopw [13] (fun i wr => i = .int .i64 0 ∧ Below w7.heap.size w7 wr) (fun _ _ => 0)
    case atStart => exact ⟨rfl, Below.refl _ _⟩
    case round =>
      obtain ⟨rfl, gb7⟩ := hrel
      go_wp2_with (first | (go_at_call 14; refine (HA.out _).mono ?_; rintro e w8 ⟨p8, c8, rfl, hb8⟩) | (go_at_call 18; refine (HSame.out p8 c8 w8).mono ?_; rintro e w9 ⟨rfl, hb9⟩))
      go_ret
      exact ⟨rfl, gb6.trans ((gb7.trans ((hb8.trans (hb9.mono hb8.size)).mono gb7.size)).mono gb6.size)⟩
set_option maxHeartbeats 4000000 in
set_option maxRecDepth 100000 in
theorem walk_some (l : List (List Nat)) (ad : Addr) (cap : Nat) (cut : Nat) (hcut : cut < 65536) (hby : ∀ x ∈ l, Bys x) (hcap : l.length ≤ cap) (hcm : cap ≤ maxLen) (w : World) (hS : Sl w 1 (.slice (some ad) l.length cap) (rowsS l)) :
    Calls Try.prog 4 #[.slice (some ad) l.length cap, .int .u16 (cut : Int)] w fun e w' => e = .returned (.bool true) ∧ Below w.heap.size w w' := by
  have HS := Lib.hid (fun w => k_shown w)
  by_cases h1 : 20 < l.length
  · have g1 : (20 : Int) < (l.length : Int) := by omega
    go_enter Try.func4, Try.ntmps4
    go_wp2_with (go_at_call 9; (with_reducible refine (HS.out _).mono ?_); rintro e w1 ⟨rfl, hb1⟩)
    go_ret
    exact ⟨rfl, hb1⟩
  have g1 : ¬ (20 : Int) < (l.length : Int) := by omega
  obtain ⟨i0, hi0, hz0, hz1, hz2⟩ := info_parts2 info_intK
  have HBY := Lib.hid hby
  have HP := Lib.hid hS
  clear hby hS
  go_enter Try.func4, Try.ntmps4
  go_wp2_with (go_at_call 9; (with_reducible refine (HS.out _).mono ?_); rintro e w1 ⟨rfl, hb1⟩; have k0 := Lib.hid (OwnR.empty w1 w.heap.size 3 1 hb1.size); have kb := Lib.hid (hb1.alloc hb1.size (.cells #[] 3)))
  go_loopw [5, 6, 7, 8, 9] (fun u v i _ _ wr => ∃ j : Nat, j ≤ l.length ∧ i = .int .i64 (j : Int) ∧ u = .string (tx (framesK (l.take j))) ∧ OwnR wr w.heap.size 3 1 v (rowsE (endsK l j)) ∧ (∀ x ∈ l.take j, x.length ≤ 100) ∧ Below w.heap.size w wr) (fun _ _ i _ _ _ => l.length - (intOf i).toNat)
  case atStart => exact ⟨0, by omega, rfl, rfl, k0.out, (fun x hx => by simp at hx), kb.out⟩
  case round =>
    obtain ⟨j, hj, rfl, rfl, go, hle, gb⟩ := hrel
    clear k0 kb hb1
    have HLE := Lib.hid hle
    clear hle
    by_cases hlt : j < l.length
    · have hP' := HP.out.below gb
      obtain ⟨a, ea, hc⟩ := SlS.cell hP' hlt
      cases ea
      have d1 : (j : Int) < (l.length : Int) := by omega
      obtain ⟨y, hy⟩ : ∃ y, l.getD j [] = y := ⟨_, rfl⟩
      have hyl : l[j] = y := by rw [← hy]; simp [hlt]
      have hyb : Bys y := HBY.out y (by rw [← hyl]; exact List.getElem_mem hlt)
      rw [hy] at hc
      have hyz : (tx y).size = y.length := tx_size y
      have hys : sl (tx y) = y := sl_tx hyb
      obtain ⟨Y, hY⟩ : ∃ Y, tx y = Y := ⟨_, rfl⟩
      rw [hY] at hc hyz hys
      by_cases hbig : 100 < y.length
      · have d2 : (100 : Int) < (Y.size : Int) := by omega
        clear hyz hY hys hy hyl hP'
        go_wp2_with (go_at_call 9; (with_reducible refine (HS.out _).mono ?_); rintro e w2 ⟨rfl, hb2⟩)
        go_ret
        exact ⟨rfl, gb.trans (hb2.mono gb.size)⟩
      · have d2 : ¬ (100 : Int) < (Y.size : Int) := by omega
        obtain ⟨A, hA⟩ : ∃ A, tx (framesK (l.take j)) = A := ⟨_, rfl⟩
        obtain ⟨F, hF⟩ : ∃ F, tx (frameK y) = F := ⟨_, rfl⟩
        have hFr := fun w => k_Frame Y w (by omega) F (by rw [hys]; exact hF)
        have hFz : F.size = Y.size + 6 := by rw [← hF, tx_size, frame_len]; omega
        have hAz : A.size ≤ 3000 := by
          rw [← hA, tx_size]
          have h1 := frames_len HLE.out
          rw [List.length_take] at h1
          have h2 : (6 + 100) * min j l.length ≤ (6 + 100) * 20 := Nat.mul_le_mul_left _ (by omega)
          omega
        have hfz : ((F.size : Int) != (Y.size : Int) + 6) = false := by
          have : (F.size : Int) = (Y.size : Int) + 6 := by omega
          rw [this]; simp
        have hadd := fun w' => run_string_add_sum (P := Try.prog) w' A F (by omega)
        obtain ⟨AF, hAF⟩ : ∃ AF, A ++ F = AF := ⟨_, rfl⟩
        simp only [hAF] at hadd
        have hnext : tx (framesK (l.take (j + 1))) = AF := by rw [frames_take hlt, hy, tx_app, hA, hF, hAF]
        have hend : endK l (j + 1) = AF.size := by
          rw [← hnext, tx_size]
          rfl
        have hrs : rowsE (endsK l (j + 1)) = rowsE (endsK l j) ++ [[.int .i64 ((AF.size : Nat) : Int)]] := by rw [endsK_snoc, rowsE_snoc, hend]
        have hrl : (rowsE (endsK l j)).length = j := by rw [rowsE_len, endsK_len]
        have hle2 : ∀ x ∈ l.take (j + 1), x.length ≤ 100 := fun x hx => by
          rw [List.take_succ_eq_append_getElem hlt] at hx
          rcases List.mem_append.1 hx with hx | hx
          · exact HLE.out x hx
          · rw [List.mem_singleton.1 hx, hyl]; omega
        have HFr := Lib.hid hFr
        have HNX := Lib.hid hnext
        have HRS := Lib.hid hrs
        have HRL := Lib.hid hrl
        have HLE2 := Lib.hid hle2
        have HYY : Hid (tx (l.getD j []) = Y) := Lib.hid (by rw [hy]; exact hY)
        rw [hA]
        clear hFr hnext hend hrs hrl hle2 hA hF hFz hyz hY hys hy hyl hP' HLE hbig hAF hAz
        obtain ⟨p4, c4, rfl⟩ := go.isSlice
        generalize rowsE (endsK l j) = rows at *
        go_wp2_with (first | (go_at_call 10; (with_reducible refine (HFr.out _).mono ?_); rintro e w2 ⟨rfl, hb2⟩; obtain ⟨a2, ea2, hc2⟩ := SlS.cell (HP.out.below (gb.trans (hb2.mono gb.size))) hlt; cases ea2; rw [HYY.out] at hc2; have go2 := go.keep hb2; have gb2 := gb.trans (hb2.mono gb.size); have hnb := Blk.new' w2 3 (c := #[.int .i64 (AF.size : Int)]) [.int .i64 (AF.size : Int)] rfl; have HNW := Lib.hid (sl_one hnb); have HOW := Lib.hid (go2.alloc (.cells #[.int .i64 (AF.size : Int)] 3)); have HLO := Lib.hid go2.lt; have hgb := gb2.alloc gb2.size (.cells #[.int .i64 (AF.size : Int)] 3); have HBA := Lib.hid hgb.size; have HGB := Lib.hid hgb; have HONE : Hid (∀ r ∈ [[Value.int .i64 (AF.size : Int)]], ∀ u ∈ r, u.oneCell' = true) := Lib.hid (by simp [Value.oneCell']); have HLEN : Hid (rows.length + [[Value.int .i64 (AF.size : Int)]].length ≤ maxLen) := Lib.hid (by rw [HRL.out, List.length_singleton]; unfold maxLen; omega); have HBYT : Hid ((rows.length + [[Value.int .i64 (AF.size : Int)]].length) * 8 ≤ 140737488355328) := Lib.hid (by rw [HRL.out, List.length_singleton]; omega); clear hnb go2 gb2 hgb hb2) | (refine wpList_append_rows rfl _ _ 36 rfl w.heap.size 3 i0 (.int .i64 0) 1 8 Try.underlying36 hi0 hz0 hz1 hz2 rfl (by decide) _ rows rfl HOW.out (.slice (some ⟨w2.heap.size, 0, none⟩) 1 1) [[.int .i64 (AF.size : Int)]] rfl HNW.out HONE.out HLEN.out HBYT.out HBA.out (.inr ⟨_, _, _, rfl⟩) ?_; intro v' w5 ho5 hg5 hv5; have gb5 := HGB.out.grown hg5 HBA.out (fun k e => (HLO.out k e).1); have GB5 := Lib.hid gb5; have HO5 := Lib.hid ho5; clear hg5 ho5 gb5))
        go_roundw
        case rel => exact ⟨j + 1, by omega, by go_num, by rw [HNX.out], by rw [HRS.out]; exact HO5.out, HLE2.out, GB5.out⟩
        case measure => simp [intOf]; omega
    · obtain rfl : j = l.length := by omega
      rw [List.take_length] at HLE
      have hT0 : framesK (l.take l.length) = framesK l := by rw [List.take_length]
      rw [hT0]
      obtain ⟨T, hT⟩ : ∃ T, tx (framesK l) = T := ⟨_, rfl⟩
      have hfb := frames_bys HBY.out
      have hTS : sl T = framesK l := by rw [← hT]; exact sl_tx hfb
      have hTz : T.size = (framesK l).length := by rw [← hT, tx_size]
      have hTm : T.size ≤ 3000 := by
        have h1 := frames_len HLE.out
        have h2 : (6 + 100) * l.length ≤ (6 + 100) * 20 := Nat.mul_le_mul_left _ (by omega)
        omega
      have hall : allK (framesK l) = (l, T.size) := by
        have := all_frames l [] (fun s hs => ⟨HBY.out s hs, Nat.le_trans (HLE.out s hs) (by decide)⟩) first_nil
        rw [List.append_nil] at this
        rw [this, hTz]
      have hA := fun w => k_All T w (by omega)
      unfold AllRet at hA
      rw [hTS, hall] at hA
      dsimp only at hA
      have HA := Lib.hid hA
      have HTS := Lib.hid hTS
      have HTZ := Lib.hid hTz
      rw [hT]
      obtain ⟨k, hk, hkT⟩ : ∃ k, cut % (T.size + 1) = k ∧ k < T.size + 1 := ⟨_, rfl, Nat.mod_lt _ (by omega)⟩
      have e1 : (cut : Int) % ((T.size : Int) + 1) = (k : Int) := by rw [← hk]; simp
      have e2 : (cut : Int).tmod ((T.size : Int) + 1) = (k : Int) := by rw [Int.tmod_eq_emod_of_nonneg (by omega)]; exact e1
      have z0 : ¬ (T.size : Int) + 1 = 0 := by omega
      have gEnd := go
      obtain ⟨pE, cE, eE⟩ := go.isSlice
      rw [rowsE_len, endsK_len] at eE
      subst eE
      have GE := Lib.hid go
      have hTi : (T.size : Int) ≤ 3000 := by omega
      clear hA hTS hTz hT hall hfb hT0 hk gEnd go hlt hj
      go_wp2_with (first | (go_at_call 14; (with_reducible refine (HA.out _).mono ?_); rintro e w6 ⟨v6, rfl, ho6, hb6⟩; have s6 := ho6.sl; obtain ⟨p6, c6, e6⟩ := ho6.isSlice; rw [rowsS_len] at e6; subst e6; have S6 := Lib.hid s6; clear s6 ho6) | (go_at_call 18; refine (kr_Same l p6 (some ad) c6 cap w6 (by omega) S6.out (HP.out.below (gb.trans (hb6.mono gb.size)))).mono ?_; rintro e w7 ⟨rfl, hb7⟩))
      have gb6 := gb.trans ((hb6.trans (hb7.mono hb6.size)).mono gb.size)
      have HEnd := Lib.hid ((GE.out.keep (hb6.trans (hb7.mono hb6.size))).sl)
      clear S6 GE gb hb6 hb7 HA
      go_loopw [13] (fun i wr => ∃ m : Nat, m ≤ l.length ∧ i = .int .i64 (m : Int) ∧ endK l m ≤ k ∧ Below w7.heap.size w7 wr) (fun i _ => l.length - (intOf i).toNat)
      case atStart => exact ⟨0, by omega, rfl, Nat.zero_le _, Below.refl _ _⟩
      case round =>
        obtain ⟨m, hm, rfl, hmk, gb7⟩ := hrel
        by_cases hmn : m < l.length
        · have d1 : (m : Int) < (l.length : Int) := by omega
          obtain ⟨a, eA, hc⟩ := SlE.cell (HEnd.out.below gb7) (j := m) (by rw [endsK_len]; exact hmn)
          rw [endsK_at l hmn] at hc
          by_cases hnx : endK l (m + 1) ≤ k
          · have HNX := Lib.hid hnx
            have d2 : ((endK l (m + 1) : Nat) : Int) ≤ (k : Int) := by omega
            obtain ⟨V, hV⟩ : ∃ V, endK l (m + 1) = V := ⟨_, rfl⟩
            rw [hV] at hc d2
            clear hV hnx
            subst eA
            go_wp2
            go_roundw
            case rel => exact ⟨m + 1, by omega, by go_num, HNX.out, gb7⟩
            case measure => simp [intOf]; omega
          · have hstop : m < l.length → k < endK l (m + 1) := fun _ => by omega
            have HST := Lib.hid hstop
            have d2 : ¬ ((endK l (m + 1) : Nat) : Int) ≤ (k : Int) := by omega
            obtain ⟨V, hV⟩ : ∃ V, endK l (m + 1) = V := ⟨_, rfl⟩
            rw [hV] at hc d2
            clear hV hstop hnx
            subst eA
            have h2 := all_cut (l := l) (fun s hs => ⟨HBY.out s hs, Nat.le_trans (HLE.out s hs) (by decide)⟩) (m := m) (k := k) (by omega) hmk HST.out
            obtain ⟨t2, ht2⟩ : ∃ t2, T.extract 0 k = t2 := ⟨_, rfl⟩
            have ht2l : sl t2 = (framesK l).take k := by rw [← ht2, sl_head, HTS.out]
            have ht2z : t2.size ≤ 60000 := by rw [← ht2, ByteArray.size_extract]; omega
            have hA2 := fun w => k_All t2 w ht2z
            unfold AllRet at hA2
            rw [ht2l, h2] at hA2
            have HA2 := Lib.hid hA2
            have HTL : Hid ((l.take m).length = m) := Lib.hid (by rw [List.length_take]; omega)
            have HSame : Hid (∀ (p q : Option Addr) (c d : Nat) (w : World), Sl w 1 (.slice p m c) (rowsS (l.take m)) → Sl w 1 (.slice q m d) (rowsS (l.take m)) → Calls Try.prog 18 #[.slice p m c, .slice q m d] w fun e w' => e = .returned (.bool true) ∧ Below w.heap.size w w') := Lib.hid fun p q c d w a b => by
              have := kr_Same (l.take m) p q c d w (by rw [HTL.out]; omega)
              rw [HTL.out] at this
              exact this a b
            obtain ⟨M, hM⟩ : ∃ M, endK l m = M := ⟨_, rfl⟩
            have k1 : (k : Int) ≤ (T.size : Int) := by omega
            have k2 : (0 : Int) ≤ (k : Int) := by omega
            have k3 : (m : Int) ≤ (cap : Int) := by omega
            have k4 : (0 : Int) ≤ (m : Int) := by omega
            rw [hM] at hA2
            have HA2 := Lib.hid hA2
            have HM := Lib.hid hM
            clear hA2 h2 ht2l ht2z hM
            have HQ : Hid (∀ w', Below w.heap.size w w' → Sl w' 1 (.slice (some ad) m cap) (rowsS (l.take m))) := Lib.hid fun w' hw => by
              have := Sl.taken (HP.out.below hw) (m := m) (by rw [rowsS_len]; omega) cap
              have e : (rowsS l).take m = rowsS (l.take m) := by unfold rowsS; rw [List.map_take]
              rw [e] at this
              exact this
            by_cases hm0 : m = 0
            · have m1 : ((m : Int) == 0) = true := by rw [beq_iff_eq]; omega
              obtain rfl : M = 0 := by rw [← HM.out, hm0]; rfl
              clear hm0
              go_wp2_with (first | (go_at_call 14; (with_reducible refine (HA2.out _).mono ?_); rintro e w8 ⟨v8, rfl, ho8, hb8⟩; have s8 := ho8.sl; obtain ⟨p8, c8, e8⟩ := ho8.isSlice; rw [rowsS_len, HTL.out] at e8; subst e8; have S8 := Lib.hid s8;   clear s8 ho8) | (go_at_call 18; refine (HSame.out p8 (some ad) c8 cap w8 S8.out (HQ.out _ (gb6.trans ((gb7.trans (hb8.mono gb7.size)).mono gb6.size)))).mono ?_; rintro e w9 ⟨rfl, hb9⟩))
              go_ret
              exact ⟨rfl, gb6.trans ((gb7.trans ((hb8.trans (hb9.mono hb8.size)).mono gb7.size)).mono gb6.size)⟩
            · have m1 : ((m : Int) == 0) = false := by rw [beq_eq_false_iff_ne]; omega
              have m2 : (0 : Int) < (m : Int) := by omega
              have m3 : ((m : Int) - 1).toNat = m - 1 := by omega
              have m4 : (m : Int) - 1 < (l.length : Int) := by omega
              have m5 : (0 : Int) ≤ (m : Int) - 1 := by omega
              have HCL : Hid (∀ w', Below w7.heap.size w7 w' → ∃ a0, some a = some a0 ∧ w'.cell? (a0.add (m - 1)) = some (.int .i64 (M : Int))) := Lib.hid fun w' hw => by
                obtain ⟨a, e, hc⟩ := SlE.cell (HEnd.out.below hw) (j := m - 1) (by rw [endsK_len]; omega)
                rw [endsK_at l (by omega), Nat.sub_add_cancel (by omega), HM.out] at hc
                exact ⟨a, e, hc⟩
              go_wp2_with (first | (go_at_call 14; (with_reducible refine (HA2.out _).mono ?_); rintro e w8 ⟨v8, rfl, ho8, hb8⟩; have s8 := ho8.sl; obtain ⟨p8, c8, e8⟩ := ho8.isSlice; rw [rowsS_len, HTL.out] at e8; subst e8; have S8 := Lib.hid s8;   clear s8 ho8) | (go_at_call 18; refine (HSame.out p8 (some ad) c8 cap w8 S8.out (HQ.out _ (gb6.trans ((gb7.trans (hb8.mono gb7.size)).mono gb6.size)))).mono ?_; rintro e w9 ⟨rfl, hb9⟩; obtain ⟨aE, eE, hcE⟩ := HCL.out w9 (gb7.trans ((hb8.trans (hb9.mono hb8.size)).mono gb7.size)); cases eE))
              go_ret
              exact ⟨rfl, gb6.trans ((gb7.trans ((hb8.trans (hb9.mono hb8.size)).mono gb7.size)).mono gb6.size)⟩
        · have d1 : ¬ (m : Int) < (l.length : Int) := by omega
          have h2 := all_cut (l := l) (fun s hs => ⟨HBY.out s hs, Nat.le_trans (HLE.out s hs) (by decide)⟩) (m := m) (k := k) (by omega) hmk (fun h => absurd h hmn)
          obtain ⟨t2, ht2⟩ : ∃ t2, T.extract 0 k = t2 := ⟨_, rfl⟩
          have ht2l : sl t2 = (framesK l).take k := by rw [← ht2, sl_head, HTS.out]
          have ht2z : t2.size ≤ 60000 := by rw [← ht2, ByteArray.size_extract]; omega
          have hA2 := fun w => k_All t2 w ht2z
          unfold AllRet at hA2
          rw [ht2l, h2] at hA2
          have HA2 := Lib.hid hA2
          have HTL : Hid ((l.take m).length = m) := Lib.hid (by rw [List.length_take]; omega)
          have HSame : Hid (∀ (p q : Option Addr) (c d : Nat) (w : World), Sl w 1 (.slice p m c) (rowsS (l.take m)) → Sl w 1 (.slice q m d) (rowsS (l.take m)) → Calls Try.prog 18 #[.slice p m c, .slice q m d] w fun e w' => e = .returned (.bool true) ∧ Below w.heap.size w w') := Lib.hid fun p q c d w a b => by
            have := kr_Same (l.take m) p q c d w (by rw [HTL.out]; omega)
            rw [HTL.out] at this
            exact this a b
          obtain ⟨M, hM⟩ : ∃ M, endK l m = M := ⟨_, rfl⟩
          have k1 : (k : Int) ≤ (T.size : Int) := by omega
          have k2 : (0 : Int) ≤ (k : Int) := by omega
          have k3 : (m : Int) ≤ (cap : Int) := by omega
          have k4 : (0 : Int) ≤ (m : Int) := by omega
          rw [hM] at hA2
          have HA2 := Lib.hid hA2
          have HM := Lib.hid hM
          clear hA2 h2 ht2l ht2z hM
          have HQ : Hid (∀ w', Below w.heap.size w w' → Sl w' 1 (.slice (some ad) m cap) (rowsS (l.take m))) := Lib.hid fun w' hw => by
            have := Sl.taken (HP.out.below hw) (m := m) (by rw [rowsS_len]; omega) cap
            have e : (rowsS l).take m = rowsS (l.take m) := by unfold rowsS; rw [List.map_take]
            rw [e] at this
            exact this
          by_cases hm0 : m = 0
          · have m1 : ((m : Int) == 0) = true := by rw [beq_iff_eq]; omega
            obtain rfl : M = 0 := by rw [← HM.out, hm0]; rfl
            clear hm0
            go_wp2_with (first | (go_at_call 14; (with_reducible refine (HA2.out _).mono ?_); rintro e w8 ⟨v8, rfl, ho8, hb8⟩; have s8 := ho8.sl; obtain ⟨p8, c8, e8⟩ := ho8.isSlice; rw [rowsS_len, HTL.out] at e8; subst e8; have S8 := Lib.hid s8;   clear s8 ho8) | (go_at_call 18; refine (HSame.out p8 (some ad) c8 cap w8 S8.out (HQ.out _ (gb6.trans ((gb7.trans (hb8.mono gb7.size)).mono gb6.size)))).mono ?_; rintro e w9 ⟨rfl, hb9⟩))
            go_ret
            exact ⟨rfl, gb6.trans ((gb7.trans ((hb8.trans (hb9.mono hb8.size)).mono gb7.size)).mono gb6.size)⟩
          · have m1 : ((m : Int) == 0) = false := by rw [beq_eq_false_iff_ne]; omega
            have m2 : (0 : Int) < (m : Int) := by omega
            have m3 : ((m : Int) - 1).toNat = m - 1 := by omega
            have m4 : (m : Int) - 1 < (l.length : Int) := by omega
            have m5 : (0 : Int) ≤ (m : Int) - 1 := by omega
            have HCL : Hid (∀ w', Below w7.heap.size w7 w' → ∃ a, pE = some a ∧ w'.cell? (a.add (m - 1)) = some (.int .i64 (M : Int))) := Lib.hid fun w' hw => by
              obtain ⟨a, e, hc⟩ := SlE.cell (HEnd.out.below hw) (j := m - 1) (by rw [endsK_len]; omega)
              rw [endsK_at l (by omega), Nat.sub_add_cancel (by omega), HM.out] at hc
              exact ⟨a, e, hc⟩
            go_wp2_with (first | (go_at_call 14; (with_reducible refine (HA2.out _).mono ?_); rintro e w8 ⟨v8, rfl, ho8, hb8⟩; have s8 := ho8.sl; obtain ⟨p8, c8, e8⟩ := ho8.isSlice; rw [rowsS_len, HTL.out] at e8; subst e8; have S8 := Lib.hid s8;   clear s8 ho8) | (go_at_call 18; refine (HSame.out p8 (some ad) c8 cap w8 S8.out (HQ.out _ (gb6.trans ((gb7.trans (hb8.mono gb7.size)).mono gb6.size)))).mono ?_; rintro e w9 ⟨rfl, hb9⟩; obtain ⟨aE, eE, hcE⟩ := HCL.out w9 (gb7.trans ((hb8.trans (hb9.mono hb8.size)).mono gb7.size)); cases eE))
            go_ret
            exact ⟨rfl, gb6.trans ((gb7.trans ((hb8.trans (hb9.mono hb8.size)).mono gb7.size)).mono gb6.size)⟩
theorem walk (l : List (List Nat)) (p : Option Addr) (cap : Nat) (x1 : Int) (n0 : (∀ x ∈ l, Bys x) ∧ (Value.slice p l.length cap = .slice none 0 0 ∨ ∃ ad n c, Value.slice p l.length cap = .slice (some ad) n c) ∧ l.length ≤ cap ∧ cap ≤ maxLen) (n1 : (Lit.int .u16 x1).wf = true) (w : World) (hS : Sl w 1 (.slice p l.length cap) (rowsS l)) :
    Calls Try.prog 4 #[.slice p l.length cap, .int .u16 x1] w fun e w' => e = .returned (.bool true) ∧ Below w.heap.size w w' := by
  obtain ⟨cut, rfl, hcut⟩ := nat_u16 x1 n1
  obtain ⟨hby, hnil, hcap, hcm⟩ := n0
  rcases hnil with h | ⟨ad, n, c, h⟩
  · rw [h]
    exact walk_nil cut hcut w
  · simp only [Value.slice.injEq] at h
    obtain ⟨rfl, _, _⟩ := h
    exact walk_some l ad cap cut hcut hby hcap hcm w hS

set_option maxRecDepth 100000 in
theorem lifted (os : Os) (started : os.Started) (H : Type) (enc : TypeId × Value → H) :
    ReturnsInHanded {} Try.checked os 4 .any (Rows.checkBackSpec.pre6 enc Try.prog Try.f4 Rows.checkBackRow.domain false) (Rows.checkBackSpec.post enc Try.prog Try.f4 false true false false) := by
  refine returnsInHanded_of_change (C := Try.checked) own started (by kernel_rfl) Try.func4
    (ChangeSpec.witness6 (enc := enc) (C := Try.checked) false ⟨#[], #[.slice none 0 0, .int .u16 0], []⟩ 8 (by kernel_rfl) (by kernel_rfl) (by kernel_rfl) (by kernel_rfl)) ?_
  intro W base args ds gs before hval0 hW hcnd _
  have hval : ∀ (j : Nat) t v, Try.f4.params[j]? = some t → args[j]? = some v → Value.okWide Try.prog W .any base t v := hval0
  have hW' := hW
  obtain ⟨p, q, hA0, hV, rfl, hfz, hnd⟩ := hW
  have hA : DataW.TrodAll enc Try.prog W 0 (fun _ => true) true Try.f4.params.toList args.toList ds p := hA0
  rw [Try.params4] at hA hval
  obtain ⟨v0, vs0, d0, ds0, p0, q0, hargs, rfl, rfl, h0, r0⟩ := trodAll_cons hA
  obtain ⟨v1, vs1, d1, ds1, p1, q1, rfl, rfl, rfl, h1, r1⟩ := trodAll_cons r0
  obtain ⟨rfl, rfl, rfl⟩ := trodAll_nil r1
  obtain rfl : args = #[v0, v1] := by cases args; simp_all
  obtain ⟨rfl, rfl⟩ := trodVars_none hV
  have k0 := h0
  have lt0 : ∀ x ∈ p0, x.block < W.heap.size := by obtain ⟨m, hm⟩ := k0; exact DataW.trod_lt m _ _ _ hm
  obtain ⟨a0, m0, c0, rfl⟩ := Go.WideShapes.okWide_slice Try.underlying28 (hval 0 28 v0 rfl rfl)
  obtain ⟨l0, rfl, S0, n0⟩ := open_texts h0
  obtain ⟨l1, rfl, rfl, rfl, n1⟩ := open_int Try.underlying35 (hval 1 35 v1 rfl rfl) h1
  clear hA0 hval0
  simp only [List.append_nil] at hW'
  refine (walk l0 a0 c0 l1 n0 n1 W S0).mono fun e W' ⟨he, bel⟩ => ?_
  subst he
  exact ⟨_, rfl, _, _, _, [], _, [], hW', trodAll_mk1 (shut_bool Try.underlying4 _), (trodAll_cons_mk (Below.trod laidOut (by kernel_rfl) (of_decide_eq_true (by kernel_rfl)) k0 bel lt0) (trodAll_cons_mk (shut_int Try.underlying35 n1) trodAll_mk0)), rfl, bel.frame _, fun h => by cases h⟩

theorem over : Rows.checkBackRow.holds Try.pinned (OpenSpec.ofChange Rows.checkBackSpec) :=
  OpenClaim.holds_of_wide 4 Try.f4 rfl rfl rfl rfl rfl rfl rfl ⟨rfl, rfl, rfl, rfl, rfl⟩ rfl rfl rfl rfl rfl (by kernel_rfl) Try.func4 (by kernel_rfl)
    (of_decide_eq_true (by kernel_rfl)) (by unfold Func.isWrapper; first | (rw [if_pos (by decide +kernel)]; kernel_rfl) | (rw [if_neg (by decide +kernel)]; exact ⟨rfl, rfl⟩))
    (fun os started H enc _ => lifted os started H enc)

theorem proved : Rows.CheckBackSaid :=
  over
#print axioms proved
end Go.Proofs.Ytlolcpfkaoembaa.checkBack
