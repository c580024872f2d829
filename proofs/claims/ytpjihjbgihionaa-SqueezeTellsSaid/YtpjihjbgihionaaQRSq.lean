/- Walk of the reference's Squeeze. -/
import Derived.Test.YtpjihjbgihionaaQRFr
import Derived.Test.YtpjihjbgihionaaQC
import Derived.Test.YtpjihjbgihionaaPH
import Derived.Test.YtpjihjbgihionaaPG
import Derived.Test.YtpjihjbgihionaaJRPackW
namespace Go.Proofs.Ytpjihjbgihionaa
open Go.RowKit
set_option linter.unusedVariables false

theorem info_rpcQ : (Try.prog.info? 55).map (fun i => (i.zero, i.size, i.bytes)) = some (some (.agg #[.int .u32 0, .int .i64 0]), 2, 16) := by kernel_rfl
theorem size_rpcQ : (Try.prog.info? 55).map (·.size) = some 2 := by kernel_rfl
theorem build_rpcQ (n x : Int) (w : World) : (Instr.build 55 #[(0, .int .u32 n), (1, .int .i64 x)]).run Try.prog w = .ok (.agg #[.int .u32 n, .int .i64 x]) w := by kernel_rfl
/-- a piece more, in a block of its own: what an append wants -/
theorem pc_more {w wr : World} {e : TypeId} {v : Value} {T : List (Nat × Int)} (t : Nat × Int) (hn : T.length ≤ 1000000) (gO : OwnR wr w.heap.size e 2 v (rowsP T)) (gb : Below w.heap.size w wr) :
    Sl (wr.alloc (.cells (rowP t).toArray e)) 2 (.slice (some ⟨wr.heap.size, 0, none⟩) 1 1) [rowP t] ∧ OwnR (wr.alloc (.cells (rowP t).toArray e)) w.heap.size e 2 v (rowsP T) ∧ Below w.heap.size w (wr.alloc (.cells (rowP t).toArray e)) ∧
    (∀ r ∈ [rowP t], ∀ u ∈ r, u.oneCell' = true) ∧ (rowsP T).length + [rowP t].length ≤ maxLen ∧ ((rowsP T).length + [rowP t].length) * 16 ≤ 140737488355328 ∧ w.heap.size ≤ (wr.alloc (.cells (rowP t).toArray e)).heap.size ∧
    (∀ b, v.ownBlock = some b → w.heap.size ≤ b ∧ b < wr.heap.size) := by
  have hb := gb.alloc gb.size (.cells (rowP t).toArray e)
  refine ⟨sl_one (Blk.new' wr e (rowP t) rfl), gO.alloc _, hb, by simp [rowP, Value.oneCell'], ?_, ?_, hb.size, gO.lt⟩
  · rw [rowsP_len, List.length_singleton]; unfold maxLen; omega
  · rw [rowsP_len, List.length_singleton]; omega
/-- what is held of a slice of pieces that grows -/
structure PG (w4 wr : World) (lv : Value) (cur : List (Nat × Int)) : Prop where
  own : OwnR wr w4.heap.size 55 2 lv (rowsP cur)
  below : Below w4.heap.size w4 wr
theorem PG.more {w4 wr w7 : World} {lv v7 : Value} {cur : List (Nat × Int)} {q : Nat × Int} (h : PG w4 wr lv cur) (ho : OwnR w7 w4.heap.size 55 2 v7 (rowsP cur ++ [rowP q])) (hg : (wr.alloc (.cells (rowP q).toArray 55)).grownBy w7 lv.ownBlock) : PG w4 w7 v7 (cur ++ [q]) := by
  refine ⟨by rw [rowsP_snocQ]; exact ho, ?_⟩
  have hb := h.below.alloc h.below.size (.cells (rowP q).toArray 55)
  exact hb.grown hg hb.size (fun k e => (h.own.lt k e).1)
theorem pcW_addr {w : World} {g n cap : Nat} {L : List Nat} (h : Sl w 2 (.slice (some ⟨g, 0, none⟩) n cap) (rowsP (pcW L))) {j : Nat} (hj : j < L.length) : ∀ i v, (rowP (pieceW L j))[i]? = some v → w.cell? ((⟨g, j * 2, none⟩ : Addr).add i) = some v := fun i v hv => by
  obtain ⟨c0, c1⟩ := pcW_cells h hj
  rw [Addr.add_mid]
  match i, hv with
  | 0, hv =>
    cases hv
    exact c0
  | 1, hv =>
    cases hv
    exact c1
  | _ + 2, hv => simp [rowP] at hv
theorem nn_toNat (l : List Nat) : (nn l).map Int.toNat = l := by
  unfold nn
  rw [List.map_map]
  conv => rhs; rw [← List.map_id l]
  exact List.map_congr_left fun x _ => by simp
set_option maxRecDepth 100000 in
set_option maxHeartbeats 16000000 in
theorem r_Squeeze (s : ByteArray) (w : World) (hs : s.size ≤ 4096) :
    Calls Try.prog 11 #[.string s] w fun e w' => e = .returned (.tuple #[.string (tx (sqzW (sl s))), .int .i64 0]) ∧ Below w.heap.size w w' := by
  obtain ⟨i0, hi0, hz0, hz1, hz2⟩ := info_parts2 info_rpcQ
  have hbp := build_rpcQ
  have hok := split_ok (sl_bys s)
  have hSp := r_Split s w (by omega)
  have hTl := splitW_len (sl s) s.size 0
  have hsq : sqzW (sl s) = bytesB (bitsP (piecesT (splitW (sl s) s.size 0))) := by unfold sqzW; rw [sl_len]
  rw [sl_len] at hok hTl
  rw [hsq]
  obtain ⟨T, hT⟩ : ∃ T, splitW (sl s) s.size 0 = T := ⟨_, rfl⟩
  rw [hT] at hok hSp hTl ⊢
  have hTl' : T.length ≤ 4096 := by omega
  have hm := piecesT_may hok hTl'
  have hu := pieces_u32 hok hTl'
  have hM := mayC_freq hok hTl'
  obtain ⟨hr, hL, hpos⟩ := lenT_right hok hTl'
  have h15 := getD_le hr.1
  have hRN := (rightW_N hL h15).1 hr
  have hfl := freqT_len T
  have hFr := fun p cap w1 (hp : ∀ a, p = some a → ∃ g, a = ⟨g, 0, none⟩) (h : Sl w1 3 (.slice p T.length cap) (rowsTk T)) => r_Freq T p cap w1 (by omega) (fun t ht => okT_c (hok t ht)) hp h
  rw [freqA_ok hok] at hFr
  have hLe : ∀ (g cap : Nat) (rest : List Value) (w1 : World), Blk w1 g 3 (ints .i64 (nn (freqT T)) ++ rest) → Calls Try.prog 19 #[.slice (some ⟨g, 0, none⟩) 289 cap, .int .i64 15] w1 (fun e w' => ∃ v, e = .returned (.tuple #[v, .int .i64 0]) ∧ OwnR w' w1.heap.size 3 1 v (rowsN (lenT T)) ∧ Below w1.heap.size w1 w') := fun g cap rest w1 hb => by
    have h1 : Sl w1 1 (.slice (some ⟨g, 0, none⟩) (rowsN (freqT T)).length cap) (rowsN (freqT T)) := sl_blkS (k := 1) (rest := rest) (fun r hr => by simp only [rowsN, List.mem_map] at hr; obtain ⟨x, _, rfl⟩ := hr; rfl) (by rw [rowsN_flatQ]; exact hb)
    rw [rowsN_len, hfl, ← rowsI_nn] at h1
    have h2 := r_Lengths_in (nn (freqT T)) 15 (some ⟨g, 0, none⟩) cap w1 (by rw [nn_length, hfl]; omega) (by omega) (by omega) (by rw [nn_length, hfl]; exact h1)
    rw [nn_length, hfl] at h2
    refine h2.mono ?_
    rintro e w' (⟨q1, _, _⟩ | ⟨_, v, q1, q2, q3⟩)
    · exact absurd ⟨by omega, by omega, hM⟩ q1
    · rw [nn_toNat] at q2
      exact ⟨v, q1, q2, q3⟩
  have hCo : ∀ p cap (w1 : World), Sl w1 1 (.slice p 289 cap) (rowsN (lenT T)) → Calls Try.prog 20 #[.slice p 289 cap] w1 (fun e w' => ∃ g cap, e = .returned (.tuple #[.slice (some ⟨g, 0, none⟩) 289 cap, .int .i64 0]) ∧ Sl w' 2 (.slice (some ⟨g, 0, none⟩) 289 cap) (rowsP (pcW (lenT T))) ∧ Below w1.heap.size w1 w') := fun p cap w1 h1 => by
    have h2 := r_Codes_yes (lenT T) p cap w1 hRN (by rw [hL]; exact h1)
    unfold RcRet at h2
    rw [hL] at h2
    exact h2
  have hPk := fun p cap w2 (h : Sl w2 2 (.slice p (piecesT T).length cap) (rowsP (piecesT T))) (hl : (piecesT T).length ≤ 1000000) => r_Pack (piecesT T) p cap w2 hl hu h (tx (bytesB (bitsP (piecesT T)))) 0 (.inl ⟨hm, rfl, rfl⟩)
  have hpc : piecesT T = (entN (lenT T) 289 0, 9) :: (entP (lenT T) 289 0 ++ (T.flatMap (tokP (lenT T)) ++ [pieceW (lenT T) 288])) := rfl
  have hen : entN (lenT T) 289 0 = nzN (lenT T) := entN_nz hL
  generalize piecesT T = PT at *
  generalize lenT T = L at *
  obtain ⟨N, hN⟩ : ∃ N, T.length = N := ⟨_, rfl⟩
  obtain ⟨z, hzz⟩ : ∃ z, tx (bytesB (bitsP PT)) = z := ⟨_, rfl⟩
  rw [hzz] at hPk ⊢
  rw [hN] at hFr
  have hN4 : N ≤ 4096 := by omega
  have g1 : ¬ (4096 : Int) < (s.size : Int) := by omega
  have HSP := Lib.hid hSp
  have HFR := Lib.hid hFr
  have HLE := Lib.hid hLe
  have HCO := Lib.hid hCo
  have HPK := Lib.hid hPk
  have HPC := Lib.hid hpc
  have HEN := Lib.hid hen
  have HOK := Lib.hid hok
  have H15 := Lib.hid h15
  have HL := Lib.hid hL
  have HN := Lib.hid hN
  clear hSp hTl hsq hT hm hu hM hr hpos hRN hfl hFr hLe hCo hPk hpc hen hok h15 hL hN hzz hTl' hs
  go_enter Try.func11, Try.ntmps11
  go_wp2_with fail
  refine HSP.out.mono ?_
  rintro e w1 ⟨v1, rfl, ho1, hb1⟩
  obtain ⟨p1, c1, hv1, hsh1⟩ := ho1.shape
  rw [rowsTk_len, HN.out] at hv1
  have hs1 := ho1.sl
  rw [hv1] at hs1
  have hF := Lib.hid (HFR.out p1 c1 w1 hsh1 hs1)
  have HB1 := Lib.hid hb1
  have HS1 := Lib.hid hs1
  have HSH := Lib.hid hsh1
  clear ho1 hs1 hb1 HFR HSP hsh1
  subst hv1
  go_wp2_with fail
  refine hF.out.mono ?_
  rintro e w2 ⟨g2, c2, rest2, rfl, hB2, hg2, hb2⟩
  rw [freqT_len] 
  have hLn := Lib.hid (HLE.out g2 c2 rest2 w2 hB2)
  have HB2 := Lib.hid (HB1.out.trans (hb2.mono HB1.out.size))
  have HS2 := Lib.hid (HS1.out.below hb2)
  clear hB2 hg2 hb2 HLE hF HB1 HS1
  go_wp2_with fail
  refine hLn.out.mono ?_
  rintro e w3 ⟨v3, rfl, ho3, hb3⟩
  obtain ⟨p3, c3, hv3, hsh3⟩ := ho3.shape
  rw [rowsN_len, HL.out] at hv3
  have hs3 := ho3.sl
  rw [hv3] at hs3
  have hCd := Lib.hid (HCO.out p3 c3 w3 hs3)
  have HB3 := Lib.hid (HB2.out.trans (hb3.mono HB2.out.size))
  have HS3 := Lib.hid (HS2.out.below hb3)
  have HL3 := Lib.hid hs3
  clear ho3 hs3 hb3 HCO hLn HB2 HS2 hsh3
  subst hv3
  go_wp2_with fail
  refine hCd.out.mono ?_
  rintro e w4 ⟨g4, c4, rfl, hG4, hb4⟩
  have HB4 := Lib.hid (HB3.out.trans (hb4.mono HB3.out.size))
  have HS4 := Lib.hid (HS3.out.below hb4)
  have HL4 := Lib.hid (HL3.out.below hb4)
  have HG4 := Lib.hid hG4
  have K0 := Lib.hid (PG.mk (OwnR.empty w4 w4.heap.size 55 2 (Nat.le_refl _)) ((Below.refl w4.heap.size w4).alloc (Nat.le_refl _) (.cells #[] 55)) : PG w4 _ _ [])
  clear hb4 hG4 hCd HB3 HS3 HL3
  go_wp2_with fail
  generalize World.alloc w4 _ = w5 at *
  go_loop [10, 11] (fun n i => ∃ j q : Nat, j ≤ 289 ∧ i = .int .i64 (j : Int) ∧ n = .int .u32 (q : Int) ∧ nzN (L.take j) = q) (fun _ i => 289 - (intOf i).toNat)
  case atStart => exact ⟨0, 0, by omega, rfl, rfl, rfl⟩
  case round =>
    obtain ⟨j, q, hj, rfl, rfl, hq⟩ := hrel
    by_cases hlt : j < 289
    · have d1 : (j : Int) < 289 := by omega
      have hlt' : j < L.length := by rw [HL.out]; exact hlt
      obtain ⟨a, hpa, hc⟩ := SlN.cell (HL4.out.below K0.out.below) hlt'
      subst hpa
      have hs := nzN_take L hlt'
      have hql := nzN_le (L.take j)
      rw [List.length_take] at hql
      rw [hq] at hs hql
      have hq310 : q ≤ 310 := by omega
      obtain ⟨x, hx⟩ : ∃ x, L.getD j 0 = x := ⟨_, rfl⟩
      rw [hx] at hc hs
      have HQ := Lib.hid hs
      have e5 : IntKind.u32.wrap ((q : Int) + 1) = (q : Int) + 1 := wrapsJ_u32 _ (by omega) (by omega)
      clear hs hq hql hx
      by_cases h0 : 0 < x
      · have g0 : (0 : Int) < (x : Int) := by omega
        have HQ2 : Hid (nzN (L.take (j + 1)) = q + 1) := Lib.hid (by rw [HQ.out, if_pos h0])
        clear HQ
        go_wp2
        go_round
        case rel => exact ⟨j + 1, q + 1, by omega, by go_num, by go_num, HQ2.out⟩
        case measure => (simp [intOf]; try omega)
      · have g0 : ¬ (0 : Int) < (x : Int) := by omega
        have HQ2 : Hid (nzN (L.take (j + 1)) = q) := Lib.hid (by rw [HQ.out, if_neg h0, Nat.add_zero])
        clear HQ
        go_wp2
        go_round
        case rel => exact ⟨j + 1, q, by omega, by go_num, rfl, HQ2.out⟩
        case measure => (simp [intOf]; try omega)
    · obtain rfl : j = 289 := by omega
      rw [List.take_of_length_le (by rw [HL.out]; omega)] at hq
      have hqe : entN L 289 0 = q := by rw [HEN.out]; exact hq
      have hq9 := nzN_le L
      rw [hq, HL.out] at hq9
      obtain ⟨q1, q2, q3, q4, q5, q6, q7, q8⟩ := pc_more (q, 9) (by simp) K0.out.own K0.out.below
      have Q1 := Lib.hid q1
      have Q2 := Lib.hid q2
      have Q4 := Lib.hid q4
      have Q5 := Lib.hid q5
      have Q6 := Lib.hid q6
      have Q7 := Lib.hid q7
      have HQE := Lib.hid hqe
      clear q1 q2 q3 q4 q5 q6 q7 q8 hq hqe
      go_wp2_with (refine wpList_append_rows rfl _ _ 50 rfl w4.heap.size 55 i0 (.agg #[.int .u32 0, .int .i64 0]) 2 16 Try.underlying50 hi0 hz0 hz1 hz2 rfl (by decide) _ (rowsP []) rfl Q2.out (.slice (some ⟨w5.heap.size, 0, none⟩) 1 1) [rowP (q, 9)] rfl Q1.out Q4.out Q5.out Q6.out Q7.out (.inr ⟨_, _, _, rfl⟩) ?_; intro v6 w6 ho6 hg6 hv6)
      have h6 := K0.out.more ho6 hg6
      have H6 := Lib.hid h6
      clear h6 ho6 hg6 hv6 Q1 Q2 Q4 Q5 Q6 Q7
      go_loopw [9, 12] (fun l i wr => ∃ (j : Nat) (lv : Value) (cur : List (Nat × Int)), lv = l ∧ i = .int .i64 (j : Int) ∧ j ≤ 289 ∧ PG w4 wr lv cur ∧ cur ++ entP L (289 - j) j = (q, 9) :: entP L 289 0 ∧ cur.length ≤ 1 + 2 * j) (fun _ i _ => 289 - (intOf i).toNat)
      case atStart => exact ⟨0, v6, [(q, 9)], rfl, rfl, by omega, H6.out, rfl, by simp⟩
      case round =>
        obtain ⟨j, lv, cur, rfl, rfl, hj, gP, gE, gl⟩ := hrel
        clear H6 K0
        by_cases hlt : j < 289
        · have d1 : (j : Int) < 289 := by omega
          have hlt' : j < L.length := by rw [HL.out]; exact hlt
          obtain ⟨a, hpa, hc⟩ := SlN.cell (HL4.out.below gP.below) hlt'
          subst hpa
          obtain ⟨d, hd⟩ : ∃ d, 289 - j = d + 1 := ⟨288 - j, by omega⟩
          rw [hd, entP] at gE
          have hx15 := H15.out j
          obtain ⟨x, hx⟩ : ∃ x, L.getD j 0 = x := ⟨_, rfl⟩
          rw [hx] at hc gE hx15
          have HX := Lib.hid hx
          clear hx
          by_cases h0 : x = 0
          · rw [if_pos h0] at gE
            subst h0
            have GP := Lib.hid gP
            have GE := Lib.hid gE
            clear gP gE
            go_wp2
            go_roundw
            case rel => exact ⟨j + 1, _, cur, rfl, by go_num, by omega, GP.out, by rw [show 289 - (j + 1) = d by omega]; exact GE.out, by omega⟩
            case measure => (simp [intOf]; try omega)
          · rw [if_neg h0] at gE
            have g0 : (0 : Int) < (x : Int) := by omega
            have e5 : IntKind.u32.wrap (j : Int) = (j : Int) := wrapsJ_u32 _ (by omega) (by omega)
            have e6 : IntKind.u32.wrap (x : Int) = (x : Int) := wrapsJ_u32 _ (by omega) (by omega)
            obtain ⟨q1, q2, q3, q4, q5, q6, q7, q8⟩ := pc_more (j, 9) (by omega) gP.own gP.below
            have Q1 := Lib.hid q1
            have Q2 := Lib.hid q2
            have Q4 := Lib.hid q4
            have Q5 := Lib.hid q5
            have Q6 := Lib.hid q6
            have Q7 := Lib.hid q7
            have GP := Lib.hid gP
            have GE := Lib.hid gE
            have HLT := Lib.hid hlt'
            have HCL := Lib.hid gl
            clear q1 q2 q3 q4 q5 q6 q7 q8 gP gE h0 hlt'
            go_wp2_with (first | (refine wpList_append_rows rfl _ _ 50 rfl w4.heap.size 55 i0 (.agg #[.int .u32 0, .int .i64 0]) 2 16 Try.underlying50 hi0 hz0 hz1 hz2 rfl (by decide) _ (rowsP cur) rfl Q2.out (.slice (some ⟨wr.heap.size, 0, none⟩) 1 1) [rowP (j, 9)] rfl Q1.out Q4.out Q5.out Q6.out Q7.out (.inr ⟨_, _, _, rfl⟩) ?_; intro v7 w7 ho7 hg7 hv7; have h7 := GP.out.more ho7 hg7; obtain ⟨a7, ha7, hc7⟩ := SlN.cell (HL4.out.below h7.below) HLT.out; cases ha7; rw [HX.out] at hc7; obtain ⟨r1, r2, r3, r4, r5, r6, r7, r8⟩ := pc_more (x, 4) (by rw [List.length_append, List.length_singleton]; have := HCL.out; omega) h7.own h7.below; have R1 := Lib.hid r1; have R2 := Lib.hid r2; have R4 := Lib.hid r4; have R5 := Lib.hid r5; have R6 := Lib.hid r6; have R7 := Lib.hid r7; have H7 := Lib.hid h7; clear r1 r2 r3 r4 r5 r6 r7 r8 h7 ho7 hg7 hv7 hc) | (refine wpList_append_rows rfl _ _ 50 rfl w4.heap.size 55 i0 (.agg #[.int .u32 0, .int .i64 0]) 2 16 Try.underlying50 hi0 hz0 hz1 hz2 rfl (by decide) _ (rowsP (cur ++ [(j, 9)])) rfl R2.out (.slice (some ⟨w7.heap.size, 0, none⟩) 1 1) [rowP (x, 4)] rfl R1.out R4.out R5.out R6.out R7.out (.inr ⟨_, _, _, rfl⟩) ?_; intro v8 w8 ho8 hg8 hv8))
            have h8 := H7.out.more ho8 hg8
            have H8 := Lib.hid h8
            clear h8 ho8 hg8 hv8
            go_roundw
            case rel => exact ⟨j + 1, _, cur ++ [(j, 9)] ++ [(x, 4)], rfl, by go_num, by omega, H8.out, by rw [show 289 - (j + 1) = d by omega, ← GE.out, List.append_assoc, List.append_assoc]; rfl, by simp; omega⟩
            case measure => (simp [intOf]; try omega)
        · obtain rfl : j = 289 := by omega
          rw [Nat.sub_self, entP, List.append_nil] at gE
          have H9 := Lib.hid gP
          have GE9 := Lib.hid gE
          have gl9 : cur.length ≤ 579 := by omega
          clear gP gE gl
          go_wp2_with fail
          go_loopw [9, 13] (fun l i wr => ∃ (j : Nat) (lv : Value) (cu : List (Nat × Int)), lv = l ∧ i = .int .i64 (j : Int) ∧ j ≤ N ∧ PG w4 wr lv cu ∧ cu ++ (T.drop j).flatMap (tokP L) = cur ++ T.flatMap (tokP L) ∧ cu.length ≤ 579 + 2 * j) (fun _ i _ => N - (intOf i).toNat)
          case atStart => exact ⟨0, _, cur, rfl, rfl, by omega, H9.out, rfl, by omega⟩
          case round =>
            obtain ⟨j, lv, cu, rfl, rfl, hj, gP, gE, gl⟩ := hrel
            clear H9 gl9
            by_cases hlt : j < N
            · have d1 : (j : Int) < (N : Int) := by omega
              have hlt' : j < T.length := by rw [HN.out]; exact hlt
              obtain ⟨a, hpa, hxx⟩ := (HS4.out.below gP.below).row (rowsTk_at hlt')
              clear hxx
              obtain ⟨g, rfl⟩ := HSH.out a hpa
              subst hpa
              have hdr : T.drop j = T[j] :: T.drop (j + 1) := List.drop_eq_getElem_cons hlt'
              rw [hdr, List.flatMap_cons] at gE
              have hot := HOK.out _ (List.getElem_mem hlt')
              obtain ⟨⟨c, n, k⟩, ht⟩ : ∃ t, T[j] = t := ⟨_, rfl⟩
              obtain ⟨e0, e1, e2⟩ := tk_cells (HS4.out.below gP.below) hlt' ht
              have htk := fun w7 (h : Below w4.heap.size w4 w7) => tk_cells (HS4.out.below h) hlt' ht
              have HTK := Lib.hid htk
              rw [ht] at gE hot
              clear ht hdr htk hlt'
              rcases hot with ⟨h1, h2, h3⟩ | ⟨h1, h2, h3, h4, h5⟩
              · simp only at h1 h2 h3
                subst h1 h2
                have htp : tokP L (c, 0, 0) = [pieceW L c] := rfl
                rw [htp] at gE
                have hce := pcW_addr (HG4.out.below gP.below) (j := c) (by rw [HL.out]; omega)
                obtain ⟨pq, hpq⟩ : ∃ pq, pieceW L c = pq := ⟨_, rfl⟩
                rw [hpq] at hce gE
                obtain ⟨q1, q2, q3, q4, q5, q6, q7, q8⟩ := pc_more pq (by omega) gP.own gP.below
                have Q1 := Lib.hid q1
                have Q2 := Lib.hid q2
                have Q4 := Lib.hid q4
                have Q5 := Lib.hid q5
                have Q6 := Lib.hid q6
                have Q7 := Lib.hid q7
                have GP := Lib.hid gP
                have GE := Lib.hid gE
                have HCE := Lib.hid hce
                have i1 : (c : Int) < 289 := by omega
                have i3 : (c : Int) < 256 := by omega
                have e3 : IntKind.i64.wrap (c : Int) = (c : Int) := IntWalk.i64_in _ (by omega)
                clear q1 q2 q3 q4 q5 q6 q7 q8 gP gE hce htp hpq e2
                go_wp2_with (first | (refine wpList_load_addr rfl 55 _ rfl _ rfl (rowP pq) HCE.out Try.underlying55 rfl size_rpcQ ?_; rw [rowP_agg]) | (refine wpList_append_rows rfl _ _ 50 rfl w4.heap.size 55 i0 (.agg #[.int .u32 0, .int .i64 0]) 2 16 Try.underlying50 hi0 hz0 hz1 hz2 rfl (by decide) _ (rowsP cu) rfl Q2.out (.slice (some ⟨wr.heap.size, 0, none⟩) 1 1) [rowP pq] rfl Q1.out Q4.out Q5.out Q6.out Q7.out (.inr ⟨_, _, _, rfl⟩) ?_; intro v7 w7 ho7 hg7 hv7))
                have h7 := GP.out.more ho7 hg7
                have H7 := Lib.hid h7
                clear h7 ho7 hg7 hv7
                go_roundw
                case rel =>
                  refine ⟨_, _, _, _, _, _, _, _, _, _, _, _, _, _, _, _, _, _, _, _, _, _, _, _, _, _, _, _, _, _, _, _, _, _, _, _, _, _, _, _, _, _, _, _, _, _, _, _, _, _, ?_, rfl⟩
                  exact ⟨j + 1, _, cu ++ [pq], rfl, by go_num, by omega, H7.out, by rw [← GE.out, List.append_assoc], by simp; omega⟩
                case measure => (simp [intOf]; try omega)
              · simp only at h1 h2 h3 h4 h5
                obtain ⟨m, rfl⟩ : ∃ m : Nat, n = (m : Int) := ⟨n.toNat, by omega⟩
                obtain ⟨k', rfl⟩ : ∃ k' : Nat, k = ((k' + 1 : Nat) : Int) := ⟨(k - 1).toNat, by omega⟩
                obtain ⟨sy, hsy⟩ : ∃ sy, 253 + m = sy := ⟨_, rfl⟩
                have htp : tokP L (c, (m : Int), ((k' + 1 : Nat) : Int)) = [pieceW L sy, (k', 9)] := by
                  unfold tokP
                  simp only
                  rw [if_neg (by omega), Int.toNat_natCast, hsy, show (((k' + 1 : Nat) : Int) - 1).toNat = k' by omega]
                rw [htp] at gE
                have e5 : 256 + (m : Int) - 3 = (sy : Int) := by omega
                have e0' : ((m : Int) == 0) = false := by rw [beq_eq_false_iff_ne]; omega
                have i1 : (sy : Int) < 289 := by omega
                have i4 : (m : Int) ≤ 34 := by omega
                have hce := pcW_addr (HG4.out.below gP.below) (j := sy) (by rw [HL.out]; omega)
                obtain ⟨pq, hpq⟩ : ∃ pq, pieceW L sy = pq := ⟨_, rfl⟩
                rw [hpq] at hce gE
                obtain ⟨q1, q2, q3, q4, q5, q6, q7, q8⟩ := pc_more pq (by omega) gP.own gP.below
                have Q1 := Lib.hid q1
                have Q2 := Lib.hid q2
                have Q4 := Lib.hid q4
                have Q5 := Lib.hid q5
                have Q6 := Lib.hid q6
                have Q7 := Lib.hid q7
                have GP := Lib.hid gP
                have GE := Lib.hid gE
                have HCE := Lib.hid hce
                have HCL := Lib.hid gl
                have e6 : ((k' + 1 : Nat) : Int) - 1 = (k' : Int) := by omega
                obtain ⟨kk, hkk⟩ : ∃ kk : Int, ((k' + 1 : Nat) : Int) = kk := ⟨_, rfl⟩
                rw [hkk] at e6 HTK
                have i5 : kk ≤ 512 := by omega
                have i6 : 1 ≤ kk := by omega
                have e7 : IntKind.u32.wrap (k' : Int) = (k' : Int) := wrapsJ_u32 _ (by omega) (by omega)
                clear q1 q2 q3 q4 q5 q6 q7 q8 gP gE hce htp hpq e2 hsy hkk h1 h2 h3 h4 h5
                go_wp2_with (first | (refine wpList_load_addr rfl 55 _ rfl _ rfl (rowP pq) HCE.out Try.underlying55 rfl size_rpcQ ?_; rw [rowP_agg]) | (refine wpList_append_rows rfl _ _ 50 rfl w4.heap.size 55 i0 (.agg #[.int .u32 0, .int .i64 0]) 2 16 Try.underlying50 hi0 hz0 hz1 hz2 rfl (by decide) _ (rowsP cu) rfl Q2.out (.slice (some ⟨wr.heap.size, 0, none⟩) 1 1) [rowP pq] rfl Q1.out Q4.out Q5.out Q6.out Q7.out (.inr ⟨_, _, _, rfl⟩) ?_; intro v7 w7 ho7 hg7 hv7; have h7 := GP.out.more ho7 hg7; obtain ⟨f0, f1, f2⟩ := HTK.out w7 h7.below; obtain ⟨r1, r2, r3, r4, r5, r6, r7, r8⟩ := pc_more (k', 9) (by rw [List.length_append, List.length_singleton]; have := HCL.out; omega) h7.own h7.below; have R1 := Lib.hid r1; have R2 := Lib.hid r2; have R4 := Lib.hid r4; have R5 := Lib.hid r5; have R6 := Lib.hid r6; have R7 := Lib.hid r7; have H7 := Lib.hid h7; clear r1 r2 r3 r4 r5 r6 r7 r8 h7 ho7 hg7 hv7 f0 f1) | (refine wpList_append_rows rfl _ _ 50 rfl w4.heap.size 55 i0 (.agg #[.int .u32 0, .int .i64 0]) 2 16 Try.underlying50 hi0 hz0 hz1 hz2 rfl (by decide) _ (rowsP (cu ++ [pq])) rfl R2.out (.slice (some ⟨w7.heap.size, 0, none⟩) 1 1) [rowP (k', 9)] rfl R1.out R4.out R5.out R6.out R7.out (.inr ⟨_, _, _, rfl⟩) ?_; intro v8 w8 ho8 hg8 hv8))
                have h8 := H7.out.more ho8 hg8
                have H8 := Lib.hid h8
                clear h8 ho8 hg8 hv8
                go_roundw
                case rel =>
                  refine ⟨_, _, _, _, _, _, _, _, _, _, _, _, _, _, _, _, _, _, _, _, _, _, _, _, _, _, _, _, _, _, _, _, _, _, _, _, _, _, _, _, _, _, _, _, _, _, _, _, _, _, ?_, rfl⟩
                  exact ⟨j + 1, _, cu ++ [pq] ++ [(k', 9)], rfl, by go_num, by omega, H8.out, by rw [← GE.out, List.append_assoc, List.append_assoc]; rfl, by simp; omega⟩
                case measure => (simp [intOf]; try omega)
            · obtain rfl : j = N := by omega
              have hdn : T.drop j = [] := List.drop_eq_nil_of_le (by rw [HN.out]; omega)
              rw [hdn, List.flatMap_nil, List.append_nil] at gE
              have hfin : cu ++ [pieceW L 288] = PT := by
                rw [HPC.out, gE, GE9.out, HQE.out]
                simp
              have hce := pcW_addr (HG4.out.below gP.below) (j := 288) (by rw [HL.out]; omega)
              obtain ⟨pq, hpq⟩ : ∃ pq, pieceW L 288 = pq := ⟨_, rfl⟩
              rw [hpq] at hce hfin
              obtain ⟨q1, q2, q3, q4, q5, q6, q7, q8⟩ := pc_more pq (by omega) gP.own gP.below
              have Q1 := Lib.hid q1
              have Q2 := Lib.hid q2
              have Q4 := Lib.hid q4
              have Q5 := Lib.hid q5
              have Q6 := Lib.hid q6
              have Q7 := Lib.hid q7
              have hPl : PT.length ≤ 1000000 := by rw [← hfin, List.length_append, List.length_singleton]; omega
              have GP := Lib.hid gP
              have HCE := Lib.hid hce
              have HFIN := Lib.hid hfin
              clear q1 q2 q3 q4 q5 q6 q7 q8 gP gE hce hfin hpq hdn
              go_wp2_with (first | (refine wpList_load_addr rfl 55 _ rfl _ rfl (rowP pq) HCE.out Try.underlying55 rfl size_rpcQ ?_; rw [rowP_agg]) | (refine wpList_append_rows rfl _ _ 50 rfl w4.heap.size 55 i0 (.agg #[.int .u32 0, .int .i64 0]) 2 16 Try.underlying50 hi0 hz0 hz1 hz2 rfl (by decide) _ (rowsP cu) rfl Q2.out (.slice (some ⟨wr.heap.size, 0, none⟩) 1 1) [rowP pq] rfl Q1.out Q4.out Q5.out Q6.out Q7.out (.inr ⟨_, _, _, rfl⟩) ?_; intro v7 w7 ho7 hg7 hv7; have h7 := GP.out.more ho7 hg7; rw [HFIN.out] at h7; obtain ⟨pa, ca, he⟩ := h7.own.isSlice; rw [rowsP_len] at he; have hsl := h7.own.sl; rw [he] at hsl; have hPk := Lib.hid (HPK.out pa ca w7 hsl hPl); have H7B := Lib.hid h7.below; obtain ⟨K, hK⟩ : ∃ K, PT.length = K := ⟨_, rfl⟩; rw [hK] at he hPk; clear h7 ho7 hg7 hv7 hsl hK hPl; subst he))
              refine hPk.out.mono ?_
              rintro e w8 ⟨rfl, hb8⟩
              have a7 := HB4.out.trans (H7B.out.mono HB4.out.size)
              have HB8 := Lib.hid (a7.trans (hb8.mono a7.size))
              clear a7 hb8
              go_wp2
              go_ret2
              exact ⟨rfl, HB8.out⟩
end Go.Proofs.Ytpjihjbgihionaa
