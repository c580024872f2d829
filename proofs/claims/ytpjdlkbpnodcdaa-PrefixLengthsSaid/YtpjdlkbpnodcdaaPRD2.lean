/- Walk of the reference's depths. -/
import Derived.Test.YtpjdlkbpnodcdaaPRD1
namespace Go.Proofs.Ytpjdlkbpnodcdaa
open Go.RowKit
set_option linter.unusedVariables false

set_option maxRecDepth 100000 in
set_option maxHeartbeats 4000000 in
theorem r_depths (fr : List Nat) (p : Option Addr) (cap : Nat) (w : World) (hl : fr.length ≤ 300) (hf : ∀ i, fr.getD i 0 ≤ 1048576) (hS : Sl w 1 (.slice p fr.length cap) (rowsN fr)) :
    Calls Try.prog 31 #[.slice p fr.length cap] w (DepRet (depthsF fr) w) := by
  obtain ⟨i0, hi0, hz0, hz1, hz2⟩ := info_parts2 info_int
  obtain ⟨i1, hi1, hy0, hy1, hy2⟩ := info_parts2 info_tree
  have HS := Lib.hid hS
  have HF := Lib.hid hf
  obtain ⟨w1, hw1⟩ : ∃ w1, (w.alloc (.cells #[] 3)).alloc (.cells #[] 91) = w1 := ⟨_, rfl⟩
  have k3 : OwnR w1 w.heap.size 3 1 (.slice (some ⟨w.heap.size, 0, none⟩) 0 0) (rowsN (zerN 0)) := by rw [← hw1]; exact (OwnR.empty w w.heap.size 3 1 (Nat.le_refl _)).alloc _
  have k4 : OwnR w1 w.heap.size 91 2 (.slice (some ⟨w.heap.size + 1, 0, none⟩) 0 0) (rowsT []) := by
    rw [← hw1]
    have := OwnR.empty (w.alloc (.cells #[] 3)) w.heap.size 91 2 (by simp)
    simpa [rowsT] using this
  have kb : Below w.heap.size w w1 := by rw [← hw1]; exact ((Below.refl _ _).alloc (Nat.le_refl _) _).alloc (by simp) _
  have K3 := Lib.hid k3
  have K4 := Lib.hid k4
  have KB := Lib.hid kb
  have HW1 := Lib.hid hw1
  clear hS hf k3 k4 kb hw1
  go_enter Try.func31, Try.ntmps31
  go_wp2
  rw [HW1.out]
  go_loopw [3, 4, 5] (fun o u i wr => ∃ (j : Nat) (T : List RT), j ≤ fr.length ∧ i = .int .i64 (j : Int) ∧ T.map RT.key = (symsF fr j).map (fun s => (fr.getD s 0, s)) ∧ (∀ t ∈ T, t.syms = [t.tag]) ∧ TrsO wr w.heap.size o.ownBlock T ∧ OwnR wr w.heap.size 3 1 o (rowsN (zerN j)) ∧ OwnR wr w.heap.size 91 2 u (rowsT T) ∧ Below w.heap.size w wr) (fun _ _ i _ => fr.length - (intOf i).toNat)
  case atStart => exact ⟨0, [], by omega, rfl, rfl, (fun t h => by cases h), TrsO.nil _ _ _, K3.out, K4.out, KB.out⟩
  case round =>
    obtain ⟨j, T, hj, rfl, hTk, hTs, gT, g3, g4, gb⟩ := hrel
    clear K3 K4 KB HW1
    by_cases hlt : j < fr.length
    · have d1 : (j : Int) < (fr.length : Int) := by omega
      obtain ⟨a, rfl, hc⟩ := SlN.cell (HS.out.below gb) hlt
      have hq20 := HF.out j
      have hzs : rowsN (zerN (j + 1)) = rowsN (zerN j) ++ [[.int .i64 0]] := by rw [zerN_snoc, rowsN_snoc]; rfl
      have hrl : (rowsN (zerN j)).length = j := by rw [rowsN_len, zerN_len]
      have hTl : T.length ≤ j := by
        have h1 := congrArg List.length hTk
        rw [List.length_map, List.length_map] at h1
        have h2 : (symsF fr j).length ≤ j := by unfold symsF; exact Nat.le_trans (List.length_filter_le _ _) (by rw [List.length_range]; exact Nat.le_refl _)
        omega
      have hsy := fun h => symsF_yes (fr := fr) (j := j) h
      have hsn := fun h => symsF_no (fr := fr) (j := j) h
      obtain ⟨q, hq⟩ : ∃ q, fr.getD j 0 = q := ⟨_, rfl⟩
      rw [hq] at hc hq20
      have hnb := Blk.new' wr 3 (c := #[.int .i64 0]) [.int .i64 0] rfl
      have hnews := sl_one hnb
      have hown := g3.alloc (.cells #[.int .i64 0] 3)
      have hua := g4.alloc (.cells #[.int .i64 0] 3)
      have hta := gT.alloc (.cells #[.int .i64 0] 3)
      have hap := hua.apart hown (by decide)
      have hlo := g3.lt
      have hlu := g4.lt
      have hgb := gb.alloc gb.size (.cells #[.int .i64 0] 3)
      have hbase : w.heap.size ≤ (wr.alloc (.cells #[.int .i64 0] 3)).heap.size := hgb.size
      have hone : ∀ r ∈ [[Value.int .i64 0]], ∀ u ∈ r, u.oneCell' = true := by simp [Value.oneCell']
      have hlen : (rowsN (zerN j)).length + [[Value.int .i64 0]].length ≤ maxLen := by rw [hrl, List.length_singleton]; unfold maxLen; omega
      have hby : ((rowsN (zerN j)).length + [[Value.int .i64 0]].length) * 8 ≤ 140737488355328 := by rw [hrl, List.length_singleton]; omega
      have HONE := Lib.hid hone
      have HLEN := Lib.hid hlen
      have HBY := Lib.hid hby
      have HOW := Lib.hid hown
      have HNW := Lib.hid hnews
      have HLO := Lib.hid hlo
      have HLU := Lib.hid hlu
      have HGB := Lib.hid hgb
      have HBA := Lib.hid hbase
      have HUA := Lib.hid hua
      have HTA := Lib.hid hta
      have HAP := Lib.hid hap
      have HQ := Lib.hid hq
      have HZS := Lib.hid hzs
      have HTK := Lib.hid hTk
      have HTS := Lib.hid hTs
      have HTL := Lib.hid hTl
      have HSY := Lib.hid hsy
      have HSN := Lib.hid hsn
      clear hone hlen hby hnb hnews hown hlo hlu hgb hbase hua hta hap hq hzs hTk hTs hTl hsy hsn g3 g4 gT gb hrl
      by_cases hq0 : 0 < q
      · have e0 : (0 : Int) < (q : Int) := by omega
        have hone2 : ∀ b, ∀ r ∈ [[Value.int .i64 (q : Int), .slice (some ⟨b, 0, none⟩) 1 1]], ∀ u ∈ r, u.oneCell' = true := fun b => by simp [Value.oneCell']
        have hlen2 : ∀ b, (rowsT T).length + [[Value.int .i64 (q : Int), .slice (some ⟨b, 0, none⟩) 1 1]].length ≤ maxLen := fun b => by rw [rowsT_len, List.length_singleton]; unfold maxLen; have := HTL.out; omega
        have hby2 : ∀ b, ((rowsT T).length + [[Value.int .i64 (q : Int), .slice (some ⟨b, 0, none⟩) 1 1]].length) * 32 ≤ 140737488355328 := fun b => by rw [rowsT_len, List.length_singleton]; have := HTL.out; omega
        have HONE2 := Lib.hid hone2
        have HLEN2 := Lib.hid hlen2
        have HBY2 := Lib.hid hby2
        clear hone2 hlen2 hby2
        go_wp2_with (first | (refine wpList_append_rows rfl _ _ 22 rfl w.heap.size 3 i0 (.int .i64 0) 1 8 Try.underlying22 hi0 hz0 hz1 hz2 rfl (by decide) _ (rowsN (zerN j)) rfl HOW.out (.slice (some ⟨wr.heap.size, 0, none⟩) 1 1) [[.int .i64 0]] rfl HNW.out HONE.out HLEN.out HBY.out HBA.out (.inr ⟨_, _, _, rfl⟩) ?_; intro v' w5 ho5 hg5 hv5; have gb5 := HGB.out.grown hg5 HBA.out (fun k e => (HLO.out k e).1); obtain ⟨a', ha', hc5⟩ := SlN.cell (HS.out.below gb5) hlt; cases ha'; rw [HQ.out] at hc5; have GT5 := Lib.hid (HTA.out.grown hg5 (fun t ht => (HTA.out t ht).2.2) hv5); have G45 := Lib.hid (HUA.out.grownO hg5 HAP.out); have hlo5 := ho5.lt; have HLO5 := Lib.hid hlo5; clear hlo5; have GB5 := Lib.hid gb5; have HO5 := Lib.hid ho5; clear hg5 ho5 gb5 hv5; obtain ⟨wb, hwb⟩ : ∃ wb, (w5.alloc (.cells #[.int .i64 (j : Int)] 3)).alloc (.cells #[.int .i64 (q : Int), .slice (some ⟨w5.heap.size, 0, none⟩) 1 1] 91) = wb := ⟨_, rfl⟩; obtain ⟨lf1, lf2, lf3, lf4⟩ := leaf_new j q G45.out GT5.out GB5.out.size (fun b hb => (HLO5.out b hb).2) wb hwb; have LF1 := Lib.hid lf1; have LF2 := Lib.hid lf2; have LF3 := Lib.hid lf3; have LB := Lib.hid (GB5.out.trans (lf4.mono GB5.out.size)); have LBS := Lib.hid LB.out.size; have LO := Lib.hid (HO5.out.keep lf4); have LAP := Lib.hid (LO.out.apart lf1 (by decide)); have HWB := Lib.hid hwb; clear lf1 lf2 lf3 lf4 hwb) | (rw [HWB.out]; refine wpList_append_rows rfl _ _ 89 rfl w.heap.size 91 i1 (.agg #[.int .i64 0, .slice none 0 0]) 2 32 Try.underlying89 hi1 hy0 hy1 hy2 rfl (by decide) _ (rowsT T) rfl LF1.out (.slice (some ⟨w5.heap.size + 1, 0, none⟩) 1 1) [[.int .i64 (q : Int), .slice (some ⟨w5.heap.size, 0, none⟩) 1 1]] rfl LF3.out (HONE2.out _) (HLEN2.out _) (HBY2.out _) LBS.out (.inr ⟨_, _, _, rfl⟩) ?_; intro v8 w8 ho8 hg8 hv8; have gb8 := Lib.hid (LB.out.grown hg8 LBS.out (fun k e => (LF1.out.lt k e).1)); have gT8 := Lib.hid (LF2.out.grown hg8 (LF2.out.own LF1.out) (.inl rfl)); have g38 := Lib.hid (LO.out.grownO hg8 LAP.out); have HO8 := Lib.hid ho8; clear hg8 ho8 hv8))
        go_roundw
        case rel => exact ⟨j + 1, T ++ [⟨q, j, [j], w5.heap.size, 1⟩], by omega, by go_num, by rw [HSY.out (by rw [HQ.out]; exact hq0), List.map_append, List.map_append, HTK.out]; show _ ++ [(q, j)] = _ ++ [(fr.getD j 0, j)]; rw [HQ.out], (fun t ht => by rcases List.mem_append.1 ht with ht | ht; exact HTS.out t ht; rw [List.mem_singleton.1 ht]), gT8.out, by rw [HZS.out]; exact g38.out, by rw [show rowsT (T ++ [⟨q, j, [j], w5.heap.size, 1⟩]) = rowsT T ++ [[.int .i64 (q : Int), .slice (some ⟨w5.heap.size, 0, none⟩) 1 1]] by simp [rowsT, RT.row, RT.v]]; exact HO8.out, gb8.out⟩
        case measure => simp [intOf]; omega
      · have e0 : ¬ (0 : Int) < (q : Int) := by omega
        go_wp2_with (first | (refine wpList_append_rows rfl _ _ 22 rfl w.heap.size 3 i0 (.int .i64 0) 1 8 Try.underlying22 hi0 hz0 hz1 hz2 rfl (by decide) _ (rowsN (zerN j)) rfl HOW.out (.slice (some ⟨wr.heap.size, 0, none⟩) 1 1) [[.int .i64 0]] rfl HNW.out HONE.out HLEN.out HBY.out HBA.out (.inr ⟨_, _, _, rfl⟩) ?_; intro v' w5 ho5 hg5 hv5; have gb5 := HGB.out.grown hg5 HBA.out (fun k e => (HLO.out k e).1); obtain ⟨a', ha', hc5⟩ := SlN.cell (HS.out.below gb5) hlt; cases ha'; rw [HQ.out] at hc5; have GT5 := Lib.hid (HTA.out.grown hg5 (fun t ht => (HTA.out t ht).2.2) hv5); have G45 := Lib.hid (HUA.out.grownO hg5 HAP.out); have hlo5 := ho5.lt; have HLO5 := Lib.hid hlo5; clear hlo5; have GB5 := Lib.hid gb5; have HO5 := Lib.hid ho5; clear hg5 ho5 gb5 hv5))
        go_roundw
        case rel => exact ⟨j + 1, T, by omega, by go_num, by rw [HSN.out (by rw [HQ.out]; exact hq0)]; exact HTK.out, HTS.out, GT5.out, by rw [HZS.out]; exact HO5.out, G45.out, GB5.out⟩
        case measure => simp [intOf]; omega
    · obtain rfl : j = fr.length := by omega
      have hTl : T.length = (treesF fr).length := by
        have := congrArg List.length hTk
        rw [List.length_map, List.length_map] at this
        rw [this, treesF_symsL]
      have hsl : (symsF fr fr.length).length = T.length := by rw [hTl, treesF_symsL]
      obtain ⟨p4, c4, e4⟩ := g4.isSlice
      rw [rowsT_len] at e4
      subst e4
      obtain ⟨p3, c3, e3⟩ := g3.isSlice
      rw [rowsN_len, zerN_len] at e3
      subst e3
      have HTK := Lib.hid hTk
      have HTS := Lib.hid hTs
      have HTL := Lib.hid hTl
      have HSL := Lib.hid hsl
      have GT := Lib.hid gT
      have G3 := Lib.hid g3
      have G4 := Lib.hid g4
      have GB := Lib.hid gb
      have hz : (rowsN (zerN fr.length)).length = fr.length := by rw [rowsN_len, zerN_len]
      clear hTk hTs hTl hsl gT g3 g4 gb hlt
      rcases Nat.lt_trichotomy T.length 1 with hT | hT | hT
      · have h0 : T.length = 0 := by omega
        have hdn := deps_none (fr := fr) (by rw [HSL.out]; exact h0)
        have HDN := Lib.hid hdn
        rw [h0]
        clear hdn hT
        go_wp2
        go_loop [4] (fun u => u = .slice p4 0 c4) (fun _ => 0)
        case atStart => rfl
        case round =>
          subst hrel
          go_wp2
          go_ret
          exact ⟨_, rfl, by rw [← HDN.out]; exact G3.out, GB.out⟩
      · obtain ⟨t, hTt⟩ : ∃ t, T = [t] := List.length_eq_one_iff.1 hT
        subst hTt
        have hsf : symsF fr fr.length = [t.tag] := by
          have h1 := congrArg (List.map Prod.snd) HTK.out
          simp only [List.map_map, List.map_cons, List.map_nil] at h1
          have h2 : (List.map (Prod.snd ∘ fun s => (fr.getD s 0, s)) (symsF fr fr.length)) = symsF fr fr.length := List.map_id' _
          rw [h2] at h1
          exact h1.symm
        have hd1 := deps_one hsf
        have htl := symsF_pos.1 (show t.tag ∈ symsF fr fr.length by rw [hsf]; simp)
        obtain ⟨g, cg, rest, hv, hgw, hgl, hG, hback⟩ := G3.out.blkN (by rw [zerN_len]; omega)
        rw [zerN_len] at hv
        cases hv
        obtain ⟨⟨rs, hB⟩, _, _⟩ := GT.out t (by simp)
        have hts := HTS.out t (by simp)
        rw [hts] at hB
        obtain ⟨b4, c4', r4, hv4, _, hB4⟩ := G4.out.blkR (by rw [rowsT_len]; exact Nat.one_pos)
        rw [rowsT_len] at hv4
        cases hv4
        have hrv : t.row = [.int .i64 (t.wt : Int), .slice (some ⟨t.g, 0, none⟩) 1 t.cap] := by unfold RT.row RT.v; rw [hts]; rfl
        have hfl : (rowsT [t]).flatten = [.int .i64 (t.wt : Int), .slice (some ⟨t.g, 0, none⟩) 1 t.cap] := by unfold rowsT; rw [List.map_cons, List.map_nil, hrv]; rfl
        rw [hfl] at hB4
        have c1 : wr.cell? ⟨b4, 1, none⟩ = some (.slice (some ⟨t.g, 0, none⟩) 1 t.cap) := hB4.cell 1
        have c2 : wr.cell? ⟨t.g, 0, none⟩ = some (.int .i64 (t.tag : Int)) := hB.cell 0
        have c3 : wr.cell? ⟨g, t.tag, none⟩ = some (.int .i64 0) := by
          rw [hG.cell, List.getElem?_append_left (by rw [ints_length, nn_length, zerN_len]; exact htl.1)]
          unfold ints nn zerN
          simp [htl.1]
        have f3 := hG.free t.tag
        have hs1 := hG.set t.tag (.int .i64 1)
        rw [List.set_append_left _ _ (by rw [ints_length, nn_length, zerN_len]; exact htl.1), ints_set, show (1 : Int) = ((1 : Nat) : Int) from rfl, nn_set] at hs1
        have ho := hback _ _ (by rw [List.length_set]) hs1
        rw [hd1] at ho
        have hbb := GB.out.setCell (p := ⟨g, t.tag, none⟩) hgw (.int .i64 ((1 : Nat) : Int))
        have HO := Lib.hid ho
        have HBB := Lib.hid hbb
        have itl : (t.tag : Int) < (fr.length : Int) := by omega
        have hT1 : ([t] : List RT).length = 1 := rfl
        rw [hT1]
        clear hsf hd1 hG hback hB hts hrv hfl hB4 hs1 ho hbb hT
        go_wp2
        go_loop [4] (fun u => u = .slice (some ⟨b4, 0, none⟩) 1 c4) (fun _ => 0)
        case atStart => rfl
        case round =>
          subst hrel
          go_wp2
          go_ret
          exact ⟨_, rfl, HO.out, HBB.out⟩
      · have h2 : 2 ≤ (treesF fr).length := by rw [← HTL.out]; omega
        have hd1n : decide (T.length = 1) = false := by simp; omega
        have hd1 : ((T.length : Int) == 1) = false := by rw [beq_eq_false_iff_ne]; omega
        have hfl := treesF_len fr
        have hpos : 0 < fr.length := by omega
        obtain ⟨g, cg, rest, hv, hgw, hgl, hG, hback⟩ := G3.out.blkN (by rw [zerN_len]; exact hpos)
        rw [zerN_len] at hv
        cases hv
        have htk : T.map RT.key = treesF fr := by rw [HTK.out]; rfl
        have hsT : ∀ (T' : List RT), (∀ t ∈ T', t.syms = [t.tag]) → T'.flatMap RT.syms = (T'.map RT.key).map Prod.snd := fun T' => by
          induction T' with
          | nil => intro _; rfl
          | cons t T' ih =>
            intro h
            rw [List.flatMap_cons, h t (by simp), ih (fun u hu => h u (by simp [hu]))]
            rfl
        have hRS : RS (fun s => deepT fr.length fr.length (treesF fr) s) (symsF fr fr.length) fr.length fr.length fr.length T (zerN fr.length) := by
          refine ⟨by rw [htk]; exact treesF_ok fr, by have := HTL.out; omega, fun t ht s hs => ?_, ?_, ?_, fun s hs => (symsF_pos.1 hs).1, zerN_len _, fun s _ => zerN_getD _ _⟩
          · rw [HTS.out t ht, List.mem_singleton] at hs
            rw [hs, zerN_getD, Nat.zero_add, htk]
          · rw [hsT T HTS.out, htk, treesF_syms]
          · unfold symsF
            exact List.nodup_range.filter _
        have hsum : (T.map RT.wt).sum ≤ 300 * 1048576 := by
          have h1 : T.map RT.wt = (treesF fr).map (·.1) := by rw [← htk, List.map_map]; rfl
          have h3 := treesF_sum HF.out
          rw [h1]
          exact Nat.le_trans h3 (Nat.mul_le_mul_right _ hl)
        have HH2 := Lib.hid h2
        have HBK := Lib.hid hback
        have HRS := Lib.hid hRS
        have HSUM := Lib.hid hsum
        have HG := Lib.hid hG
        have hT300 : T.length ≤ 300 := by have := HTL.out; omega
        clear hback hRS hsum hG hsT htk hfl h2
        go_wp2
        go_loopg [4, 6, 7, 8, 9, 10, 11] T.length (fun gm u _ _ _ _ _ _ wr => ∃ (T : List RT) (out : List Nat) (f c : Nat), gm = T.length ∧ 1 ≤ T.length ∧ T.length ≤ 300 ∧ (∀ t ∈ T, 0 < t.syms.length) ∧ RS (fun s => deepT fr.length fr.length (treesF fr) s) (symsF fr fr.length) fr.length f c T out ∧ (T.map RT.wt).sum ≤ 300 * 1048576 ∧ OwnR wr w.heap.size 91 2 u (rowsT T) ∧ TrsO wr w.heap.size (some g) T ∧ Blk wr g 3 (ints .i64 (nn out) ++ rest) ∧ Below w.heap.size w wr)
        case atStart => exact ⟨T, _, _, _, rfl, by omega, by omega, (fun t ht => by rw [HTS.out t ht]; exact Nat.one_pos), HRS.out, HSUM.out, G4.out, GT.out, HG.out, GB.out⟩
        case round =>
          obtain ⟨T', out, f, c, hgm, hT1, hT3, hne', gRS, gsum, g4, gT, gG, gb⟩ := hrel
          clear HG HRS HSUM GT
          by_cases h2 : 2 ≤ T'.length
          · obtain ⟨⟨xa, ta, sa, ga, ca⟩, ⟨xb, tb, sb, gb', cb⟩, ha, hb, hA, hE, hB, hM⟩ := gRS.pick h2
            obtain ⟨i, hi⟩ : ∃ i, lgt (T'.map RT.key) T'.length = i := ⟨_, rfl⟩
            rw [hi] at ha hb hE hM
            obtain ⟨T1, hT1'⟩ : ∃ T1, T'.eraseIdx i = T1 := ⟨_, rfl⟩
            have hil : i < T'.length := (List.getElem?_eq_some_iff.1 ha).1
            have hl1 : T1.length = T'.length - 1 := by rw [← hT1', List.length_eraseIdx, if_pos hil]
            have HL1 := Lib.hid hl1
            have hbE := hb
            clear hl1
            rw [hT1'] at hb hE hM
            obtain ⟨j, hj⟩ : ∃ j, lgt (T1.map RT.key) T1.length = j := ⟨_, rfl⟩
            rw [hT1', hj] at hbE
            rw [hj] at hb hM
            obtain ⟨T2, hT2⟩ : ∃ T2, T1.eraseIdx j = T2 := ⟨_, rfl⟩
            rw [hT2] at hM
            have hlT : T'.length ≤ 1000 := by omega
            obtain ⟨f', rfl⟩ : ∃ f', f = f' + 1 := ⟨f - 1, by have := gRS.fu; omega⟩
            have hstep := fun g cap => gRS.step (g := g) (cap := cap) h2 ha (by rw [hT1']; exact hb) (by rw [hT1', hT2]) hA hB hM
            obtain ⟨p5, c5, e5⟩ := g4.isSlice
            rw [rowsT_len] at e5
            subst e5
            have hLt := r_lightest T' p5 c5 wr (by omega) (by have := g4.sl; exact this) (by omega)
            rw [hi] at hLt
            have hTa := fun wx (h : Below wr.heap.size wr wx) => r_take T' i _ p5 c5 wx hlT (g4.sl.below h) ha
            have HLt := Lib.hid hLt
            have HTa := Lib.hid hTa
            have GT := Lib.hid gT
            have GG := Lib.hid gG
            have HST := Lib.hid hstep
            have d1 : (1 : Int) < (T'.length : Int) := by omega
            have GBB0 := Lib.hid gb
            clear hLt hTa gT gG gb hstep g4 G4 GB
            go_wp2_with fail
            (with_reducible refine HLt.out.mono ?_)
            rintro e w4 ⟨rfl, nq, rfl⟩
            have b4 : Below wr.heap.size wr (wr.drewN nq) := below_drewN (Below.refl _ _) nq
            have hTa4 := Lib.hid (HTa.out _ b4)
            clear HLt HTa
            go_wp2_with fail
            (with_reducible refine hTa4.out.mono ?_)
            rintro e w5 ⟨v1, rfl, ho1, hb5⟩
            rw [hT1'] at ho1
            obtain ⟨p6, c6, e6⟩ := ho1.isSlice
            rw [rowsT_len] at e6
            subst e6
            have b5 : Below wr.heap.size wr w5 := b4.trans hb5
            have kz := Blk.new' w5 91 (c := #[.int .i64 0, .slice none 0 0]) [.int .i64 0, .slice none 0 0] rfl
            have ka := kz.row [.int .i64 (xa : Int), .slice (some ⟨ga, 0, none⟩) sa.length ca] rfl
            have o1 := (ho1.alloc (.cells #[.int .i64 0, .slice none 0 0] 91)).rowOther w5.heap.size [.int .i64 (xa : Int), .slice (some ⟨ga, 0, none⟩) sa.length ca].toArray (fun b hb => by have := (ho1.lt b hb).2; omega)
            have b6 := below_setRow (b5.alloc b5.size (.cells #[.int .i64 0, .slice none 0 0] 91)) b5.size [.int .i64 (xa : Int), .slice (some ⟨ga, 0, none⟩) sa.length ca].toArray
            have hAge : wr.heap.size ≤ w5.heap.size := b5.size
            have KZ := Lib.hid kz
            clear b4 b5 hb5 ho1 hTa4 kz
            go_wp2_with (refine wpList_store_blk rfl 91 _ _ rfl w5.heap.size [.int .i64 (xa : Int), .slice (some ⟨ga, 0, none⟩) sa.length ca] rfl rfl KZ.out (by rw [size_rtree]; rfl) rfl (by simp [Value.oneCell']) ?_)
            clear KZ
            generalize World.setRow (World.alloc w5 _) _ _ = w6 at *
            generalize w5.heap.size = A at *
            have hLt2 := r_lightest T1 p6 c6 w6 (by have := HL1.out; omega) o1.sl (by have := HL1.out; omega)
            rw [hj] at hLt2
            have hTa2 := fun wx (h : Below w6.heap.size w6 wx) => r_take T1 j _ p6 c6 wx (by have := HL1.out; omega) (o1.sl.below h) hb
            have HLt2 := Lib.hid hLt2
            have HTa2 := Lib.hid hTa2
            have KA := Lib.hid ka
            have B6 := Lib.hid b6
            clear hLt2 hTa2 ka b6 o1
            (with_reducible refine HLt2.out.mono ?_)
            rintro e w4 ⟨rfl, nq2, rfl⟩
            have b7 : Below w6.heap.size w6 (w6.drewN nq2) := below_drewN (Below.refl _ _) nq2
            have hTa4 := Lib.hid (HTa2.out _ b7)
            clear HLt2 HTa2
            go_wp2_with fail
            (with_reducible refine hTa4.out.mono ?_)
            rintro e w7 ⟨v2, rfl, ho2, hb7⟩
            rw [hT2] at ho2
            obtain ⟨p7, c7, e7⟩ := ho2.isSlice
            rw [rowsT_len] at e7
            subst e7
            have b8 : Below w6.heap.size w6 w7 := b7.trans hb7
            have ka7 := KA.out.below b8 KA.out.lt
            have b87 : Below wr.heap.size wr w7 := B6.out.trans (b8.mono B6.out.size)
            have hw6 : w.heap.size ≤ (w6.drewN nq2).heap.size := Nat.le_trans GBB0.out.size B6.out.size
            have KA6 := Lib.hid KA.out
            clear b7 hb7 hTa4 b8 KA B6
            have kz := Blk.new' w7 91 (c := #[.int .i64 0, .slice none 0 0]) [.int .i64 0, .slice none 0 0] rfl
            have kb := kz.row [.int .i64 (xb : Int), .slice (some ⟨gb', 0, none⟩) sb.length cb] rfl
            have ka8 := (ka7.alloc (.cells #[.int .i64 0, .slice none 0 0] 91)).rowOther (g := w7.heap.size) (by have := ka7.lt; omega) [.int .i64 (xb : Int), .slice (some ⟨gb', 0, none⟩) sb.length cb].toArray
            have o2 := ((ho2.base (base' := w.heap.size) hw6).alloc (.cells #[.int .i64 0, .slice none 0 0] 91)).rowOther w7.heap.size [.int .i64 (xb : Int), .slice (some ⟨gb', 0, none⟩) sb.length cb].toArray (fun b hb => by have := (ho2.lt b hb).2; omega)
            have b8 := below_setRow (b87.alloc b87.size (.cells #[.int .i64 0, .slice none 0 0] 91)) b87.size [.int .i64 (xb : Int), .slice (some ⟨gb', 0, none⟩) sb.length cb].toArray
            have hBge : A < w7.heap.size := ka7.lt
            obtain ⟨w8, hw8⟩ : ∃ w8, (w7.alloc (.cells #[.int .i64 0, .slice none 0 0] 91)).setRow w7.heap.size [.int .i64 (xb : Int), .slice (some ⟨gb', 0, none⟩) sb.length cb].toArray = w8 := ⟨_, rfl⟩
            obtain ⟨Bn, hBn⟩ : ∃ Bn, w7.heap.size = Bn := ⟨_, rfl⟩
            rw [hw8] at kb ka8 o2 b8
            rw [hBn] at kb hBge
            have c1 := ka8.cell 0
            have c2 := kb.cell 0
            simp only [List.getElem?_cons_zero] at c1 c2
            have ho2lt := o2.lt
            have kz2 := Blk.new' w8 91 (c := #[.int .i64 0, .slice none 0 0]) [.int .i64 0, .slice none 0 0] rfl
            have kc := kz2.row [.int .i64 ((xa : Int) + (xb : Int)), .slice none 0 0] rfl
            have ka9 := (ka8.alloc (.cells #[.int .i64 0, .slice none 0 0] 91)).rowOther (g := w8.heap.size) (by have := ka8.lt; omega) [.int .i64 ((xa : Int) + (xb : Int)), .slice none 0 0].toArray
            have kb9 := (kb.alloc (.cells #[.int .i64 0, .slice none 0 0] 91)).rowOther (g := w8.heap.size) (by have := kb.lt; omega) [.int .i64 ((xa : Int) + (xb : Int)), .slice none 0 0].toArray
            have o9 := (o2.alloc (.cells #[.int .i64 0, .slice none 0 0] 91)).rowOther w8.heap.size [.int .i64 ((xa : Int) + (xb : Int)), .slice none 0 0].toArray (fun b hb => by have := (o2.lt b hb).2; omega)
            have b9 := below_setRow (b8.alloc b8.size (.cells #[.int .i64 0, .slice none 0 0] 91)) b8.size [.int .i64 ((xa : Int) + (xb : Int)), .slice none 0 0].toArray
            have hBC : Bn < w8.heap.size := kb.lt
            obtain ⟨w9, hw9⟩ : ∃ w9, (w8.alloc (.cells #[.int .i64 0, .slice none 0 0] 91)).setRow w8.heap.size [.int .i64 ((xa : Int) + (xb : Int)), .slice none 0 0].toArray = w9 := ⟨_, rfl⟩
            obtain ⟨Cn, hCn⟩ : ∃ Cn, w8.heap.size = Cn := ⟨_, rfl⟩
            rw [hw9] at kc ka9 kb9 o9 b9
            rw [hCn] at kc hBC
            have hp1 := (erase_perm ha).map RT.wt
            rw [hT1'] at hp1
            have hp2 := (erase_perm hb).map RT.wt
            rw [hT2] at hp2
            have hsm : (T'.map RT.wt).sum = xa + (xb + (T2.map RT.wt).sum) := by
              rw [hp1.sum_nat, List.map_cons, List.sum_cons, hp2.sum_nat, List.map_cons, List.sum_cons]
            have iab : (xa : Int) + (xb : Int) ≤ 314572800 := by omega
            have HO2LT : Hid (∀ b, (Value.slice p7 T2.length c7).ownBlock = some b → b < Cn) := Lib.hid (fun b hb => by have := (ho2lt b hb).2; omega)
            have HCB := Lib.hid (show w.heap.size ≤ Cn by have := GBB0.out.size; omega)
            clear ho2lt
            have KZ := Lib.hid kz
            have KZ2 := Lib.hid kz2
            have HW8 := Lib.hid hw8
            have HW9 := Lib.hid hw9
            have HBN := Lib.hid hBn
            have HCN := Lib.hid hCn
            have HSM := Lib.hid hsm
            have KA9 := Lib.hid ka9
            have KB9 := Lib.hid kb9
            have KC9 := Lib.hid kc
            have O9 := Lib.hid o9
            have B9 := Lib.hid b9
            have c3 := ka9.cell 1
            have c4 := kc.cell 1
            simp only [List.getElem?_cons_zero, List.getElem?_cons_succ] at c3 c4
            clear ka7 b87 ho2 kz ka8 kb o2 b8 kz2 kc ka9 kb9 o9 b9 hw8 hw9 hBn hCn hp1 hp2 hsm
            obtain ⟨sy, hsy⟩ : ∃ sy, sa ++ sb = sy := ⟨_, rfl⟩
            have HSY := Lib.hid hsy
            clear hsy
            have hq1 := ((erase_perm ha).flatMap_right RT.syms).length_eq
            have hq2 := ((erase_perm hb).flatMap_right RT.syms).length_eq
            rw [hT1'] at hq1
            rw [hT2] at hq2
            simp only [List.flatMap_cons, List.length_append] at hq1 hq2
            have hq3 := gRS.perm.length_eq
            have hq4 : (symsF fr fr.length).length ≤ fr.length := by unfold symsF; exact Nat.le_trans (List.length_filter_le _ _) (by rw [List.length_range]; exact Nat.le_refl _)
            have hab : sa.length + sb.length ≤ 300 := by omega
            have T9 := GT.out.below B9.out
            have G9 := GG.out.below B9.out GG.out.lt
            have GB9 := GBB0.out.trans (B9.out.mono GBB0.out.size)
            have hma : (⟨xa, ta, sa, ga, ca⟩ : RT) ∈ T' := List.mem_of_getElem? ha
            have hmb : (⟨xb, tb, sb, gb', cb⟩ : RT) ∈ T' := List.mem_of_mem_eraseIdx (by rw [hT1']; exact List.mem_of_getElem? hb)
            obtain ⟨⟨ra, hka⟩, _, _⟩ := T9 _ hma
            have hsa := hka.slNS ca
            have hn10 : (w9 : World).heap.size ≥ w.heap.size := GB9.size
            have HSA := Lib.hid hsa
            have HON9 := Lib.hid (OwnR.nil w9 w.heap.size 3 1)
            have HT9 := Lib.hid T9
            have HG9 := Lib.hid G9
            have HGB9 := Lib.hid GB9
            have HMB := Lib.hid hmb
            have HMA := Lib.hid hma
            have HN1A := Lib.hid (rowsN_one sa)
            have HL1A : Hid (([] : List (List Value)).length + (rowsN sa).length ≤ maxLen) := Lib.hid (by rw [rowsN_len]; unfold maxLen; simp; omega)
            have HB1A : Hid ((([] : List (List Value)).length + (rowsN sa).length) * 8 ≤ 140737488355328) := Lib.hid (by rw [rowsN_len]; simp; omega)
            have HNW9 := Lib.hid hn10
            have HN1B := Lib.hid (rowsN_one sb)
            have HL1B : Hid ((rowsN sa).length + (rowsN sb).length ≤ maxLen) := Lib.hid (by rw [rowsN_len, rowsN_len]; unfold maxLen; omega)
            have HB1B : Hid (((rowsN sa).length + (rowsN sb).length) * 8 ≤ 140737488355328) := Lib.hid (by rw [rowsN_len, rowsN_len]; omega)
            have HBC := Lib.hid (show Bn ≠ Cn by omega)
            have hsl300 : sy.length ≤ 300 := by rw [← HSY.out, List.length_append]; exact hab
            have HSY0 : Hid (0 < sy.length) := Lib.hid (by have := hne' _ hma; rw [← HSY.out, List.length_append]; have h9 : 0 < sa.length := this; omega)
            have HT2L : Hid (T2.length = T1.length - 1) := Lib.hid (by rw [← hT2, List.length_eraseIdx, if_pos (List.getElem?_eq_some_iff.1 hb).1])
            have HT2M : Hid (∀ t ∈ T2, t ∈ T') := Lib.hid (fun t ht => by rw [← hT2] at ht; exact List.mem_of_mem_eraseIdx (by rw [hT1']; exact List.mem_of_mem_eraseIdx ht))
            have HNE := Lib.hid hne'
            clear hq1 hq2 hq3 hq4 T9 G9 GB9 hma hmb hka hsa hn10 GT GG
            go_wp2_with (first | (refine wpList_store_blk rfl 91 _ _ rfl w7.heap.size [.int .i64 (xb : Int), .slice (some ⟨gb', 0, none⟩) sb.length cb] rfl rfl KZ.out (by rw [size_rtree]; rfl) rfl (by simp [Value.oneCell']) ?_; rw [HW8.out, HBN.out]) | (refine wpList_store_blk rfl 91 _ _ rfl w8.heap.size [.int .i64 ((xa : Int) + (xb : Int)), .slice none 0 0] rfl rfl KZ2.out (by rw [size_rtree]; rfl) rfl (by simp [Value.oneCell']) ?_; rw [HW9.out, HCN.out]) | (refine wpList_append_rows rfl _ _ 22 rfl w.heap.size 3 i0 (.int .i64 0) 1 8 Try.underlying22 hi0 hz0 hz1 hz2 rfl (by decide) _ [] rfl HON9.out (.slice (some ⟨ga, 0, none⟩) sa.length ca) (rowsN sa) rfl HSA.out HN1A.out HL1A.out HB1A.out HNW9.out (.inr ⟨_, _, _, rfl⟩) ?_; intro v10 w10 ho10 hg10 hv10; rw [List.nil_append] at ho10; obtain ⟨p10, c10, e10⟩ := ho10.isSlice; rw [rowsN_len] at e10; subst e10; have kc10 := KC9.out.grownP hg10 (by intro e; cases e); have cc := kc10.cell 1; have fc := kc10.free 1; have kb10 := KB9.out.grownP hg10 (by intro e; cases e); have kb11 := kb10.other (a := ⟨Cn, 1, none⟩) (show Cn ≠ Bn from fun e => HBC.out e.symm) (.slice p10 sa.length c10); have kc11 := kc10.set 1 (.slice p10 sa.length c10); have c5' := kb11.cell 1; have c6' := kc11.cell 1; simp only [List.set_cons_succ, List.set_cons_zero, List.getElem?_cons_zero, List.getElem?_cons_succ] at cc c5' c6'; have o11 := ho10.cellOther kc10 (by decide) 1 (.slice p10 sa.length c10); have T10 := HT9.out.grown (o' := some g) hg10 (fun t ht e => by cases e) (.inl rfl); have T11 := T10.cell Cn 1 (.slice p10 sa.length c10) kc10; have hsb : Sl (w10.setCell ⟨Cn, 1, none⟩ (.slice p10 sa.length c10)) 1 (.slice (some ⟨gb', 0, none⟩) sb.length cb) (rowsN sb) := by {obtain ⟨⟨rb, hkb⟩, _, _⟩ := T11 _ HMB.out; exact hkb.slNS cb}; have HSB := Lib.hid hsb; have HO11 := Lib.hid o11; have HT11 := Lib.hid T11; have KC11 := Lib.hid kc11; have HNC := Lib.hid (o11.ne kc11 (by decide)); have HN11 := Lib.hid (show w.heap.size ≤ (w10.setCell ⟨Cn, 1, none⟩ (.slice p10 sa.length c10)).heap.size from Nat.le_trans HNW9.out (Nat.le_trans hg10.size (grown_setCell w10 ⟨Cn, 1, none⟩ _).size)); have HG10 := Lib.hid hg10; have HV10 := Lib.hid hv10; clear kc10 kb10 kb11 kc11 o11 T10 T11 hsb hg10 hv10 ho10) | (refine wpList_append_rows rfl _ _ 22 rfl w.heap.size 3 i0 (.int .i64 0) 1 8 Try.underlying22 hi0 hz0 hz1 hz2 rfl (by decide) _ (rowsN sa) rfl HO11.out (.slice (some ⟨gb', 0, none⟩) sb.length cb) (rowsN sb) rfl HSB.out HN1B.out HL1B.out HB1B.out HN11.out (.inr ⟨_, _, _, rfl⟩) ?_; intro v12 w12 ho12 hg12 hv12; rw [← rowsN_app, HSY.out] at ho12; obtain ⟨p12, c12, e12⟩ := ho12.isSlice; rw [rowsN_len] at e12; subst e12; have kc12 := KC11.out.grownP hg12 (fun e => HNC.out _ e rfl); have cc12 := kc12.cell 1; have fc12 := kc12.free 1; simp only [List.set_cons_succ, List.set_cons_zero, List.getElem?_cons_zero, List.getElem?_cons_succ] at cc12))
            have hgC : Cn ≠ g := fun e => by
              have h1 := HG9.out
              have h2' := KC9.out
              rw [e] at h2'
              unfold Blk at h1 h2'
              rw [h1] at h2'
              simp at h2'
            have hnew : ∀ b, b < w9.heap.size → (Value.slice p10 sa.length c10).ownBlock ≠ some b := fun b hb e => by
              rcases HV10.out with e' | e'
              · rw [e'] at e; cases e
              · rw [e'] at e
                have : w9.heap.size = b := Option.some.inj e
                omega
            have kc13 := kc12.set 1 (.slice p12 sy.length c12)
            simp only [List.set_cons_succ, List.set_cons_zero] at kc13
            have o13 := ho12.cellOther kc12 (by decide) 1 (.slice p12 sy.length c12)
            have u10 := O9.out.grownO HG10.out (fun b hb e => by cases e)
            have u11 := u10.grownO (grown_setCell w10 ⟨Cn, 1, none⟩ (.slice p10 sa.length c10)) (fun b hb e => by have h1 := HO2LT.out b hb; have h3 : b = Cn := Option.some.inj e; omega)
            have u12 := u11.grownO hg12 (fun b hb => u11.apart HO11.out (by decide) b hb)
            have u13 := u12.grownO (grown_setCell w12 ⟨Cn, 1, none⟩ (.slice p12 sy.length c12)) (fun b hb e => by have h1 := HO2LT.out b hb; have h3 : b = Cn := Option.some.inj e; omega)
            have T12 := HT11.out.grown (o' := some g) hg12 (fun t ht e => by obtain ⟨⟨_, h1⟩, _⟩ := HT9.out t ht; exact hnew t.g h1.lt e) (.inl rfl)
            have T13 := T12.cell Cn 1 (.slice p12 sy.length c12) kc12
            have G11 := (HG9.out.grownP HG10.out (by intro e; cases e)).other (a := ⟨Cn, 1, none⟩) (show Cn ≠ g from hgC) (.slice p10 sa.length c10)
            have G13 := (G11.grownP hg12 (fun e => hnew g HG9.out.lt e)).other (a := ⟨Cn, 1, none⟩) (show Cn ≠ g from hgC) (.slice p12 sy.length c12)
            have B11 := (HGB9.out.grown HG10.out HGB9.out.size (fun k e => by cases e)).setCell (p := ⟨Cn, 1, none⟩) HCB.out (.slice p10 sa.length c10)
            have B13 := (B11.grown hg12 B11.size (fun k e => (HO11.out.lt k e).1)).setCell (p := ⟨Cn, 1, none⟩) HCB.out (.slice p12 sy.length c12)
            have h12g : ∀ b, (Value.slice p12 sy.length c12).ownBlock = some b → b ≠ g := fun b hb e => by
              subst e
              rcases hv12 with e' | e'
              · rw [e'] at hb; exact hnew _ HG9.out.lt hb
              · rw [e'] at hb
                have h3 := Option.some.inj hb
                have := G11.lt
                omega
            have KC := Lib.hid kc13
            have OM := Lib.hid o13
            have OV := Lib.hid u13
            have TT := Lib.hid T13
            have GG := Lib.hid G13
            have BB := Lib.hid B13
            have H12G := Lib.hid h12g
            have HCG := Lib.hid hgC
            obtain ⟨hrs1, hrs2, hrs3⟩ := HST.out 0 0
            have HNDS : Hid sy.Nodup := Lib.hid (by rw [← HSY.out]; exact hrs2)
            have HLTS : Hid (∀ s ∈ sy, s < fr.length) := Lib.hid (by rw [← HSY.out]; exact hrs3)
            have hob : ∀ s ∈ sy, out.getD s 0 ≤ 300 := fun s hs => by
              rw [← HSY.out] at hs
              have hU : s ∈ T'.flatMap RT.syms := by
                rcases List.mem_append.1 hs with h | h
                · exact List.mem_flatMap.2 ⟨_, HMA.out, h⟩
                · exact List.mem_flatMap.2 ⟨_, HMB.out, h⟩
              obtain ⟨t, ht, hst⟩ := List.mem_flatMap.1 hU
              have h1 : out.getD s 0 + deepT (f' + 1) c (T'.map RT.key) t.tag = deepT fr.length fr.length (treesF fr) s := gRS.deep t ht s hst
              have h3 := deepT_le fr.length fr.length (treesF fr) s
              omega
            have HOB := Lib.hid hob
            have HOL := Lib.hid gRS.len
            clear hgC hnew kc13 o13 u10 u11 u12 u13 T12 T13 G11 G13 B11 B13 h12g kc12 ho12 hg12 hv12 cc12 fc12 hrs1 hrs2 hrs3 hob HG10 HV10 HO11 HT11 KC11 HNC HN11 HSB HG9 HT9 HGB9 KC9 O9 KB9 KA9
            go_loopw [11] (fun i wr => ∃ k : Nat, k ≤ sy.length ∧ i = .int .i64 (k : Int) ∧ Blk wr g 3 (ints .i64 (nn (bumpL out (sy.take k))) ++ rest) ∧ Blk wr Cn 91 [.int .i64 ((xa : Int) + (xb : Int)), .slice p12 sy.length c12] ∧ OwnR wr w.heap.size 3 1 (.slice p12 sy.length c12) (rowsN sy) ∧ OwnR wr w.heap.size 91 2 (.slice p7 T2.length c7) (rowsT T2) ∧ TrsO wr w.heap.size (some g) T' ∧ Below w.heap.size w wr) (fun i _ => sy.length - (intOf i).toNat)
            case atStart => exact ⟨0, by omega, rfl, GG.out, KC.out, OM.out, OV.out, TT.out, BB.out⟩
            case round =>
              obtain ⟨k, hk, rfl, gG, gC, gM, gV, gT3, gb⟩ := hrel
              clear GG KC OM OV TT BB
              by_cases hlk : k < sy.length
              · have d2 : (k : Int) < (sy.length : Int) := by omega
                obtain ⟨am, rfl, cs⟩ := SlN.cell gM.sl hlk
                have cC := gC.cell 1
                simp only [List.getElem?_cons_zero, List.getElem?_cons_succ] at cC
                have hmem := getD_mem sy k hlk
                have hslt := HLTS.out _ hmem
                have hbl : (bumpL out (sy.take k)).length = fr.length := by rw [bumpL_len, HOL.out]
                have hbs := bumpL_snoc out (sy.take k) (sy.getD k 0)
                rw [← take_snoc sy k hlk] at hbs
                have hbd := bumpL_getD (sy.getD k 0) (sy.take k) out (HNDS.out.sublist (List.take_sublist _ _)) (fun s hs => by rw [HOL.out]; exact HLTS.out s (List.mem_of_mem_take hs))
                have hob := HOB.out _ hmem
                obtain ⟨s, hs⟩ : ∃ s, sy.getD k 0 = s := ⟨_, rfl⟩
                rw [hs] at cs hslt hbs hbd hob
                obtain ⟨Lb, hLb⟩ : ∃ Lb, bumpL out (sy.take k) = Lb := ⟨_, rfl⟩
                rw [hLb] at gG hbl hbs hbd
                have c7 := gG.natS (j := s) (by rw [hbl]; exact hslt)
                have f7 := gG.free s
                obtain ⟨o, ho⟩ : ∃ o, Lb.getD s 0 = o := ⟨_, rfl⟩
                rw [ho] at c7 hbs hbd
                have io : (o : Int) ≤ 1000 := by split at hbd <;> omega
                have is' : (s : Int) < (fr.length : Int) := by omega
                have hG' := gG.setS (j := s) (by rw [hbl]; exact hslt) (o + 1)
                rw [← hbs] at hG'
                have eo : ((o + 1 : Nat) : Int) = (o : Int) + 1 := by simp
                rw [eo] at hG'
                have gC' := gC.other (a := ⟨g, s, none⟩) (show g ≠ Cn from fun e => HCG.out e.symm) (.int .i64 ((o : Int) + 1))
                have gM' := gM.grownO (grown_setCell wr ⟨g, s, none⟩ (.int .i64 ((o : Int) + 1))) (fun b hb e => H12G.out b hb (Option.some.inj e))
                have gV' := gV.cellOther gG (by decide) s (.int .i64 ((o : Int) + 1))
                have gT' := gT3.grown (o' := some g) (grown_setCell wr ⟨g, s, none⟩ (.int .i64 ((o : Int) + 1))) (fun t ht e => (gT3 t ht).2.2 e) (.inl rfl)
                have gb' := gb.setCell (p := ⟨g, s, none⟩) hgw (.int .i64 ((o : Int) + 1))
                have GG := Lib.hid (hG'.drewN 1)
                have KC := Lib.hid (gC'.drewN 1)
                have OM := Lib.hid (gM'.keep (below_drewN (Below.refl _ _) 1))
                have OV := Lib.hid (gV'.keep (below_drewN (Below.refl _ _) 1))
                have TT := Lib.hid (gT'.below (below_drewN (Below.refl _ _) 1))
                have BB := Lib.hid (below_drewN gb' 1)
                clear hG' gC' gM' gV' gT' gb' gG gC gM gV gT3 gb hbd hob hbs hbl hslt hmem hs hLb ho eo
                go_wp2_with fail
                go_big_region
                all_goals go_wp2
                go_roundw
                case rel => exact ⟨k + 1, by omega, by go_num, GG.out, KC.out, OM.out, OV.out, TT.out, BB.out⟩
                case measure => simp [intOf]; omega
              · obtain rfl : k = sy.length := by omega
                rw [List.take_length] at gG
                obtain ⟨gm, cm, rm, hvm, hgm1, hBm⟩ := gM.blkR (by rw [rowsN_len]; exact HSY0.out)
                rw [rowsN_len] at hvm
                cases hvm
                rw [rowsN_flat] at hBm
                have hmg : some g ≠ some gm := fun e => H12G.out gm rfl (Option.some.inj e).symm
                have hst := (HST.out gm c12).1
                rw [show (⟨xa + xb, c, sa ++ sb, gm, c12⟩ : RT) = ⟨xa + xb, c, sy, gm, c12⟩ by rw [HSY.out], show ((⟨xa, ta, sa, ga, ca⟩ : RT).syms ++ (⟨xb, tb, sb, gb', cb⟩ : RT).syms) = sy from HSY.out] at hst
                have hnb := Blk.new' wr 91 (c := #[.int .i64 ((xa : Int) + (xb : Int)), .slice (some ⟨gm, 0, none⟩) sy.length c12]) [.int .i64 ((xa : Int) + (xb : Int)), .slice (some ⟨gm, 0, none⟩) sy.length c12] rfl
                have hnews := sl_one hnb
                have hown := gV.alloc (.cells #[.int .i64 ((xa : Int) + (xb : Int)), .slice (some ⟨gm, 0, none⟩) sy.length c12] 91)
                have hta := ((gT3.alloc (.cells #[.int .i64 ((xa : Int) + (xb : Int)), .slice (some ⟨gm, 0, none⟩) sy.length c12] 91)).sub HT2M.out).add (t := ⟨xa + xb, c, sy, gm, c12⟩) ⟨⟨rm, hBm.alloc (.cells #[.int .i64 ((xa : Int) + (xb : Int)), .slice (some ⟨gm, 0, none⟩) sy.length c12] 91)⟩, hgm1, hmg⟩
                have htb := (gT3.alloc (.cells #[.int .i64 ((xa : Int) + (xb : Int)), .slice (some ⟨gm, 0, none⟩) sy.length c12] 91)).own hown
                have hga := gG.alloc (.cells #[.int .i64 ((xa : Int) + (xb : Int)), .slice (some ⟨gm, 0, none⟩) sy.length c12] 91)
                have hgb := gb.alloc gb.size (.cells #[.int .i64 ((xa : Int) + (xb : Int)), .slice (some ⟨gm, 0, none⟩) sy.length c12] 91)
                have hbase : w.heap.size ≤ (wr.alloc (.cells #[.int .i64 ((xa : Int) + (xb : Int)), .slice (some ⟨gm, 0, none⟩) sy.length c12] 91)).heap.size := hgb.size
                have hone : ∀ r ∈ [[Value.int .i64 ((xa : Int) + (xb : Int)), .slice (some ⟨gm, 0, none⟩) sy.length c12]], ∀ u ∈ r, u.oneCell' = true := by simp [Value.oneCell']
                have h2l : T2.length ≤ 300 := by have := HT2L.out; have := HL1.out; omega
                have hlen : (rowsT T2).length + [[Value.int .i64 ((xa : Int) + (xb : Int)), .slice (some ⟨gm, 0, none⟩) sy.length c12]].length ≤ maxLen := by rw [rowsT_len, List.length_singleton]; unfold maxLen; omega
                have hby : ((rowsT T2).length + [[Value.int .i64 ((xa : Int) + (xb : Int)), .slice (some ⟨gm, 0, none⟩) sy.length c12]].length) * 32 ≤ 140737488355328 := by rw [rowsT_len, List.length_singleton]; omega
                have hrow : rowsT (T2 ++ [⟨xa + xb, c, sy, gm, c12⟩]) = rowsT T2 ++ [[Value.int .i64 ((xa : Int) + (xb : Int)), .slice (some ⟨gm, 0, none⟩) sy.length c12]] := by simp [rowsT, RT.row, RT.v]
                have hnl : (T2 ++ [(⟨xa + xb, c, sy, gm, c12⟩ : RT)]).length = T'.length - 1 := by rw [List.length_append, List.length_singleton]; have := HT2L.out; have := HL1.out; omega
                have hns : ((T2 ++ [(⟨xa + xb, c, sy, gm, c12⟩ : RT)]).map RT.wt).sum ≤ 300 * 1048576 := by
                  rw [List.map_append, List.sum_append]
                  have := HSM.out
                  simp
                  omega
                have hnn : ∀ t ∈ T2 ++ [(⟨xa + xb, c, sy, gm, c12⟩ : RT)], 0 < t.syms.length := fun t ht => by
                  rcases List.mem_append.1 ht with h | h
                  · exact HNE.out t (HT2M.out t h)
                  · rw [List.mem_singleton.1 h]; exact HSY0.out
                have HNEWS := Lib.hid hnews
                have HOWN := Lib.hid hown
                have HTA := Lib.hid hta
                have HTB := Lib.hid (fun t ht => hown.ne (t := 3) (b := RT.g t) ((hta t ht).1.choose_spec) (by decide))
                have HGA := Lib.hid hga
                have HGB := Lib.hid hgb
                have HBASE := Lib.hid hbase
                have HONE := Lib.hid hone
                have HLEN := Lib.hid hlen
                have HBY := Lib.hid hby
                have HROW := Lib.hid hrow
                have HNL := Lib.hid hnl
                have HNS := Lib.hid hns
                have HNN := Lib.hid hnn
                have HST2 := Lib.hid hst
                have GC := Lib.hid gC
                have cC := gC.cell 1
                simp only [List.getElem?_cons_zero, List.getElem?_cons_succ] at cC
                clear hnb hnews hown hta htb hga hgb hbase hone hlen hby hrow hnl hns hnn hst gG gC gM gV gT3 gb hBm hmg hlk
                go_wp2_with (first | (refine wpList_load_blk rfl 91 _ rfl Cn rfl GC.out Try.underlying91 rfl (by rw [size_rtree]; rfl) ?_) | (refine wpList_append_rows rfl _ _ 89 rfl w.heap.size 91 i1 (.agg #[.int .i64 0, .slice none 0 0]) 2 32 Try.underlying89 hi1 hy0 hy1 hy2 rfl (by decide) _ (rowsT T2) rfl HOWN.out (.slice (some ⟨wr.heap.size, 0, none⟩) 1 1) [[.int .i64 ((xa : Int) + (xb : Int)), .slice (some ⟨gm, 0, none⟩) sy.length c12]] rfl HNEWS.out HONE.out HLEN.out HBY.out HBASE.out (.inr ⟨_, _, _, rfl⟩) ?_; intro v20 w20 ho20 hg20 hv20; have T20 := Lib.hid (HTA.out.grown (o' := some g) hg20 (fun t ht e => HTB.out t ht _ e rfl) (.inl rfl)); have G20 := Lib.hid (HGA.out.grownP hg20 (fun e => HOWN.out.ne HGA.out (by decide) _ e rfl)); have B20 := Lib.hid (HGB.out.grown hg20 HBASE.out (fun k e => (HOWN.out.lt k e).1)); rw [← HROW.out] at ho20; have HO20 := Lib.hid ho20; clear hg20 ho20 hv20))
                go_roundg (T'.length - 1)
                case rel => exact ⟨_, _, _, _, HNL.out.symm, by rw [HNL.out]; omega, by rw [HNL.out]; omega, HNN.out, HST2.out, HNS.out, HO20.out, T20.out, G20.out, B20.out⟩
                case measure => omega
          · have hT1' : T'.length = 1 := by omega
            have hd := gRS.done (by omega) HH2.out
            have ho := HBK.out wr out (by rw [gRS.len, zerN_len]) gG
            rw [hd] at ho
            obtain ⟨p5, c5, e5⟩ := g4.isSlice
            rw [rowsT_len, hT1'] at e5
            subst e5
            have HO := Lib.hid ho
            have GBB := Lib.hid gb
            clear ho gb hd gRS g4 gT gG gsum hT1 hT1' h2 hgm HBK
            go_wp2
            go_ret
            exact ⟨_, rfl, HO.out, GBB.out⟩
end Go.Proofs.Ytpjdlkbpnodcdaa
