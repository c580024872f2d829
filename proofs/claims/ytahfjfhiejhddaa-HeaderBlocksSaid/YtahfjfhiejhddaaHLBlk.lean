/-
  For all sizes, of at most twelve files, and every hash: a version of files with these sizes has a block for each so many bytes; with one more, or one less, it may not be. More sizes are answered by the case shown alone. No condition.
-/
import Derived.Test.YtahfjfhiejhddaaRows
import Derived.Test.YtahfjfhiejhddaaHBkW
import Derived.Test.YtahfjfhiejhddaaU16
import Derived.ShutString
import Derived.ChangeOld
namespace Go.Proofs.Ytahfjfhiejhddaa.headerBlocks
open Go.ChangeShapes Go.WideShapes Go.ChangeAt Go.RowKit
open Go.ChangeMaps (open_string shut_string)
set_option linter.unusedVariables false

theorem cells_h32 : Try.prog.cellsOf 44 = 32 := by kernel_rfl
/-- what the operations of 'more' come to, ahead of the last append and behind it -/
def mrS (base V V2 : Nat) (vb : Value) (bl : List (List Nat)) (R : List Value) (b : Bool) (i : Nat) (v : Value) (W : World) : Prop :=
  match i with
  | 0 => b = false → OwnR W base 44 32 v [] ∧ ∃ y, v = .slice (some ⟨y, 0, none⟩) 0 0
  | 1 => v = .pointer (some ⟨V, 1, none⟩)
  | 2 => v = vb
  | 3 => b = false → OwnR W base 44 32 v (rowsH bl)
  | 4 => v = .agg R.toArray
  | 5 => b = false → ∃ y, v = .slice (some ⟨y, 0, none⟩) 1 1 ∧ Blk W y 44 R
  | 6 => OwnR W base 44 32 v (rowsH bl ++ [R])
  | 7 => v = .pointer (some ⟨V2, 1, none⟩)
  | _ => True
theorem mrS_mono {base V V2 : Nat} {vb : Value} {bl : List (List Nat)} {R : List Value} (b : Bool) (i : Nat) (v : Value) (W W' : World) (h : mrS base V V2 vb bl R b i v W) (hb : Below W.heap.size W W') : mrS base V V2 vb bl R b i v W' := by
  match i with
  | 1 | 2 | 4 | 7 => exact h
  | 0 => exact fun e => ⟨(h e).1.keep hb, (h e).2⟩
  | 3 => exact fun e => (h e).keep hb
  | 5 =>
    intro e
    obtain ⟨y, h1, h2⟩ := h e
    exact ⟨y, h1, h2.below hb h2.lt⟩
  | 6 => exact OwnR.keep h hb
  | _ + 8 => trivial
theorem mrS_turn {base V V2 : Nat} {vb : Value} {bl : List (List Nat)} {R : List Value} (i : Nat) (v : Value) (W W' : World) (hi : i ≠ 6) (h : mrS base V V2 vb bl R false i v W) : mrS base V V2 vb bl R true i v W' := by
  match i, hi with
  | 1, _ | 2, _ | 4, _ | 7, _ => exact h
  | 0, _ => exact fun e => (by cases e)
  | 3, _ => exact fun e => (by cases e)
  | 5, _ => exact fun e => (by cases e)
  | 6, hi => exact absurd rfl hi
  | _ + 8, _ => trivial
set_option maxHeartbeats 4000000 in
set_option maxRecDepth 100000 in
theorem walk (l : List Nat) (p : Option Addr) (cap : Nat) (h : List Nat) (hu : ∀ q ∈ l, q < 65536) (hh : h.length = 32) (hby : Bys h) (w : World) (hS : Sl w 1 (.slice p l.length cap) (rowsU .u16 l)) :
    Calls Try.prog 6 #[.slice p l.length cap, .agg (ints .u8 (nn h)).toArray] w fun e w' => e = .returned (.bool true) ∧ Below w.heap.size w w' := by
  have HSh := Lib.hid (fun w => l12_shown w)
  obtain ⟨G, hG⟩ : ∃ G, w.heap.size = G := ⟨_, rfl⟩
  have hGE := Lib.hid hG
  obtain ⟨R, hR⟩ : ∃ R, rowH h = R := ⟨_, rfl⟩
  have hRl : R.length = 32 := by rw [← hR]; exact rowH_len hh
  have hRo : R.toArray.all (·.oneCell') = true := by rw [← hR]; exact rowH_one h
  have hRn : ∀ r ∈ [R], ∀ u ∈ r, u.oneCell' = true := by rw [← hR]; exact rowH_onel h
  have hargs : (ints .u8 (nn h)).toArray = R.toArray := by rw [← hR]; rfl
  rw [hargs]
  have kG := Blk.newAt w G hG 44 (c := R.toArray) R rfl
  have kb := (Below.refl w.heap.size w).alloc (Nat.le_refl _) (.cells R.toArray 44)
  obtain ⟨w1, hw1⟩ : ∃ w1, w.alloc (.cells R.toArray 44) = w1 := ⟨_, rfl⟩
  rw [hw1] at kG kb
  have KG := Lib.hid kG
  have KB := Lib.hid kb
  have HRl := Lib.hid hRl
  have HRo := Lib.hid hRo
  have HRn := Lib.hid hRn
  have HR := Lib.hid hR
  have HS1 := Lib.hid (hS.below kb)
  have HH := Lib.hid (show HashL [h] from fun x hx => by rw [List.mem_singleton.1 hx]; exact ⟨hh, hby⟩)
  clear kG kb hRl hRo hRn hR hargs hS
  by_cases h12 : 12 < l.length
  · have g1 : (12 : Int) < (l.length : Int) := by omega
    have g2 : decide ((12 : Int) < (l.length : Int)) = true := by simpa using g1
    go_enter Try.func6, Try.ntmps6
    go_wp2_with (go_at_call 9; (with_reducible refine (HSh.out _).mono ?_); rintro e w2 ⟨rfl, hb2⟩; have HB2 := Lib.hid (KB.out.trans (hb2.mono KB.out.size)); clear hb2)
    go_ret
    exact ⟨rfl, by first | exact HB2.out | (have h := HB2.out; rw [hG] at h; exact h)⟩
  have g1 : ¬ (12 : Int) < (l.length : Int) := by omega
  have g2 : decide ((12 : Int) < (l.length : Int)) = false := by simpa using g1
  have hl12 : l.length ≤ 12 := by omega
  have HL12 := Lib.hid hl12
  have HU : Hid (∀ i, i < l.length → l.getD i 0 < 65536) := Lib.hid fun i hi => hu _ (by rw [List.getD_eq_getElem?_getD, List.getElem?_eq_getElem hi]; exact List.getElem_mem _)
  have hz3 : ∀ wx : World, (Instr.build 27 #[(0, .int .u32 3)]).run Try.prog wx = .ok (.agg (cellsV 3 (.slice none 0 0) (.slice none 0 0) (.slice none 0 0)).toArray) wx := build_three
  have HZ3 := Lib.hid hz3
  have hzo := cellsV_one 3 none none none 0 0 0 0 0 0
  have HZO := Lib.hid hzo
  clear h12 hu hz3 hzo
  go_enter Try.func6, Try.ntmps6
  go_wp2_with fail
  (with_reducible refine (HSh.out _).mono ?_)
  rintro e w2 ⟨rfl, hb2⟩
  have HB2 := Lib.hid (KB.out.trans (hb2.mono KB.out.size))
  have KG2 := Lib.hid (KG.out.below hb2 KG.out.lt)
  have HS2 := Lib.hid (HS1.out.below hb2)
  obtain ⟨V, hV⟩ : ∃ V, w2.heap.size = V := ⟨_, rfl⟩
  have k1 := Blk.newAt w2 V hV 27 (c := zV.toArray) _ rfl
  have k2 := k1.row (cellsV 3 (.slice none 0 0) (.slice none 0 0) (.slice none 0 0)) rfl
  have kb2 := below_setRow ((Below.refl w2.heap.size w2).alloc (Nat.le_refl _) (.cells zV.toArray 27)) (show w2.heap.size ≤ V by rw [hV]; exact Nat.le_refl _) (cellsV 3 (.slice none 0 0) (.slice none 0 0) (.slice none 0 0)).toArray
  obtain ⟨w3, hw3⟩ : ∃ w3, (w2.alloc (.cells zV.toArray 27)).setRow V (cellsV 3 (.slice none 0 0) (.slice none 0 0) (.slice none 0 0)).toArray = w3 := ⟨_, rfl⟩
  rw [hw3] at k2 kb2
  have K1 := Lib.hid k1
  have HW3 := Lib.hid hw3
  have Q3 : Hid (VrQ w2 V w3 3 (.slice none 0 0) (.slice none 0 0) (.slice none 0 0) [] (namN 0) (sizN (l.take 0))) := Lib.hid ⟨by rw [hV]; exact Nat.le_refl _, k2, OwnR.nil _ _ _ _, OwnR.nil _ _ _ _, OwnR.nil _ _ _ _, kb2⟩
  clear hb2 k1 k2 kb2 hw3 KG KB HS1
  have hVE := Lib.hid hV
  obtain ⟨Z3, hZ3⟩ : ∃ Z3, cellsV 3 (.slice none 0 0) (.slice none 0 0) (.slice none 0 0) = Z3 := ⟨_, rfl⟩
  have hZl : Z3.length = 4 := by rw [← hZ3]; rfl
  rw [hZ3] at HZ3 HZO HW3
  have HZl := Lib.hid hZl
  clear hZ3 hZl
  go_wp2_with (first | (refine wpList_build_at rfl 27 _ rfl (.agg Z3.toArray) (by simp only [List.map_toArray, List.map_cons, List.map_nil]; exact HZ3.out _) ?_) | (refine wpList_alloc_n rfl 27 rfl V hV _ (alloc_ver _) ?_) | (refine wpList_store_blk rfl 27 _ _ rfl V Z3 rfl rfl K1.out (by rw [size_ver, HZl.out]) (by rw [HZl.out]; rfl) HZO.out ?_; rw [HW3.out]))
  clear K1 HW3 hw1
  obtain ⟨i1, hi1, hy0, hy1, hy2⟩ := info_parts2 info_str
  obtain ⟨i2, hi2, hx0, hx1, hx2⟩ := info_parts2 info_intK
  obtain ⟨i0, hi0, hz0, hz1, hz2⟩ := info_parts2 info_hash
  go_loopw [6, 7] (fun u i wr => ∃ (j : Nat) (vn vz : Value), j ≤ l.length ∧ i = .int .i64 (j : Int) ∧ u = .int .i64 ((sumF (sizM (l.take j)) : Nat) : Int) ∧ VrQ w2 V wr 3 (.slice none 0 0) vn vz [] (namN j) (sizN (l.take j))) (fun _ i _ => l.length - (intOf i).toNat)
  case atStart => exact ⟨0, _, _, by omega, rfl, rfl, Q3.out⟩
  case round =>
    obtain ⟨j, vn, vz, hj, rfl, rfl, hq⟩ := hrel
    clear Q3
    obtain ⟨pn, cn, rfl⟩ := hq.shapes.2.1
    obtain ⟨pz, cz, rfl⟩ := hq.shapes.2.2
    have hsle := sumM_le (l.take j)
    rw [List.length_take] at hsle
    have HQ := Lib.hid hq
    by_cases hlt : j < l.length
    · obtain ⟨a, rfl, c1⟩ := SlU.cell (HS2.out.below hq.bel) hlt
      have d1 : (j : Int) < (l.length : Int) := by omega
      have q16 := HU.out j hlt
      have HSM := Lib.hid (sumM_snoc l hlt)
      have HSZ := Lib.hid (sizN_snoc l hlt)
      have HNM := Lib.hid (namN_snoc j)
      obtain ⟨x, hx⟩ : ∃ x, l.getD j 0 = x := ⟨_, rfl⟩
      rw [hx] at c1 q16 HSM HSZ
      obtain ⟨N, hN⟩ : ∃ N, sumF (sizM (l.take j)) = N := ⟨_, rfl⟩
      rw [hN] at HSM hsle ⊢
      have uj : IntKind.u8.wrap (j : Int) = (j : Int) := by rw [IntKind.wrap_u8]; omega
      have uj2 : IntKind.u8.wrap (97 + (j : Int)) = 97 + (j : Int) := by rw [IntKind.wrap_u8]; omega
      have j12 : (j : Int) < 12 := by omega
      have N36 : (N : Int) ≤ 3600 := by omega
      have x16 : (x : Int) < 65536 := by omega
      obtain ⟨Y, hY⟩ : ∃ Y, tx [97 + j] = Y := ⟨_, rfl⟩
      have HY : Hid (bs [97 + (j : Int)] = Y) := Lib.hid (by rw [← hY, show [97 + (j : Int)] = nn [97 + j] by simp [nn]]; rfl)
      have HRG := Lib.hid (range_new wr 5 [97 + (j : Int)])
      have hxm : ((x % 301 : Nat) : Int) = (x : Int) % 301 := by omega
      rw [hxm] at HSZ
      obtain ⟨z, hz⟩ : ∃ z, (x : Int) % 301 = z := ⟨_, rfl⟩
      have HZ := Lib.hid hz
      rw [hz] at HSZ
      have HSN : Hid (rowsS (namN j) ++ [[Value.string Y]] = rowsS (namN (j + 1))) := Lib.hid (by rw [HNM.out, rowsS_snoc, hY])
      have HZN : Hid (rowsZ (sizN (l.take j)) ++ [[Value.int .i64 z]] = rowsZ (sizN (l.take (j + 1)))) := Lib.hid (by rw [HSZ.out, rowsZ_snoc])
      have HNN : Hid (((N : Int) + (x : Int) % 301) = ((sumF (sizM (l.take (j + 1))) : Nat) : Int)) := Lib.hid (by rw [HSM.out]; omega)
      have i301 : (x : Int) % 301 ≤ 300 := by omega
      have i302 : (0 : Int) ≤ (x : Int) % 301 := by omega
      have c7 := hq.cellN
      have hb6 := (Below.refl wr.heap.size wr).alloc (Nat.le_refl _) (.cells #[.int .u8 (97 + (j : Int))] 5)
      have nb := Lib.hid (sl_one (Blk.newAt (wr.alloc (.cells #[.int .u8 (97 + (j : Int))] 5)) (wr.heap.size + 1) (by simp) 9 (c := #[.string Y]) [.string Y] rfl))
      have N7 := Lib.hid ((hq.keep hb6).alloc (.cells #[.string Y] 9))
      have HOW := Lib.hid N7.out.on
      have HBA := Lib.hid N7.out.bel.size
      have HONE : Hid (∀ r ∈ [[Value.string Y]], ∀ u ∈ r, u.oneCell' = true) := Lib.hid (by simp [Value.oneCell'])
      have HLEN : Hid ((rowsS (namN j)).length + [[Value.string Y]].length ≤ maxLen) := Lib.hid (by rw [rowsS_len, namN_len, List.length_singleton]; unfold maxLen; omega)
      have HBY : Hid (((rowsS (namN j)).length + [[Value.string Y]].length) * 16 ≤ 140737488355328) := Lib.hid (by rw [rowsS_len, namN_len, List.length_singleton]; omega)
      have hzl : (rowsZ (sizN (l.take j))).length = j := by rw [rowsZ_len, sizN_len, List.length_take]; omega
      have HONE2 : Hid (∀ r ∈ [[Value.int .i64 z]], ∀ u ∈ r, u.oneCell' = true) := Lib.hid (by simp [Value.oneCell'])
      have HLEN2 : Hid ((rowsZ (sizN (l.take j))).length + [[Value.int .i64 z]].length ≤ maxLen) := Lib.hid (by rw [hzl, List.length_singleton]; unfold maxLen; omega)
      have HBY2 : Hid (((rowsZ (sizN (l.take j))).length + [[Value.int .i64 z]].length) * 8 ≤ 140737488355328) := Lib.hid (by rw [hzl, List.length_singleton]; omega)
      clear hx hN hq hsle hlt hY hxm hz hb6 hzl HSM HSZ HNM HQ
      go_wp2_with (first | (refine wpList_bytes_string rfl 45 9 5 _ rfl wr.heap.size 1 1 [97 + (j : Int)] rfl Try.underlying45 Try.underlying5 Try.underlying9 HRG.out rfl ?_; rw [HY.out]) | (refine wpList_append_rows rfl _ _ 24 rfl w2.heap.size 9 i1 (.string ⟨#[]⟩) 1 16 Try.underlying24 hi1 hy0 hy1 hy2 rfl (by decide) _ (rowsS (namN j)) rfl HOW.out (.slice (some ⟨wr.heap.size + 1, 0, none⟩) 1 1) [[.string Y]] rfl nb.out HONE.out HLEN.out HBY.out HBA.out (.inr ⟨_, _, _, rfl⟩) ?_; intro v8 w8 ho8 hg8 hv8; rw [HSN.out] at ho8; obtain ⟨p8, q8, rfl⟩ := ho8.isSlice; have k8 := N7.out.grownVN hg8; have f8 := k8.free 2; have c8 := k8.cell 2; simp only [cellsV, List.getElem?_cons_zero, List.getElem?_cons_succ] at c8; have M8 := Lib.hid (N7.out.addN ho8 hg8); have c9 := M8.out.cellZ; have nb2 := Lib.hid (sl_one (Blk.newAt (w8.setCell ⟨V, 2, none⟩ (.slice p8 (rowsS (namN (j + 1))).length q8)) w8.heap.size (by simp) 3 (c := #[.int .i64 z]) [.int .i64 z] rfl)); have N8 := Lib.hid (M8.out.alloc (.cells #[.int .i64 z] 3)); have HOZ := Lib.hid N8.out.oz; have HBZ := Lib.hid N8.out.bel.size; clear ho8 hg8 k8) | (rw [HZ.out]; refine wpList_append_rows rfl _ _ 25 rfl w2.heap.size 3 i2 (.int .i64 0) 1 8 Try.underlying25 hi2 hx0 hx1 hx2 rfl (by decide) _ (rowsZ (sizN (l.take j))) rfl HOZ.out (.slice (some ⟨w8.heap.size, 0, none⟩) 1 1) [[.int .i64 z]] rfl nb2.out HONE2.out HLEN2.out HBY2.out HBZ.out (.inr ⟨_, _, _, rfl⟩) ?_; intro v9 w9 ho9 hg9 hv9; rw [HZN.out] at ho9; obtain ⟨p9, q9, rfl⟩ := ho9.isSlice; have k9 := N8.out.grownVZ hg9; have f9 := k9.free 3; have c10 := k9.cell 3; simp only [cellsV, List.getElem?_cons_zero, List.getElem?_cons_succ] at c10; have M9 := Lib.hid (N8.out.addZ ho9 hg9); clear ho9 hg9 k9))
      go_roundw
      case rel => exact ⟨j + 1, _, _, by omega, by go_num, by rw [← HNN.out, HZ.out], M9.out⟩
      case measure => simp [intOf]; omega
    · obtain rfl : j = l.length := by omega
      rw [List.take_length] at hq hsle ⊢
      rw [Nat.min_self] at hsle
      obtain ⟨N, hN⟩ : ∃ N, sumF (sizM l) = N := ⟨_, rfl⟩
      obtain ⟨M, hM⟩ : ∃ M, blkN N = M := ⟨_, rfl⟩
      rw [hN] at hsle ⊢
      have h15 : M ≤ 15 := by rw [← hM]; exact blkN_le (by omega)
      have hdiv : ((N : Int) + 255) / 256 = (M : Int) := by rw [← hM]; unfold blkN; omega
      have N36 : (N : Int) ≤ 3600 := by omega
      have HMY : Hid (∀ b, mayH b (namN l.length) (sizN l) = decide (b = M)) := Lib.hid fun b => by rw [may_siz HL12.out, hN, hM]
      have HBK : Hid (blocksH (sizN l) = M) := Lib.hid (by rw [blocks_siz, hN, hM])
      have HDV := Lib.hid hdiv
      have HNB := Lib.hid (namN_bys HL12.out)
      have Q3 : Hid (VrQ w2 V wr 3 (.slice none 0 0) (.slice pn (namN l.length).length cn) (.slice pz (sizN l).length cz) (List.replicate 0 h) (namN l.length) (sizN l)) := Lib.hid hq
      have HNL : Hid ((namN l.length).length ≤ 12 ∧ (sizN l).length ≤ 12) := Lib.hid ⟨by rw [namN_len]; exact HL12.out, by rw [sizN_len]; exact HL12.out⟩
      clear hq hN hM hsle hlt HQ HU HS2 HZ3 HZO
      obtain ⟨NS, hNS⟩ : ∃ NS, namN l.length = NS := ⟨_, rfl⟩
      obtain ⟨ZS, hZS⟩ : ∃ ZS, sizN l = ZS := ⟨_, rfl⟩
      simp only [hNS, hZS] at HMY HBK HNB Q3 HNL ⊢
      clear hNS hZS
      go_wp2
      go_loopw [9] (fun i wr => ∃ (k : Nat) (vb : Value), k ≤ M ∧ i = .int .i64 (k : Int) ∧ (k = 0 → vb = .slice none 0 0) ∧ VrQ w2 V wr 3 vb (.slice pn NS.length cn) (.slice pz ZS.length cz) (List.replicate k h) NS ZS) (fun i _ => M - (intOf i).toNat)
      case atStart => exact ⟨0, _, by omega, rfl, fun _ => rfl, Q3.out⟩
      case round =>
        obtain ⟨k, vb, hk, rfl, hvb, hq⟩ := hrel
        clear Q3
        obtain ⟨pb, cb, hvbe⟩ := hq.shapes.1
        rw [List.length_replicate] at hvbe
        subst hvbe
        have HQ := Lib.hid hq
        have KGr := Lib.hid (KG2.out.below (hq.bel.mono (Nat.le_refl _)) KG2.out.lt)
        have c7 := hq.cellB
        by_cases hlt : k < M
        · have d1 : (k : Int) < ((N : Int) + 255) / 256 := by rw [HDV.out]; omega
          have N7 := Lib.hid (hq.alloc (.cells R.toArray 44))
          have nb := sl_one (Blk.newAt wr wr.heap.size rfl 44 (c := R.toArray) R rfl)
          rw [HRl.out] at nb
          have NB := Lib.hid nb
          have HOW := Lib.hid N7.out.ob
          have HBA := Lib.hid N7.out.bel.size
          have HRW : Hid (rowsH (List.replicate k h) ++ [R] = rowsH (List.replicate (k + 1) h)) := Lib.hid (by rw [rowsH_rep, HR.out])
          have hrl : (rowsH (List.replicate k h)).length = k := by rw [rowsH_len, List.length_replicate]
          have HLEN : Hid ((rowsH (List.replicate k h)).length + [R].length ≤ maxLen) := Lib.hid (by rw [hrl, List.length_singleton]; unfold maxLen; omega)
          have HBY2 : Hid (((rowsH (List.replicate k h)).length + [R].length) * 32 ≤ 140737488355328) := Lib.hid (by rw [hrl, List.length_singleton]; omega)
          have HSZ : Hid (i0.size = R.length) := Lib.hid (by rw [hz1, HRl.out])
          have HR0 : Hid (0 < R.length) := Lib.hid (by rw [HRl.out]; decide)
          have HR1 : Hid (R.length ≤ 1000) := Lib.hid (by rw [HRl.out]; decide)
          have HSH1 : Hid ((Try.prog.info? 44).map (·.size) = some R.length) := Lib.hid (by rw [size_hashV, HRl.out])
          clear hq nb hrl hvb hlt HQ
          go_wp2_with (first | (refine wpList_load_blk rfl 44 _ rfl G rfl KGr.out Try.underlying44 rfl HSH1.out ?_) | (refine wpList_buildRow rfl 23 44 _ rfl R i0 (.agg (ints .u8 (nn (zerN 32))).toArray) wr.heap.size rfl Try.underlying23 hi0 hz0 HSZ.out HR0.out HR1.out (by simp only [List.map_toArray, List.map_cons, List.map_nil]; rfl) ?_) | (refine wpList_append_rows rfl _ _ 23 rfl w2.heap.size 44 i0 (.agg (ints .u8 (nn (zerN 32))).toArray) 32 32 Try.underlying23 hi0 hz0 hz1 hz2 rfl (by decide) _ (rowsH (List.replicate k h)) rfl HOW.out (.slice (some ⟨wr.heap.size, 0, none⟩) 1 1) [R] rfl NB.out HRn.out HLEN.out HBY2.out HBA.out (.inr ⟨_, _, _, rfl⟩) ?_; intro v7 w7 ho7 hg7 hv7; rw [HRW.out] at ho7; obtain ⟨p7, q7, rfl⟩ := ho7.isSlice; have k7 := N7.out.grownVB hg7; have f7 := k7.free 1; have c8 := k7.cell 1; simp only [cellsV, List.getElem?_cons_zero, List.getElem?_cons_succ] at c8; have M8 := Lib.hid (N7.out.addB ho7 hg7); clear ho7 hg7 k7))
          go_roundw
          case rel => exact ⟨k + 1, _, by omega, by go_num, (fun e => by omega), M8.out⟩
          case measure => simp [intOf]; omega
        · obtain rfl : k = M := by omega
          have d1 : ¬ (k : Int) < ((N : Int) + 255) / 256 := by rw [HDV.out]; omega
          have HVB := Lib.hid hvb
          obtain ⟨V2, hV2⟩ : ∃ V2, wr.heap.size = V2 := ⟨_, rfl⟩
          obtain ⟨C, hC⟩ : ∃ C, cellsV 3 (.slice pb k cb) (.slice pn NS.length cn) (.slice pz ZS.length cz) = C := ⟨_, rfl⟩
          have hCl : C.length = 4 := by rw [← hC]; rfl
          have hCo : C.toArray.all (·.oneCell') = true := by rw [← hC]; exact cellsV_one _ _ _ _ _ _ _ _ _ _
          have kv := hq.ver
          rw [hC] at kv
          have KV := Lib.hid kv
          have k1 := Blk.newAt wr V2 hV2 27 (c := zV.toArray) _ rfl
          have k2 := k1.row C (by rw [hCl]; rfl)
          have kb4 := below_setRow ((Below.refl wr.heap.size wr).alloc (Nat.le_refl _) (.cells zV.toArray 27)) (show wr.heap.size ≤ V2 by rw [hV2]; exact Nat.le_refl _) C.toArray
          obtain ⟨w4, hw4⟩ : ∃ w4, (wr.alloc (.cells zV.toArray 27)).setRow V2 C.toArray = w4 := ⟨_, rfl⟩
          rw [hw4] at k2 kb4
          have HVV2 : Hid (V2 ≠ V ∧ w2.heap.size ≤ V2) := Lib.hid ⟨by have := hq.ver.lt; omega, by have := hq.bel.size; omega⟩
          have Q4 := Lib.hid (hq.keep kb4)
          have K4 := Lib.hid k2
          have KG4 := Lib.hid (KGr.out.below kb4 KGr.out.lt)
          have K1 := Lib.hid k1
          have HW4 := Lib.hid hw4
          have HC := Lib.hid hC
          have HCl := Lib.hid hCl
          have HCo := Lib.hid hCo
          have HSH1 : Hid ((Try.prog.info? 44).map (·.size) = some R.length) := Lib.hid (by rw [size_hashV, HRl.out])
          have HSZ : Hid (i0.size = R.length) := Lib.hid (by rw [hz1, HRl.out])
          have HR0 : Hid (0 < R.length) := Lib.hid (by rw [HRl.out]; decide)
          have HR1 : Hid (R.length ≤ 1000) := Lib.hid (by rw [HRl.out]; decide)
          have H15 := Lib.hid h15
          clear hq kv k1 k2 kb4 hw4 hC hCl hCo hvb hlt HQ KGr c7
          go_wp2_with (first | (refine wpList_load_blk rfl 27 _ rfl V rfl KV.out Try.underlying27 rfl (by rw [size_ver, HCl.out]) ?_) | (refine wpList_alloc_n rfl 27 rfl V2 hV2 _ (alloc_ver _) ?_) | (refine wpList_store_blk rfl 27 _ _ rfl V2 C rfl rfl K1.out (by rw [size_ver, HCl.out]) (by rw [HCl.out]; rfl) HCo.out ?_; rw [HW4.out]))
          refine region_mixT 6 8 (by decide) mixed (by kernel_rfl) (by kernel_rfl) (fun u => #[_, _, _, _, _, _, _, _, _, _, _, _, _, _, _, _, _, _, _, _, _, _, _, _, _, _, _, _, _, _, _, _, _, _, _, _, _, _, _, _, _, _, _, _, _, _, _, _, _, _, _, _, _, _, _, _, _, _, _, _, _, _, _, _, _, _, u 0, u 1, u 2, u 3, u 4, u 5, u 6, u 7, _, _, _, _, _, _, _, _, _, _, _, _, _, _, _, _, _, _, _, _, _, _, _, _, _, _, _]) [] (fun i => undef) rfl
            (fun _ W => Below w4.heap.size w4 W) (Below.refl _ _).drew (mrS w4.heap.size V V2 (.slice pb k cb) (List.replicate k h) R) ?mono ?step ?one ?last
          case mono => exact fun b i v W W' h _ _ hb => mrS_mono b i v W W' h hb
          case step =>
            intro bb u W j o hj hjk hneed ho hC hd
            rcases j with _ | _ | _ | _ | _ | _ | _ | _ | j
            all_goals try (simp only [List.getElem?_cons_zero, List.getElem?_cons_succ, Option.some.injEq] at ho; subst ho)
            · have hb := (Below.refl W.heap.size W).alloc (Nat.le_refl _) (.cells #[] 44)
              have HC1 := Lib.hid (hC.trans (hb.mono hC.size))
              have HB1 := Lib.hid hb
              have HO := Lib.hid (OwnR.empty W w4.heap.size 44 32 hC.size)
              clear hb hC
              go_wp2_with fail
              exact ⟨_, rfl, (fun _ => ⟨HO.out, _, rfl⟩), HC1.out, HB1.out⟩
            · go_wp2_with fail
              exact ⟨_, rfl, rfl, hC, Below.refl _ _⟩
            · have h1 : u 1 = .pointer (some ⟨V, 1, none⟩) := hd ⟨1, .data⟩ (by simp) rfl
              have c2 := (Q4.out.keep hC).cellB
              rw [h1]
              go_wp2_with fail
              exact ⟨_, by simp [upd, h1], rfl, hC, Below.refl _ _⟩
            · have h2 : u 2 = .slice pb k cb := hd ⟨2, .data⟩ (by simp) rfl
              cases bb with
              | true =>
                have hn1 := hneed rfl
                exact absurd hn1 (by decide)
              | false =>
                obtain ⟨ho0, y, h0⟩ := (show mrS w4.heap.size V V2 (.slice pb k cb) (List.replicate k h) R false 0 (u 0) W from hd ⟨0, .data⟩ (by simp) rfl) rfl
                rw [h0] at ho0
                have HO0 := Lib.hid ho0
                have HBS := Lib.hid hC.size
                have HSV := Lib.hid (Q4.out.keep hC).ob.sl
                have HNI : Hid (rowsH (List.replicate k h) = [] → Value.slice pb k cb = .slice none 0 0) := Lib.hid fun e => HVB.out (by
                  have := congrArg List.length e
                  rwa [rowsH_len, List.length_replicate] at this)
                have HL6 : Hid ((rowsH (List.replicate k h)).length ≤ maxLen) := Lib.hid (by rw [rowsH_len, List.length_replicate]; have := H15.out; unfold maxLen; omega)
                have HL7 : Hid ((rowsH (List.replicate k h)).length * 32 ≤ 140737488355328) := Lib.hid (by rw [rowsH_len, List.length_replicate]; have := H15.out; omega)
                have HCC := Lib.hid hC
                clear hC hd ho0
                rw [h0, h2]
                go_wp2_with (refine wpList_append_emptyN rfl _ _ 23 rfl w4.heap.size 44 i0 (.agg (ints .u8 (nn (zerN 32))).toArray) 32 32 Try.underlying23 hi0 hz0 hz1 hz2 rfl (by decide) y rfl HO0.out HBS.out (.slice pb k cb) (rowsH (List.replicate k h)) rfl HSV.out rowsH_one HNI.out HL6.out HL7.out ?_; intro v5 w5 ho5 hb5)
                exact ⟨v5, by first | (simp [upd, h0, h2]; done) | (simp [upd, h0, h2]; rfl), (fun _ => ho5), HCC.out.trans (hb5.mono HCC.out.size), hb5⟩
            · have KGW := Lib.hid (KG4.out.below hC KG4.out.lt)
              go_wp2_with (refine wpList_load_blk rfl 44 _ rfl G rfl KGW.out Try.underlying44 rfl HSH1.out ?_)
              exact ⟨_, rfl, rfl, hC, Below.refl _ _⟩
            · have h1 : u 4 = .agg R.toArray := hd ⟨4, .data⟩ (by simp) rfl
              have hb := (Below.refl W.heap.size W).alloc (Nat.le_refl _) (.cells R.toArray 44)
              have HC1 := Lib.hid (hC.trans (hb.mono hC.size))
              have HB1 := Lib.hid hb
              clear hb hC
              rw [h1]
              go_wp2_with (refine wpList_buildRow rfl 23 44 _ rfl R i0 (.agg (ints .u8 (nn (zerN 32))).toArray) W.heap.size rfl Try.underlying23 hi0 hz0 HSZ.out HR0.out HR1.out (by simp only [List.map_toArray, List.map_cons, List.map_nil]; rfl) ?_)
              exact ⟨_, by first | (simp [upd, h1]; done) | (simp [upd, h1]; rfl), (fun _ => ⟨W.heap.size, rfl, Blk.new' W _ _ rfl⟩), HC1.out, HB1.out⟩
            · omega
            · go_wp2_with fail
              exact ⟨_, rfl, rfl, hC, Below.refl _ _⟩
            · omega
          case one =>
            intro u W o ho hC hd
            simp only [List.getElem?_cons_zero, List.getElem?_cons_succ, Option.some.injEq] at ho
            subst ho
            have hO : OwnR W w4.heap.size 44 32 (u 3) (rowsH (List.replicate k h)) := (show mrS w4.heap.size V V2 (.slice pb k cb) (List.replicate k h) R false 3 (u 3) W from hd ⟨3, .data⟩ (by simp) rfl) rfl
            obtain ⟨y, h5, hY⟩ := (show mrS w4.heap.size V V2 (.slice pb k cb) (List.replicate k h) R false 5 (u 5) W from hd ⟨5, .data⟩ (by simp) rfl) rfl
            obtain ⟨v3, hv3⟩ : ∃ v3, u 3 = v3 := ⟨_, rfl⟩
            rw [hv3] at hO
            have hnw := sl_one hY
            rw [HRl.out] at hnw
            have HNW := Lib.hid hnw
            have HO := Lib.hid hO
            have HLO := Lib.hid hO.lt
            have hrl : (rowsH (List.replicate k h)).length = k := by rw [rowsH_len, List.length_replicate]
            have HLEN : Hid ((rowsH (List.replicate k h)).length + [R].length ≤ maxLen) := Lib.hid (by rw [hrl, List.length_singleton]; have := H15.out; unfold maxLen; omega)
            have HBY2 : Hid (((rowsH (List.replicate k h)).length + [R].length) * 32 ≤ 140737488355328) := Lib.hid (by rw [hrl, List.length_singleton]; have := H15.out; omega)
            have HCC := Lib.hid hC
            have HBS := Lib.hid hC.size
            clear hO hnw hrl hC hd hY
            rw [hv3, h5]
            go_wp2_with (refine wpList_append_rows rfl _ _ 23 rfl w4.heap.size 44 i0 (.agg (ints .u8 (nn (zerN 32))).toArray) 32 32 Try.underlying23 hi0 hz0 hz1 hz2 rfl (by decide) v3 (rowsH (List.replicate k h)) rfl HO.out (.slice (some ⟨y, 0, none⟩) 1 1) [R] rfl HNW.out HRn.out HLEN.out HBY2.out HBS.out (.inr ⟨_, _, _, rfl⟩) ?_; intro v7 w7 ho7 hg7 hv7)
            exact ⟨v7, by first | (simp [upd, hv3, h5]; done) | (simp [upd, hv3, h5]; rfl), ho7, HCC.out.grown hg7 HBS.out (fun k e => (HLO.out k e).1), fun i x hi hx => mrS_turn i x W w7 hi hx⟩
          case last =>
            intro u W o ho hC hS
            simp only [List.getElem?_cons_zero, List.getElem?_cons_succ, Option.some.injEq] at ho
            subst ho
            have h6 : OwnR W w4.heap.size 44 32 (u 6) (rowsH (List.replicate k h) ++ [R]) := hS 6 (by decide)
            have h7 : u 7 = .pointer (some ⟨V2, 1, none⟩) := hS 7 (by decide)
            clear hS
            rw [show rowsH (List.replicate k h) ++ [R] = rowsH (List.replicate (k + 1) h) by rw [rowsH_rep, HR.out]] at h6
            obtain ⟨v6, hv6⟩ : ∃ v6, u 6 = v6 := ⟨_, rfl⟩
            rw [hv6] at h6 ⊢
            obtain ⟨p6, c6, he6⟩ := h6.isSlice
            rw [rowsH_len, List.length_replicate] at he6
            have k4 := K4.out.below hC K4.out.lt
            have f2 := k4.free 1
            have c2 := k4.cell 1
            rw [← HC.out] at c2
            simp only [cellsV, List.getElem?_cons_zero, List.getElem?_cons_succ] at c2
            have q4 := Q4.out.keep hC
            have Q5 := Lib.hid (q4.other k4 HVV2.out.1 HVV2.out.2 1 v6)
            have o5 := h6.cellOther k4 (by decide) 1 v6
            have k5 := k4.set 1 v6
            rw [← HC.out] at k5
            have g5 := (q4.bel).setCell (p := ⟨V2, 1, none⟩) HVV2.out.2 v6
            have vv5 : VV (W.setCell ⟨V2, 1, none⟩ v6) (.agg (cellsV 3 v6 (.slice pn NS.length cn) (.slice pz ZS.length cz)).toArray) ⟨3, List.replicate (k + 1) h, NS, ZS⟩ := ⟨_, _, _, rfl, ⟨p6, c6, by rw [he6]; simp⟩, Q5.out.shapes.2.1, Q5.out.shapes.2.2, o5.sl, Q5.out.on.sl, Q5.out.oz.sl⟩
            have VV5 := Lib.hid vv5
            have K5 : Hid (Blk (W.setCell ⟨V2, 1, none⟩ v6) V2 27 (cellsV 3 v6 (.slice pn NS.length cn) (.slice pz ZS.length cz))) := Lib.hid k5
            have G5 := Lib.hid (HB2.out.trans (g5.mono HB2.out.size))
            clear hC h6 k4 q4 o5 k5 g5 vv5 Q4 K4 KG4 KG2 KV
            rw [h7]
            subst he6
            obtain ⟨W5, hW5⟩ : ∃ W5, W.setCell ⟨V2, 1, none⟩ (.slice p6 (k + 1) c6) = W5 := ⟨_, rfl⟩
            rw [hW5] at Q5 VV5 K5 G5
            have HW5 := Lib.hid hW5
            have HV0 := Lib.hid Q5.out.vv
            have KV5 := Lib.hid Q5.out.ver
            obtain ⟨D, hD⟩ : ∃ D, cellsV 3 (.slice p6 (k + 1) c6) (.slice pn NS.length cn) (.slice pz ZS.length cz) = D := ⟨_, rfl⟩
            have hDl : D.length = 4 := by rw [← hD]; rfl
            rw [hD] at VV5 K5
            rw [HC.out] at KV5 HV0
            have HDl := Lib.hid hDl
            clear hW5 hD hDl
            by_cases hk0 : k = 0
            · have e0 := HVB.out hk0
              have hm0 : ¬ (0 : Int) < (k : Int) := by omega
              have c7 := Q5.out.cellB
              have f0 : (W.setCell ⟨V2, 1, none⟩ (.slice p6 (k + 1) c6)).cell? ⟨V, 1, none⟩ = some (.slice pb k cb) := by rw [HW5.out]; exact c7
              have WW := Lib.hid (show Below W5.heap.size W5 W5 from Below.refl _ _)
              have QF := Lib.hid Q5.out
              have GF := Lib.hid G5.out
              have KF := Lib.hid KV5.out
              have K2F := Lib.hid K5.out
              have VF := Lib.hid VV5.out
              have V0F := Lib.hid HV0.out
              clear hk0 e0 Q5 G5 KV5 K5 VV5 HV0 c7
              go_wp2_with fail
              rw [HW5.out]
              clear f0 HW5
              have M1 := Lib.hid (fun wx (hx : NewBut W5 wx) => (h_May ⟨3, List.replicate k h, NS, ZS⟩ _ true wx (by show mayH (List.replicate k h).length NS ZS = true; rw [List.length_replicate, HMY.out]; simp) (V0F.out.below hx) HNB.out (by show (List.replicate k h).length ≤ 1000; rw [List.length_replicate]; have := H15.out; omega) (by have := HNL.out.1; show NS.length ≤ 1000; omega) (by have := HNL.out.2; show ZS.length ≤ 1000; omega)).mono fun _ _ ⟨x1, x2⟩ => (⟨x1, hx.trans (x2.mono hx.size)⟩ : _ ∧ NewBut W5 _))
              have M2 := Lib.hid (fun wx (hx : NewBut W5 wx) => (h_May ⟨3, List.replicate (k + 1) h, NS, ZS⟩ _ false wx (by show mayH (List.replicate (k + 1) h).length NS ZS = false; rw [List.length_replicate, HMY.out]; simp) (VF.out.below hx) HNB.out (by show (List.replicate (k + 1) h).length ≤ 1000; rw [List.length_replicate]; have := H15.out; omega) (by have := HNL.out.1; show NS.length ≤ 1000; omega) (by have := HNL.out.2; show ZS.length ≤ 1000; omega)).mono fun _ _ ⟨x1, x2⟩ => (⟨x1, hx.trans (x2.mono hx.size)⟩ : _ ∧ NewBut W5 _))
              have B1 := fun wx (hx : NewBut W5 wx) => (h_Blocks ZS pz cz wx (by have := HNL.out.2; omega) (QF.out.oz.sl.below hx)).mono fun _ _ ⟨x1, x2⟩ => (⟨x1, hx.trans (x2.mono hx.size)⟩ : _ ∧ NewBut W5 _)
              rw [HBK.out] at B1
              have BB1 := Lib.hid B1
              have PA : Hid (∀ wx, NewBut W5 wx → ∀ j v, C[j]? = some v → wx.cell? ((⟨V, 0, none⟩ : Addr).add j) = some v) := Lib.hid fun wx hx j v hv => by
                have := (KF.out.below hx KF.out.lt).cell j
                rw [hv] at this
                rw [Addr.add_mid, Nat.zero_add]
                exact this
              have PB : Hid (∀ wx, NewBut W5 wx → ∀ j v, D[j]? = some v → wx.cell? ((⟨V2, 0, none⟩ : Addr).add j) = some v) := Lib.hid fun wx hx j v hv => by
                have := (K2F.out.below hx K2F.out.lt).cell j
                rw [hv] at this
                rw [Addr.add_mid, Nat.zero_add]
                exact this
              have PZ : Hid (∀ wx, NewBut W5 wx → wx.cell? ⟨V, 3, none⟩ = some (.slice pz ZS.length cz)) := Lib.hid fun wx hx => (QF.out.keep hx).cellZ
              have PBK : Hid (∀ wx, NewBut W5 wx → wx.cell? ⟨V, 1, none⟩ = some (.slice pb k cb)) := Lib.hid fun wx hx => (QF.out.keep hx).cellB
              have t1 : ((k : Int) == (k : Int)) = true := by simp
              clear B1
              refine region_quiet_tail (C := NewBut W5) 16 mixed (by kernel_rfl) (show Below _ _ _ from (Below.refl _ _).drew) ?_
              simp only [List.take_succ_cons, List.take_zero, List.drop_succ_cons, List.drop_zero]
              repeat (first | go_big_quiet_step (fail) | (refine wpQuiet_load_addr rfl 27 _ rfl ⟨V, 0, none⟩ rfl C PA.out Try.underlying27 rfl (by rw [size_ver, HCl.out]) ?_) | (refine wpQuiet_load_addr rfl 27 _ rfl ⟨V2, 0, none⟩ rfl D PB.out Try.underlying27 rfl (by rw [size_ver, HDl.out]) ?_) | (refine wpQuiet_load_one rfl 25 _ rfl ⟨V, 3, none⟩ rfl _ PZ.out Try.underlying25 rfl ?_) | (refine wpQuiet_load_one rfl 23 _ rfl ⟨V, 1, none⟩ rfl _ PBK.out Try.underlying23 rfl ?_) | (refine wpQuiet_step (fun K' hK' => ?_); go_simp; first | (refine hK' _ ?_; clear hK' K') | ((with_reducible refine ⟨_, fun wx hx => M1.out wx hx, hK' _ ?_⟩); clear hK' K') | ((with_reducible refine ⟨_, fun wx hx => M2.out wx hx, hK' _ ?_⟩); clear hK' K') | ((with_reducible refine ⟨_, fun wx hx => BB1.out wx hx, hK' _ ?_⟩); clear hK' K') | (refine ⟨_, fun _ _ => rfl, hK' _ ?_⟩; clear hK' K')))
              refine wpQuiet_nil ?_
              intro w9 hb9
              have G9 := Lib.hid (GF.out.trans (Below.mono hb9 GF.out.size))
              clear hb9
              go_wp2
              go_ret
              exact ⟨rfl, by first | exact G9.out | (have h := G9.out; rw [hG] at h; exact h)⟩
            · obtain ⟨hkl, pL, cL, hsl, hSL⟩ := cut_first_rows Q5.out.ob (by omega)
              rw [rowsH_len, List.length_replicate] at hkl
              have hm0 : (0 : Int) < (k : Int) := by omega
              have f0 : (W.setCell ⟨V2, 1, none⟩ (.slice p6 (k + 1) c6)).cell? ⟨V, 1, none⟩ = some (.slice pb k cb) := by rw [HW5.out]; exact Q5.out.cellB
              obtain ⟨V3, hV3⟩ : ∃ V3, W5.heap.size = V3 := ⟨_, rfl⟩
              have k1 := Blk.newAt W5 V3 hV3 27 (c := zV.toArray) _ rfl
              have k2 := k1.row C (by rw [HCl.out]; rfl)
              have kb4 := below_setRow ((Below.refl W5.heap.size W5).alloc (Nat.le_refl _) (.cells zV.toArray 27)) (show W5.heap.size ≤ V3 by rw [hV3]; exact Nat.le_refl _) C.toArray
              obtain ⟨W6, hW6⟩ : ∃ W6, (W5.alloc (.cells zV.toArray 27)).setRow V3 C.toArray = W6 := ⟨_, rfl⟩
              rw [hW6] at k2 kb4
              have HV3 : Hid (V3 ≠ V ∧ w2.heap.size ≤ V3 ∧ V3 ≠ V2) := Lib.hid ⟨by have := Q5.out.ver.lt; omega, by have := Q5.out.bel.size; omega, by have := K5.out.lt; omega⟩
              have q6 := Q5.out.keep kb4
              have d2 := k2.cell 1
              have e2 := k2.free 1
              rw [← HC.out] at d2
              simp only [cellsV, List.getElem?_cons_zero, List.getElem?_cons_succ] at d2
              have cV6 := q6.cellB
              obtain ⟨W7, hW7⟩ : ∃ W7, W6.setCell ⟨V3, 1, none⟩ (.slice pL (k - 1) cL) = W7 := ⟨_, rfl⟩
              have q7 := q6.other k2 HV3.out.1 HV3.out.2.1 1 (.slice pL (k - 1) cL)
              have k7 := k2.set 1 (.slice pL (k - 1) cL)
              rw [hW7] at q7 k7
              have b57 : Below W5.heap.size W5 W7 := by rw [← hW7]; exact kb4.setCell (p := ⟨V3, 1, none⟩) (show W5.heap.size ≤ V3 by rw [hV3]; exact Nat.le_refl _) _
              have s7 := hSL W7 q7.ob.sl
              rw [show (rowsH (List.replicate k h)).drop 1 = rowsH (List.replicate (k - 1) h) by unfold rowsH; rw [← List.map_drop, List.drop_replicate]] at s7
              have vv7 : VV W7 (.agg (cellsV 3 (.slice pL (k - 1) cL) (.slice pn NS.length cn) (.slice pz ZS.length cz)).toArray) ⟨3, List.replicate (k - 1) h, NS, ZS⟩ := ⟨_, _, _, rfl, ⟨pL, cL, by simp⟩, q7.shapes.2.1, q7.shapes.2.2, s7, q7.on.sl, q7.oz.sl⟩
              have HM7 := Lib.hid (h_May ⟨3, List.replicate (k - 1) h, NS, ZS⟩ _ false W7 (by show mayH (List.replicate (k - 1) h).length NS ZS = false; rw [List.length_replicate, HMY.out]; simp; omega) vv7 HNB.out (by show (List.replicate (k - 1) h).length ≤ 1000; rw [List.length_replicate]; have := H15.out; omega) (by have := HNL.out.1; show NS.length ≤ 1000; omega) (by have := HNL.out.2; show ZS.length ≤ 1000; omega))
              rw [← HC.out] at k7
              have k7' : Blk W7 V3 27 (cellsV 3 (.slice pL (k - 1) cL) (.slice pn NS.length cn) (.slice pz ZS.length cz)) := k7
              obtain ⟨L, hL⟩ : ∃ L, cellsV 3 (.slice pL (k - 1) cL) (.slice pn NS.length cn) (.slice pz ZS.length cz) = L := ⟨_, rfl⟩
              have hLl : L.length = 4 := by rw [← hL]; rfl
              rw [hL] at k7' HM7
              have K7 := Lib.hid k7'
              have K1 := Lib.hid k1
              have HW6 := Lib.hid hW6
              have HW7 := Lib.hid hW7
              have HLl := Lib.hid hLl
              have QF7 := Lib.hid q7
              have GF7 := Lib.hid (G5.out.trans (b57.mono G5.out.size))
              have KF7 : Hid (Blk W7 V 27 C) := Lib.hid (by rw [← HC.out]; exact q7.ver)
              have K2F7 := Lib.hid (K5.out.below b57 K5.out.lt)
              have VF7 := Lib.hid (VV5.out.below b57)
              have V0F7 := Lib.hid (HV0.out.below b57)
              have HCC5 := Lib.hid KV5.out
              clear hkl hk0 hSL k1 k2 kb4 hW6 hW7 q6 q7 k7 k7' b57 s7 vv7 hL hLl Q5 G5 K5 VV5 HV0 KV5
              go_wp2_with (first | (rw [HW5.out]; refine wpList_load_blk rfl 27 _ rfl V rfl HCC5.out Try.underlying27 rfl (by rw [size_ver, HCl.out]) ?_) | (refine wpList_alloc_n rfl 27 rfl V3 hV3 _ (alloc_ver _) ?_) | (refine wpList_store_blk rfl 27 _ _ rfl V3 C rfl rfl K1.out (by rw [size_ver, HCl.out]) (by rw [HCl.out]; rfl) HCo.out ?_; rw [HW6.out]) | (rw [HW7.out]; refine wpList_load_blk rfl 27 _ rfl V3 rfl K7.out Try.underlying27 rfl (by rw [size_ver, HLl.out]) ?_))
              refine HM7.out.mono ?_
              rintro e W8 ⟨rfl, hb8⟩
              have QF := Lib.hid (QF7.out.keep hb8)
              have GF := Lib.hid (GF7.out.trans (hb8.mono GF7.out.size))
              have KF := Lib.hid (KF7.out.below hb8 KF7.out.lt)
              have K2F := Lib.hid (K2F7.out.below hb8 K2F7.out.lt)
              have VF := Lib.hid (VF7.out.below hb8)
              have V0F := Lib.hid (V0F7.out.below hb8)
              clear hb8 f0 d2 e2 cV6 QF7 GF7 KF7 K2F7 VF7 V0F7 HM7 K7 HW5 HW6 HW7 hsl
              go_wp2_with fail
              have M1 := Lib.hid (fun wx (hx : NewBut W8 wx) => (h_May ⟨3, List.replicate k h, NS, ZS⟩ _ true wx (by show mayH (List.replicate k h).length NS ZS = true; rw [List.length_replicate, HMY.out]; simp) (V0F.out.below hx) HNB.out (by show (List.replicate k h).length ≤ 1000; rw [List.length_replicate]; have := H15.out; omega) (by have := HNL.out.1; show NS.length ≤ 1000; omega) (by have := HNL.out.2; show ZS.length ≤ 1000; omega)).mono fun _ _ ⟨x1, x2⟩ => (⟨x1, hx.trans (x2.mono hx.size)⟩ : _ ∧ NewBut W8 _))
              have M2 := Lib.hid (fun wx (hx : NewBut W8 wx) => (h_May ⟨3, List.replicate (k + 1) h, NS, ZS⟩ _ false wx (by show mayH (List.replicate (k + 1) h).length NS ZS = false; rw [List.length_replicate, HMY.out]; simp) (VF.out.below hx) HNB.out (by show (List.replicate (k + 1) h).length ≤ 1000; rw [List.length_replicate]; have := H15.out; omega) (by have := HNL.out.1; show NS.length ≤ 1000; omega) (by have := HNL.out.2; show ZS.length ≤ 1000; omega)).mono fun _ _ ⟨x1, x2⟩ => (⟨x1, hx.trans (x2.mono hx.size)⟩ : _ ∧ NewBut W8 _))
              have B1 := fun wx (hx : NewBut W8 wx) => (h_Blocks ZS pz cz wx (by have := HNL.out.2; omega) (QF.out.oz.sl.below hx)).mono fun _ _ ⟨x1, x2⟩ => (⟨x1, hx.trans (x2.mono hx.size)⟩ : _ ∧ NewBut W8 _)
              rw [HBK.out] at B1
              have BB1 := Lib.hid B1
              have PA : Hid (∀ wx, NewBut W8 wx → ∀ j v, C[j]? = some v → wx.cell? ((⟨V, 0, none⟩ : Addr).add j) = some v) := Lib.hid fun wx hx j v hv => by
                have := (KF.out.below hx KF.out.lt).cell j
                rw [hv] at this
                rw [Addr.add_mid, Nat.zero_add]
                exact this
              have PB : Hid (∀ wx, NewBut W8 wx → ∀ j v, D[j]? = some v → wx.cell? ((⟨V2, 0, none⟩ : Addr).add j) = some v) := Lib.hid fun wx hx j v hv => by
                have := (K2F.out.below hx K2F.out.lt).cell j
                rw [hv] at this
                rw [Addr.add_mid, Nat.zero_add]
                exact this
              have PZ : Hid (∀ wx, NewBut W8 wx → wx.cell? ⟨V, 3, none⟩ = some (.slice pz ZS.length cz)) := Lib.hid fun wx hx => (QF.out.keep hx).cellZ
              have PBK : Hid (∀ wx, NewBut W8 wx → wx.cell? ⟨V, 1, none⟩ = some (.slice pb k cb)) := Lib.hid fun wx hx => (QF.out.keep hx).cellB
              have t1 : ((k : Int) == (k : Int)) = true := by simp
              clear B1
              refine region_quiet_tail (C := NewBut W8) 16 mixed (by kernel_rfl) (show Below _ _ _ from (Below.refl _ _).drew) ?_
              simp only [List.take_succ_cons, List.take_zero, List.drop_succ_cons, List.drop_zero]
              repeat (first | go_big_quiet_step (fail) | (refine wpQuiet_load_addr rfl 27 _ rfl ⟨V, 0, none⟩ rfl C PA.out Try.underlying27 rfl (by rw [size_ver, HCl.out]) ?_) | (refine wpQuiet_load_addr rfl 27 _ rfl ⟨V2, 0, none⟩ rfl D PB.out Try.underlying27 rfl (by rw [size_ver, HDl.out]) ?_) | (refine wpQuiet_load_one rfl 25 _ rfl ⟨V, 3, none⟩ rfl _ PZ.out Try.underlying25 rfl ?_) | (refine wpQuiet_load_one rfl 23 _ rfl ⟨V, 1, none⟩ rfl _ PBK.out Try.underlying23 rfl ?_) | (refine wpQuiet_step (fun K' hK' => ?_); go_simp; first | (refine hK' _ ?_; clear hK' K') | ((with_reducible refine ⟨_, fun wx hx => M1.out wx hx, hK' _ ?_⟩); clear hK' K') | ((with_reducible refine ⟨_, fun wx hx => M2.out wx hx, hK' _ ?_⟩); clear hK' K') | ((with_reducible refine ⟨_, fun wx hx => BB1.out wx hx, hK' _ ?_⟩); clear hK' K') | (refine ⟨_, fun _ _ => rfl, hK' _ ?_⟩; clear hK' K')))
              refine wpQuiet_nil ?_
              intro w9 hb9
              have G9 := Lib.hid (GF.out.trans (Below.mono hb9 GF.out.size))
              clear hb9
              go_wp2
              go_ret
              exact ⟨rfl, by first | exact G9.out | (have h := G9.out; rw [hG] at h; exact h)⟩
set_option maxRecDepth 100000 in
theorem lifted (os : Os) (started : os.Started) (H : Type) (enc : TypeId × Value → H) :
    ReturnsInHanded {} Try.checked os 6 .any (Rows.headerBlocksSpec.pre6 enc Try.prog Try.f6 Rows.headerBlocksRow.domain false) (Rows.headerBlocksSpec.post enc Try.prog Try.f6 false true false false) := by
  refine returnsInHanded_of_change (C := Try.checked) own started (by kernel_rfl) Try.func6
    (ChangeSpec.witness6 (enc := enc) (C := Try.checked) false ⟨#[], #[.slice none 0 0, .agg (ints .u8 (List.replicate 32 0)).toArray], []⟩ 8 (by kernel_rfl) (by kernel_rfl) (by kernel_rfl) (by kernel_rfl)) ?_
  intro W base args ds gs before hval0 hW hcnd _
  have hval : ∀ (j : Nat) t v, Try.f6.params[j]? = some t → args[j]? = some v → Value.okWide Try.prog W .any base t v := hval0
  have hW' := hW
  obtain ⟨p, q, hA0, hV, rfl, hfz, hnd⟩ := hW
  have hA : DataW.TrodAll enc Try.prog W 0 (fun _ => true) true Try.f6.params.toList args.toList ds p := hA0
  rw [Try.params6] at hA hval
  obtain ⟨v0, vs0, d0, ds0, p0, q0, hargs, rfl, rfl, h0, r0⟩ := trodAll_cons hA
  obtain ⟨v1, vs1, d1, ds1, p1, q1, rfl, rfl, rfl, h1, r1⟩ := trodAll_cons r0
  obtain ⟨rfl, rfl, rfl⟩ := trodAll_nil r1
  obtain rfl : args = #[v0, v1] := by cases args; simp_all
  obtain ⟨rfl, rfl⟩ := trodVars_none hV
  have k0 := h0
  have lt0 : ∀ x ∈ p0, x.block < W.heap.size := by obtain ⟨m, hm⟩ := k0; exact DataW.trod_lt m _ _ _ hm
  obtain ⟨a0, m0, c0, rfl⟩ := Go.WideShapes.okWide_slice Try.underlying42 (hval 0 42 v0 rfl rfl)
  obtain ⟨l0, rfl, S0, n0⟩ := open_u16s h0
  have k1 := h1
  have lt1 : ∀ x ∈ p1, x.block < W.heap.size := by obtain ⟨m, hm⟩ := k1; exact DataW.trod_lt m _ _ _ hm
  obtain ⟨cs1, hcs1, _, _⟩ : ∃ cs, v1 = .agg cs ∧ cs.size = Try.prog.cellsOf 44 ∧ Row.okWide Try.prog W .any base 44 cs := by
    have := hval 1 44 v1 rfl rfl
    simpa [Value.okWide, Try.underlying44] using this
  obtain ⟨l1, hl1, n1, o1⟩ := open_bys Try.underlying44 Try.underlying5 cells_u8 cells_h32 cs1 hcs1 h1
  clear hcs1
  subst hl1
  clear hA0 hval0
  simp only [List.append_nil] at hW'
  refine (walk l0 a0 c0 l1 n0 n1 o1 W S0).mono fun e W' ⟨he, bel⟩ => ?_
  subst he
  exact ⟨_, rfl, _, _, _, [], _, [], hW', trodAll_mk1 (shut_bool Try.underlying4 _), (trodAll_cons_mk (Below.trod laidOut (by kernel_rfl) (of_decide_eq_true (by kernel_rfl)) k0 bel lt0) (trodAll_cons_mk (Below.trod laidOut (by kernel_rfl) (of_decide_eq_true (by kernel_rfl)) k1 bel lt1) trodAll_mk0)), rfl, bel.frame _, fun h => by cases h⟩

theorem over : Rows.headerBlocksRow.holds Try.pinned (OpenSpec.ofChange Rows.headerBlocksSpec) :=
  OpenClaim.holds_of_wide 6 Try.f6 rfl rfl rfl rfl rfl rfl rfl ⟨rfl, rfl, rfl, rfl, rfl⟩ rfl rfl rfl rfl rfl (by kernel_rfl) Try.func6 (by kernel_rfl)
    (of_decide_eq_true (by kernel_rfl)) (by unfold Func.isWrapper; first | (rw [if_pos (by decide +kernel)]; kernel_rfl) | (rw [if_neg (by decide +kernel)]; exact ⟨rfl, rfl⟩))
    (fun os started H enc _ => lifted os started H enc)

theorem proved : Rows.HeaderBlocksSaid :=
  over
#print axioms proved
end Go.Proofs.Ytahfjfhiejhddaa.headerBlocks
