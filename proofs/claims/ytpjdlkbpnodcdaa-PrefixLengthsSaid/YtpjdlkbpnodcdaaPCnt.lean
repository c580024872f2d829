/- Walks of what counts words by their lengths: count, Kraft, all, firsts, areCode. -/
import Derived.Test.YtpjdlkbpnodcdaaPHas
import Derived.Test.YtpjdlkbpnodcdaaPNxN
namespace Go.Proofs.Ytpjdlkbpnodcdaa
open Go.RowKit
set_option linter.unusedVariables false

/-- the length of a word, or 0 -/
noncomputable def clN (x : Int) : Nat := if 1 ≤ x ∧ x ≤ 15 then x.toNat else 0
theorem clN_le (x : Int) : clN x ≤ 15 := by unfold clN; split <;> omega
noncomputable def clL (l : List Int) : List Nat := l.map clN
theorem clL_len (l : List Int) : (clL l).length = l.length := by simp [clL]
theorem clL_getD (l : List Int) (j : Nat) : (clL l).getD j 0 = clN (l.getD j 0) := by
  unfold clL
  rw [List.getD_eq_getElem?_getD, List.getD_eq_getElem?_getD, List.getElem?_map]
  cases l[j]? <;> rfl
theorem clL_le (l : List Int) (i : Nat) : (clL l).getD i 0 ≤ 15 := by rw [clL_getD]; exact clN_le _
theorem clL_nn {L : List Nat} (h : ∀ i, L.getD i 0 ≤ 15) : clL (nn L) = L := by
  refine getD_ext L.length (by rw [clL_len, nn_length]) rfl fun j hj => ?_
  rw [clL_getD, nn_getD]
  have := h j
  unfold clN
  split <;> omega
theorem alloc_cnts (w : World) : (Instr.alloc 65 true (.tuple #[])).run Try.prog w = .ok (.pointer (some ⟨w.heap.size, 0, none⟩)) (w.alloc (.cells (ints .i64 (nn (zerN 16))).toArray 65)) := by kernel_rfl
theorem size_cnts : (Try.prog.info? 65).map (·.size) = some 16 := by kernel_rfl
theorem ints16 {c : List Nat} (h : c.length = 16) : (Try.prog.info? 65).map (·.size) = some (ints .i64 (nn c)).length := by rw [size_cnts, ints_length, nn_length, h]
set_option maxRecDepth 100000 in
set_option maxHeartbeats 1000000 in
theorem p_count (l : List Int) (p : Option Addr) (cap : Nat) (w : World) (hl : l.length ≤ 1000000) (hS : Sl w 1 (.slice p l.length cap) (rowsI l)) :
    Calls Try.prog 33 #[.slice p l.length cap] w fun e w' => e = .returned (.agg (ints .i64 (nn (cntL (clL l)))).toArray) ∧ Below w.heap.size w w' := by
  have HS := Lib.hid hS
  have K0 := (Blk.new' w 65 (ints .i64 (nn (zerN 16))) rfl).alloc (.cells (ints .i64 (nn (zerN 16))).toArray 65)
  have K1 := Blk.new2 w (.cells (ints .i64 (nn (zerN 16))).toArray 65) 65 (ints .i64 (nn (zerN 16))) rfl
  have Kb := ((Below.refl w.heap.size w).alloc (Nat.le_refl _) (.cells (ints .i64 (nn (zerN 16))).toArray 65)).alloc (by simp) (.cells (ints .i64 (nn (zerN 16))).toArray 65)
  clear hS
  go_enter Try.func33, Try.ntmps33
  go_wp2_with (first | (refine wpList_alloc_n rfl 65 rfl w.heap.size rfl _ (alloc_cnts _) ?_) | (refine wpList_alloc_n rfl 65 rfl (w.heap.size + 1) (by simp) _ (alloc_cnts _) ?_))
  generalize World.alloc (World.alloc w _) _ = w2 at *
  have K0 := Lib.hid K0
  have K1 := Lib.hid K1
  have Kb := Lib.hid Kb
  go_wp2_with fail
  go_loopw [8] (fun i wr => ∃ j : Nat, j ≤ l.length ∧ i = .int .i64 (j : Int) ∧ Blk wr (w.heap.size + 1) 65 (ints .i64 (nn (cntL ((clL l).take j)))) ∧ Blk wr w.heap.size 65 (ints .i64 (nn (zerN 16))) ∧ Below w.heap.size w wr) (fun i _ => l.length - (intOf i).toNat)
  case atStart => exact ⟨0, by omega, rfl, by rw [List.take_zero, cntL_nil]; exact K1.out, K0.out, Kb.out⟩
  case round =>
    obtain ⟨j, hj, rfl, gB, gA, gb⟩ := hrel
    clear K0 K1 Kb
    by_cases hlt : j < l.length
    · have d1 : (j : Int) < (l.length : Int) := by omega
      obtain ⟨a, rfl, hc⟩ := SlI.cell (HS.out.below gb) hlt
      have hst := cntL_step (clL l) j (by rw [clL_len]; exact hlt) (clL_le l j)
      rw [clL_getD] at hst
      have hle := cntN_le ((clL l).take j)
      have hlen := cntL_len ((clL l).take j)
      have htl : ((clL l).take j).length ≤ 1000000 := by rw [List.length_take, clL_len]; omega
      obtain ⟨x, hx⟩ : ∃ x, l.getD j 0 = x := ⟨_, rfl⟩
      rw [hx] at hc hst
      by_cases h0 : x = 0
      · subst h0
        have hz : clN 0 = 0 := by unfold clN; rw [if_neg (by omega)]
        rw [hz, if_pos rfl] at hst
        rw [← hst] at gB
        have e1 : ((0 : Int) != 0) = false := rfl
        clear hst hx hz hle hlen htl
        go_wp2
        go_roundw
        case rel => exact ⟨j + 1, by omega, by go_num, gB, gA, gb⟩
        case measure => (simp [intOf]; try omega)
      · have e1 : (x != 0) = true := by rw [bne_iff_ne]; exact h0
        by_cases hv : NoLen x
        · have hz : clN x = 0 := by unfold NoLen at hv; unfold clN; rw [if_neg (by omega)]
          rw [hz, if_pos rfl] at hst
          rw [← hst] at gB
          have hC := p_noLen x true wr (.inl ⟨rfl, hv⟩)
          have HC := Lib.hid hC
          clear hst hx hz hle hlen htl hC hv h0
          go_wp2_with fail
          (with_reducible refine HC.out.mono ?_)
          rintro e w9 ⟨rfl, rfl⟩
          go_wp2
          go_roundw
          case rel => exact ⟨j + 1, by omega, by go_num, gB, gA, gb⟩
          case measure => (simp [intOf]; try omega)
        · have hC := p_noLen x false wr (.inr ⟨rfl, hv⟩)
          have HC := Lib.hid hC
          have hx1 : 1 ≤ x ∧ x ≤ 15 := by unfold NoLen at hv; omega
          obtain ⟨k, rfl⟩ : ∃ k : Nat, x = (k : Int) := ⟨x.toNat, by omega⟩
          have hz : clN (k : Int) = k := by unfold clN; rw [if_pos hx1]; omega
          rw [hz, if_neg (by omega)] at hst
          have hck := hle k
          rw [← cntL_getD (L := (clL l).take j) (n := k) (by omega)] at hck
          have c1 := gB.nat (j := k) (by rw [hlen]; omega)
          have f1 := gB.free k
          obtain ⟨c, hcc⟩ : ∃ c, (cntL ((clL l).take j)).getD k 0 = c := ⟨_, rfl⟩
          rw [hcc] at hck c1 hst
          have i1 : (k : Int) < 16 := by omega
          have i2 : (c : Int) ≤ 1000000 := by omega
          have T := gB.setNat k (c + 1)
          rw [← hst] at T
          have ec : ((c + 1 : Nat) : Int) = (c : Int) + 1 := by simp
          rw [ec] at T
          have T := Lib.hid T
          have GA := gA.other (a := ⟨w.heap.size + 1, k, none⟩) (by simp) (.int .i64 ((c : Int) + 1))
          have GB := gb.setCell (p := ⟨w.heap.size + 1, k, none⟩) (show w.heap.size ≤ w.heap.size + 1 by omega) (.int .i64 ((c : Int) + 1))
          have GA := Lib.hid GA
          have GB := Lib.hid GB
          clear hst hx hz hle hlen htl hC hv h0 gB gA gb hcc ec hck
          go_wp2_with fail
          (with_reducible refine HC.out.mono ?_)
          rintro e w9 ⟨rfl, rfl⟩
          go_wp2
          go_roundw
          case rel => exact ⟨j + 1, by omega, by go_num, T.out, GA.out, GB.out⟩
          case measure => (simp [intOf]; try omega)
    · obtain rfl : j = l.length := by omega
      have hall : (clL l).take l.length = clL l := List.take_of_length_le (by rw [clL_len]; exact Nat.le_refl _)
      rw [hall] at gB
      have hlen := cntL_len (clL l)
      obtain ⟨c, hc⟩ : ∃ c, cntL (clL l) = c := ⟨_, rfl⟩
      have HCC := Lib.hid hc
      rw [hc] at gB hlen
      have T := gA.row (ints .i64 (nn c)) (by rw [ints_length, ints_length, nn_length, nn_length, hlen, zerN_len])
      have GB := below_setRow gb (b := w.heap.size) (Nat.le_refl _) (ints .i64 (nn c)).toArray
      have T := Lib.hid T
      have GB := Lib.hid GB
      have HL := Lib.hid hlen
      clear hall hc hlen
      go_wp2_with (first | (refine wpList_load_blk rfl 65 _ rfl (w.heap.size + 1) rfl gB Try.underlying65 rfl (ints16 HL.out) ?_) | (refine wpList_store_blk rfl 65 _ _ rfl w.heap.size (ints .i64 (nn c)) rfl rfl gA (ints16 HL.out) (by rw [ints_length, ints_length, nn_length, nn_length, HL.out, zerN_len]) (ints_one _ _) ?_))
      refine bodyPost_ret (results_cell_blk rfl _ _ w.heap.size rfl T.out Try.underlying65 rfl (ints16 HL.out)) rfl ⟨by rw [HCC.out], GB.out⟩
theorem sumW_bound {g : Nat → Nat} {p : Nat → Bool} {B : Nat} (h : ∀ j, g j ≤ B) : ∀ m, sumW g p m ≤ m * B
  | 0 => by simp [sumW]
  | m + 1 => by
    have := sumW_bound (g := g) (p := p) h m
    have := h m
    rw [sumW, Nat.add_mul]
    split <;> omega
theorem wgtL_le (L : List Nat) (j : Nat) : wgtL L j ≤ 16384 := by
  unfold wgtL wgt
  split
  · omega
  · have : 2 ^ (15 - L.getD j 0) ≤ 2 ^ 14 := Nat.pow_le_pow_right (by decide) (by omega)
    omega
theorem posW_bound (L : List Nat) (n i : Nat) : posW L n i ≤ L.length * 16384 := sumW_bound (wgtL_le L) _
theorem index_cnts {c : List Nat} (hc : c.length = 16) (j : Nat) (hj : j < 16) (w : World) : (Instr.index 65 (.agg (ints .i64 (nn c)).toArray) (.int .i64 (j : Int))).run Try.prog w = .ok (.int .i64 ((c.getD j 0 : Nat) : Int)) w := by
  have := run_index_ints (P := Try.prog) 65 3 16 .i64 .i64 (nn c) j Try.underlying65 ⟨_, Try.underlying3, rfl⟩ (by kernel_rfl) (by rw [nn_length, hc]) hj w
  rw [nn_getD] at this
  exact this
set_option maxRecDepth 100000 in
set_option maxHeartbeats 1000000 in
theorem p_Kraft (l : List Int) (p : Option Addr) (cap : Nat) (w : World) (hl : l.length ≤ 310) (hS : Sl w 1 (.slice p l.length cap) (rowsI l)) :
    Calls Try.prog 16 #[.slice p l.length cap] w fun e w' => e = .returned (.int .i64 ((kraftW (clL l) : Nat) : Int)) ∧ Below w.heap.size w w' := by
  have hC := p_count l p cap w (by omega) hS
  have hk := posW_all (clL_le l)
  have hst := posW_cnt (clL l)
  have hbd := fun n => posW_bound (clL l) n 0
  rw [clL_len] at hbd
  have hcl := fun j => cntN_le (clL l) j
  rw [clL_len] at hcl
  have hix := fun (j : Nat) (hj : j < 16) (w : World) => index_cnts (cntL_len (clL l)) j hj w
  have hg := fun (j : Nat) (hj : j < 16) => cntL_getD (L := clL l) hj
  have HK := Lib.hid hk
  have HST := Lib.hid hst
  have HBD := Lib.hid hbd
  have HCL := Lib.hid hcl
  have HIX := Lib.hid hix
  have HG := Lib.hid hg
  have HC := Lib.hid hC
  clear hC hk hst hbd hcl hix hg hS
  go_enter Try.func16, Try.ntmps16
  go_wp2_with fail
  (with_reducible refine HC.out.mono ?_)
  rintro e w1 ⟨rfl, hb1⟩
  clear HC
  generalize hcc : cntL (clL l) = c at *
  have HCC := Lib.hid hcc
  clear hcc
  go_wp2_with fail
  go_loop [3, 8] (fun u i => ∃ j : Nat, j ≤ 16 ∧ i = .int .i64 (j : Int) ∧ u = .int .i64 ((posW (clL l) j 0 : Nat) : Int)) (fun _ i => 16 - (intOf i).toNat)
  case atStart => exact ⟨0, by omega, rfl, by rw [posW_zero]; rfl⟩
  case round =>
    obtain ⟨j, hj, rfl, rfl⟩ := hrel
    by_cases hlt : j < 16
    · have d1 : (j : Int) < 16 := by omega
      have hx := HIX.out j hlt
      have hgj := HG.out j hlt
      have hs := HST.out j
      have b1 := HBD.out j
      have b2 := HBD.out (j + 1)
      have b3 := HCL.out j
      rw [hgj] at hx
      generalize hp0 : posW (clL l) j 0 = s0 at *
      generalize hp1 : posW (clL l) (j + 1) 0 = s1 at *
      have HP1 := Lib.hid hp1
      obtain ⟨k, hk⟩ : ∃ k, 15 - j = k := ⟨_, rfl⟩
      rw [hk] at hs
      obtain ⟨y, hy⟩ : ∃ y, cntN (clL l) j = y := ⟨_, rfl⟩
      rw [hy] at hx hs b3
      obtain ⟨sh, hsh⟩ : ∃ sh, y * 2 ^ k = sh := ⟨_, rfl⟩
      rw [hsh] at hs
      have e1 : (15 : Int) - (j : Int) = (k : Int) := by omega
      have i2 : (k : Int).toNat = k := by omega
      have i3 : (0 : Int) ≤ (k : Int) := by omega
      have i4 : (k : Int) ≤ 15 := by omega
      have hs1 : (y : Int) * 2 ^ k = (sh : Int) := by rw [← hsh]; simp
      have hs2 : IntKind.i64.wrap (sh : Int) = (sh : Int) := IntWalk.i64_in _ (by omega)
      have i5 : (s0 : Int) ≤ 6000000 := by omega
      have i6 : (sh : Int) ≤ 6000000 := by omega
      have HS := Lib.hid hs
      clear hs hsh hk hp0 hp1 hgj b1 b2 b3 hy
      go_wp2
      go_round
      case rel => exact ⟨j + 1, by omega, by go_num, by rw [HP1.out, HS.out]; first | rfl | go_num⟩
      case measure => (simp [intOf]; try omega)
    · obtain rfl : j = 16 := by omega
      rw [HK.out]
      go_wp2
      go_ret
      exact ⟨rfl, hb1⟩
set_option maxRecDepth 100000 in
set_option maxHeartbeats 1000000 in
theorem p_all (L : List Nat) (w : World) (hl : L.length ≤ 310) (h15 : ∀ i, L.getD i 0 ≤ 15) :
    Calls Try.prog 38 #[.agg (ints .i64 (nn (cntL L))).toArray] w fun e w' => e = .returned (.int .i64 ((lgN L 1 : Nat) : Int)) ∧ Below w.heap.size w w' := by
  have hk := allK_all h15
  have hbd := fun n => allK_le L n
  have hcl := fun j => cntN_le L j
  have hlen := cntL_len L
  have hix := fun (j : Nat) (hj : j < 16) (w : World) => index_cnts (cntL_len L) j hj w
  have hg := fun (j : Nat) (hj : j < 16) => cntL_getD (L := L) hj
  have K0 := Blk.new' w 65 (ints .i64 (nn (cntL L))) rfl
  have Kb := (Below.refl w.heap.size w).alloc (Nat.le_refl _) (.cells (ints .i64 (nn (cntL L))).toArray 65)
  have HK := Lib.hid hk
  have HBD := Lib.hid hbd
  have HCL := Lib.hid hcl
  have HIX := Lib.hid hix
  have HG := Lib.hid hg
  have HLEN := Lib.hid hlen
  have K0 := Lib.hid K0
  have Kb := Lib.hid Kb
  clear hk hbd hcl hix hg hlen
  generalize hcc : cntL L = c at *
  have HCC := Lib.hid hcc
  clear hcc
  go_enter Try.func38, Try.ntmps38
  go_wp2_with (refine wpList_load_blk rfl 65 _ rfl w.heap.size rfl K0.out Try.underlying65 rfl (ints16 HLEN.out) ?_)
  generalize World.alloc w _ = w1 at *
  go_wp2_with fail
  go_loop [3, 7] (fun u i => ∃ j : Nat, j ≤ 16 ∧ i = .int .i64 (j : Int) ∧ u = .int .i64 ((allK L j : Nat) : Int)) (fun _ i => 16 - (intOf i).toNat)
  case atStart => exact ⟨0, by omega, rfl, rfl⟩
  case round =>
    obtain ⟨j, hj, rfl, rfl⟩ := hrel
    by_cases hlt : j < 16
    · have d1 : (j : Int) < 16 := by omega
      have hx := HIX.out j hlt
      have hgj := HG.out j hlt
      have b1 := HBD.out j
      have b3 := HCL.out j
      rw [hgj] at hx
      have hs : allK L (j + 1) = allK L j + cntN L j := rfl
      generalize hp0 : allK L j = s0 at *
      generalize hp1 : allK L (j + 1) = s1 at *
      have HP1 := Lib.hid hp1
      obtain ⟨y, hy⟩ : ∃ y, cntN L j = y := ⟨_, rfl⟩
      rw [hy] at hx hs b3
      have i5 : (s0 : Int) ≤ 6000000 := by omega
      have i6 : (y : Int) ≤ 6000000 := by omega
      have HS := Lib.hid hs
      clear hs hp0 hp1 hgj b1 b3 hy
      go_wp2
      go_round
      case rel => exact ⟨j + 1, by omega, by go_num, by rw [HP1.out, HS.out]; first | rfl | go_num⟩
      case measure => (simp [intOf]; try omega)
    · obtain rfl : j = 16 := by omega
      rw [HK.out]
      go_wp2
      go_ret
      exact ⟨rfl, Kb.out⟩
/-- the first words of the lengths below k -/
def fstP (L : List Nat) (k : Nat) : List Nat := (List.range 16).map fun n => if n < k then fstN L n else 0
theorem fstP_len (L : List Nat) (k : Nat) : (fstP L k).length = 16 := by simp [fstP]
theorem fstP_getD {L : List Nat} {k n : Nat} (h : n < 16) : (fstP L k).getD n 0 = if n < k then fstN L n else 0 := map_range_getD _ _ _ h
theorem fstP_one (L : List Nat) : fstP L 1 = zerN 16 := by
  refine getD_ext 16 (fstP_len _ _) (zerN_len _) fun n hn => ?_
  rw [fstP_getD hn, zerN_getD]
  split
  · rw [show n = 0 by omega, fstN_zero]
  · rfl
theorem fstP_step (L : List Nat) (k : Nat) (h : k < 16) : (fstP L k).set k (fstN L k) = fstP L (k + 1) := by
  refine getD_ext 16 (by rw [List.length_set, fstP_len]) (fstP_len _ _) fun n hn => ?_
  rw [getD_set _ _ _ _ (by rw [fstP_len]; exact h), fstP_getD hn, fstP_getD hn]
  by_cases e : k = n
  · subst e; rw [if_pos rfl, if_pos (by omega)]
  · rw [if_neg e]
    by_cases h' : n < k
    · rw [if_pos h', if_pos (by omega)]
    · rw [if_neg h', if_neg (by omega)]
theorem fstP_all (L : List Nat) : fstP L 16 = fstL L := by
  refine getD_ext 16 (fstP_len _ _) (fstL_len _) fun n hn => ?_
  rw [fstP_getD hn, fstL_getD hn, if_pos hn]
set_option maxRecDepth 100000 in
set_option maxHeartbeats 2000000 in
theorem p_firsts (L : List Nat) (w : World) (hl : L.length ≤ 310) :
    Calls Try.prog 34 #[.agg (ints .i64 (nn (cntL L))).toArray] w fun e w' => e = .returned (.agg (ints .i64 (nn (fstL L))).toArray) ∧ Below w.heap.size w w' := by
  have hlen := cntL_len L
  have hg := fun (j : Nat) (hj : j < 16) => cntL_getD (L := L) hj
  obtain ⟨w1, hw1⟩ : ∃ w1, ((w.alloc (.cells (ints .i64 (nn (cntL L))).toArray 65)).alloc (.cells (ints .i64 (nn (zerN 16))).toArray 65)).alloc (.cells (ints .i64 (nn (zerN 16))).toArray 65) = w1 := ⟨_, rfl⟩
  have K0 : Blk w1 w.heap.size 65 (ints .i64 (nn (cntL L))) := by rw [← hw1]; exact ((Blk.new' w 65 (ints .i64 (nn (cntL L))) rfl).alloc _).alloc _
  have K1 : Blk w1 (w.heap.size + 1) 65 (ints .i64 (nn (zerN 16))) := by rw [← hw1]; exact (Blk.new2 w _ 65 (ints .i64 (nn (zerN 16))) rfl).alloc _
  have K2 : Blk w1 (w.heap.size + 1 + 1) 65 (ints .i64 (nn (zerN 16))) := by rw [← hw1]; exact Blk.newAt _ _ (by simp) 65 (ints .i64 (nn (zerN 16))) rfl
  have Kb : Below w.heap.size w w1 := by rw [← hw1]; exact (((Below.refl w.heap.size w).alloc (Nat.le_refl _) _).alloc (by simp) _).alloc (by simp; omega) _
  have hst := fun (n : Nat) (h : n < 15) => fstN_step L h
  have hcl := fun j => cntN_le L j
  have hfl := fun (n : Nat) (h : n ≤ 15) => fstN_le L h
  have HLEN := Lib.hid hlen
  have HG := Lib.hid hg
  have HST := Lib.hid hst
  have HCL := Lib.hid hcl
  have HFL := Lib.hid hfl
  have HK0 := Lib.hid K0
  have HK1 := Lib.hid K1
  have HK2 := Lib.hid K2
  have HKb := Lib.hid Kb
  have HW1 := Lib.hid hw1
  generalize hcc : cntL L = c at *
  have HCC := Lib.hid hcc
  have z1 : (w.alloc (.cells (ints .i64 (nn c)).toArray 65)).heap.size = w.heap.size + 1 := by simp
  have z2 : ((w.alloc (.cells (ints .i64 (nn c)).toArray 65)).alloc (.cells (ints .i64 (nn (zerN 16))).toArray 65)).heap.size = w.heap.size + 1 + 1 := by simp
  have Z1 := Lib.hid z1
  have Z2 := Lib.hid z2
  clear z1 z2
  clear hlen hg hst hcl hfl K0 K1 K2 Kb hcc
  go_enter Try.func34, Try.ntmps34
  go_wp2_with (first | (refine wpList_alloc_n rfl 65 rfl (w.heap.size + 1) Z1.out _ (alloc_cnts _) ?_) | (refine wpList_alloc_n rfl 65 rfl (w.heap.size + 1 + 1) Z2.out _ (alloc_cnts _) ?_))
  first | rw [hw1] | skip
  clear hw1 HW1 Z1 Z2
  go_wp2_with fail
  go_loopw [4] (fun i wr => ∃ j : Nat, 1 ≤ j ∧ j ≤ 16 ∧ i = .int .i64 (j : Int) ∧ Blk wr (w.heap.size + 1 + 1) 65 (ints .i64 (nn (fstP L j))) ∧ Blk wr (w.heap.size + 1) 65 (ints .i64 (nn (zerN 16))) ∧ Blk wr w.heap.size 65 (ints .i64 (nn c)) ∧ Below w.heap.size w wr) (fun i _ => 16 - (intOf i).toNat)
  case atStart => exact ⟨1, by omega, by omega, rfl, by rw [fstP_one]; exact HK2.out, HK1.out, HK0.out, HKb.out⟩
  case round =>
    obtain ⟨j, hj1, hj, rfl, gF, gA, gC, gb⟩ := hrel
    clear HK0 HK1 HK2 HKb
    by_cases hlt : j < 16
    · obtain ⟨k, rfl⟩ : ∃ k, j = k + 1 := ⟨j - 1, by omega⟩
      have c1 := gF.nat (j := k) (by rw [fstP_len]; omega)
      rw [fstP_getD (by omega), if_pos (by omega)] at c1
      have c2 := gC.nat (j := k) (by rw [HLEN.out]; omega)
      rw [HG.out k (by omega)] at c2
      have c3 := gF.nat (j := k + 1) (by rw [fstP_len]; omega)
      have f3 := gF.free (k + 1)
      have hs := HST.out k (by omega)
      have b1 := HFL.out k (by omega)
      have b2 := HCL.out k
      have b3 : 2 ^ (k + 1) - 2 ≤ 32766 := by
        have : 2 ^ (k + 1) ≤ 2 ^ 15 := Nat.pow_le_pow_right (by decide) (by omega)
        omega
      have b4 := Nat.mul_le_mul hl b3
      have T := gF.setNat (k + 1) (fstN L (k + 1))
      rw [fstP_step L (k + 1) (by omega)] at T
      have GA := gA.other (a := ⟨w.heap.size + 1 + 1, k + 1, none⟩) (by simp) (.int .i64 ((fstN L (k + 1) : Nat) : Int))
      have GC := gC.other (a := ⟨w.heap.size + 1 + 1, k + 1, none⟩) (show w.heap.size + 1 + 1 ≠ w.heap.size by omega) (.int .i64 ((fstN L (k + 1) : Nat) : Int))
      have GB := gb.setCell (p := ⟨w.heap.size + 1 + 1, k + 1, none⟩) (show w.heap.size ≤ w.heap.size + 1 + 1 by omega) (.int .i64 ((fstN L (k + 1) : Nat) : Int))
      obtain ⟨x, hx⟩ : ∃ x, fstN L k = x := ⟨_, rfl⟩
      obtain ⟨y, hy⟩ : ∃ y, cntN L k = y := ⟨_, rfl⟩
      rw [hx] at c1 b1
      rw [hy] at c2 b2
      rw [hx, hy] at hs
      rw [hs] at T GA GC GB
      have hTQ : (((x + y) * 2 : Nat) : Int) = ((x : Int) + (y : Int)) * 2 := by simp
      rw [hTQ] at T GA GC GB
      have i1 : (x : Int) ≤ 12000000 := by have := Nat.le_trans b1 (Nat.le_trans b4 (show 310 * 32766 ≤ 12000000 by decide)); omega
      have i2 : (y : Int) ≤ 310 := by omega
      have ec : ((k + 1 : Nat) : Int) = (k : Int) + 1 := by simp
      obtain ⟨q, hq⟩ : ∃ q, k + 1 = q := ⟨_, rfl⟩
      have e1 : ((k : Int) + 1).toNat = q := by omega
      have i3 : (k : Int) + 1 < 16 := by omega
      have w1 : IntKind.i64.wrap ((k : Int) + 1) = (k : Int) + 1 := IntWalk.i64_in _ (by omega)
      have w2 : IntKind.i64.wrap (k : Int) = (k : Int) := IntWalk.i64_in _ (by omega)
      have w3 : IntKind.i64.wrap ((x : Int) + (y : Int)) = (x : Int) + (y : Int) := IntWalk.i64_in _ (by omega)
      have w4 : IntKind.i64.wrap (((x : Int) + (y : Int)) * 2) = ((x : Int) + (y : Int)) * 2 := IntWalk.i64_in _ (by omega)
      rw [ec]
      rw [hq] at c3 f3
      rw [hq] at T GA GC GB
      have T := Lib.hid T.drew
      have GA := Lib.hid GA.drew
      have GC := Lib.hid GC.drew
      have GB := Lib.hid GB.drew
      have HQ := Lib.hid hq
      clear hs b1 b2 b3 b4 hx hy gF gA gC gb ec hTQ hq
      go_wp2_with fail
      go_big_region
      all_goals go_wp2
      go_roundw
      case rel => exact ⟨q + 1, by omega, by omega, by rw [← HQ.out]; first | rfl | go_num | (congr 1; omega), T.out, GA.out, GC.out, GB.out⟩
      case measure => (simp [intOf]; try omega)
    · obtain rfl : j = 16 := by omega
      rw [fstP_all] at gF
      have hfl := fstL_len L
      obtain ⟨d, hd⟩ : ∃ d, fstL L = d := ⟨_, rfl⟩
      have HD := Lib.hid hd
      rw [hd] at gF hfl
      have T := gA.row (ints .i64 (nn d)) (by rw [ints_length, ints_length, nn_length, nn_length, hfl, zerN_len])
      have GB := below_setRow gb (b := w.heap.size + 1) (by omega) (ints .i64 (nn d)).toArray
      have T := Lib.hid T
      have GB := Lib.hid GB
      have HL := Lib.hid hfl
      clear hd hfl
      go_wp2_with (first | (refine wpList_load_blk rfl 65 _ rfl (w.heap.size + 1 + 1) rfl gF Try.underlying65 rfl (ints16 HL.out) ?_) | (refine wpList_store_blk rfl 65 _ _ rfl (w.heap.size + 1) (ints .i64 (nn d)) rfl rfl gA (ints16 HL.out) (by rw [ints_length, ints_length, nn_length, nn_length, HL.out, zerN_len]) (ints_one _ _) ?_))
      refine bodyPost_ret (results_cell_blk rfl _ _ (w.heap.size + 1) rfl T.out Try.underlying65 rfl (ints16 HL.out)) rfl ⟨by rw [HD.out], GB.out⟩
end Go.Proofs.Ytpjdlkbpnodcdaa
