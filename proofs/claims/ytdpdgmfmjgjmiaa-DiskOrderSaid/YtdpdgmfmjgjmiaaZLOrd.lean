/-
  For all texts, and every byte: of writes to one sector a crash keeps the first ones, and at most the beginning of the next one. More texts than the bound, longer ones, and none are answered by the case shown alone. No condition.
-/
import Derived.Test.YtdpdgmfmjgjmiaaRows
import Derived.Test.YtdpdgmfmjgjmiaaZBnd
import Derived.Test.YtdpdgmfmjgjmiaaDByt
import Derived.Test.YtdpdgmfmjgjmiaaZThe
import Derived.ShutString
import Derived.ChangeOld
namespace Go.Proofs.Ytdpdgmfmjgjmiaa.diskOrder
open Go.ChangeShapes Go.WideShapes Go.ChangeAt Go.RowKit
open Go.ChangeMaps (open_string shut_string)
set_option linter.unusedVariables false

/-- a text, filled up -/
def fulL (t : List Nat) : List Nat := sl (fullT (tx t))
theorem fulL_len (t : List Nat) : (fulL t).length = 32 := full_len _
/-- the disk behind the first j writes -/
def dkO (l : List (List Nat)) (j : Nat) : DiskM := ⟨[zerN 32], (l.take j).map fun t => (0, fulL t), false, -(j : Int)⟩
theorem dkO_new (l : List (List Nat)) : newD 1 = dkO l 0 := by unfold newD dkO; simp
theorem dkO_next {l : List (List Nat)} {j : Nat} (h : j < l.length) : writeD (dkO l j) 0 (fulL (l.getD j [])) = dkO l (j + 1) := by
  unfold writeD dkO
  simp only [DiskM.mk.injEq, true_and]
  refine ⟨?_, by omega⟩
  rw [List.take_succ_eq_append_getElem h, List.map_append, List.getD_eq_getElem?_getD, List.getElem?_eq_getElem h]
  rfl
theorem penO (l : List (List Nat)) (j : Nat) : penD (dkO l j).pen 0 = (l.take j).map fulL := by
  unfold dkO penD
  simp only [List.filterMap_map]
  induction l.take j with
  | nil => rfl
  | cons x xs ih => simp [ih]
theorem map_getL (l : List (List Nat)) {q : Nat} (h : q < l.length) : (l.map fulL).getD q [] = fulL (l.getD q []) := by
  rw [List.getD_eq_getElem?_getD, List.getElem?_map, List.getD_eq_getElem?_getD, List.getElem?_eq_getElem h]
  rfl
theorem getL_mem {l : List (List Nat)} {j : Nat} (h : j < l.length) : l.getD j [] ∈ l := by
  rw [List.getD_eq_getElem?_getD, List.getElem?_eq_getElem h]
  exact List.getElem_mem _
set_option maxHeartbeats 4000000 in
set_option maxRecDepth 100000 in
theorem walkK (K : DiskKit) (l : List (List Nat)) (p : Option Addr) (cap k : Nat) (hy : ∀ x ∈ l, Bys x) (hk : k < 256) (w : World) (hS : Sl w 1 (.slice p l.length cap) (rowsS l)) :
    Calls Try.prog 5 #[.slice p l.length cap, .int .u8 (k : Int)] w fun e w' => e = .returned (.bool true) ∧ Below w.heap.size w w' := by
  have HSh := Lib.hid (fun w => l13_shown K w)
  have HS := Lib.hid hS
  clear hS
  by_cases h1 : 40 < l.length
  · have g1 : (40 : Int) < (l.length : Int) := by omega
    have g1' : decide ((40 : Int) < (l.length : Int)) = true := by simpa using g1
    clear h1
    go_enter Try.func5, Try.ntmps5
    go_wp2_with (go_at_call 8; (with_reducible refine (HSh.out _).mono ?_); rintro e w1 ⟨rfl, hb1⟩)
    go_ret
    exact ⟨rfl, hb1⟩
  have g1 : ¬ (40 : Int) < (l.length : Int) := by omega
  have g1' : decide ((40 : Int) < (l.length : Int)) = false := by simpa using g1
  by_cases h2 : l.length = 0
  · have g2 : ((l.length : Int) == 0) = true := by rw [h2]; rfl
    clear h1 h2
    go_enter Try.func5, Try.ntmps5
    go_wp2_with (go_at_call 8; (with_reducible refine (HSh.out _).mono ?_); rintro e w1 ⟨rfl, hb1⟩)
    go_ret
    exact ⟨rfl, hb1⟩
  have g2 : ((l.length : Int) == 0) = false := by rw [beq_eq_false_iff_ne]; omega
  have l40 : l.length ≤ 40 := by omega
  have l1 : 1 ≤ l.length := by omega
  have L40 := Lib.hid l40
  have L1 := Lib.hid l1
  have HY := Lib.hid hy
  have HK8 := Lib.hid hk
  obtain ⟨n, hn⟩ : ∃ n, l.length = n := ⟨_, rfl⟩
  have HN := Lib.hid hn
  rw [hn] at g1 g1' g2 l40 l1 HS L40 L1 ⊢
  have NK : Hid (∀ j, DkN (dkO l j) (j + 1)) := Lib.hid fun j => ⟨⟨fun s hs => by
      unfold dkO at hs
      rw [List.mem_singleton.1 hs]; exact zerN_len _, fun q hq => by
      unfold dkO at hq
      obtain ⟨t, _, rfl⟩ := List.mem_map.1 hq
      exact ⟨fulL_len t, by unfold dkO; simp⟩⟩, by unfold dkO; simp, by unfold dkO; simp; omega, by unfold dkO; show -((j + 1 : Nat) : Int) ≤ -(j : Int); omega, fun s hs => by
      unfold dkO at hs
      rw [List.mem_singleton.1 hs]; exact zer_bys 32, fun q hq => by
      unfold dkO at hq
      obtain ⟨t, _, rfl⟩ := List.mem_map.1 hq
      exact sl_bys _⟩
  have HNEW := Lib.hid (fun (wx : World) (h : w.heap.size ≤ wx.heap.size) => K.new_yes 1 wx w.heap.size (by decide) (by decide) h)
  rw [dkO_new l] at HNEW
  have HWR : Hid (∀ (j : Nat) (wx : World) (D : Nat), j < n → K.Rep w.heap.size wx D (dkO l j) → w.heap.size ≤ wx.heap.size → Calls Try.prog 10 #[ptD D, .int .i64 0, .string (fullT (tx (l.getD j [])))] wx fun x w' => x = .returned (.int .i64 ((0 : Nat) : Int)) ∧ K.Rep w.heap.size w' D (dkO l (j + 1)) ∧ Below w.heap.size wx w') := Lib.hid fun j wx D hj h hw => by
    obtain ⟨e1, w1⟩ := wr_on (d := dkO l j) (i := 0) (s := fulL (l.getD j [])) (by unfold dkO; simp) (fulL_len _) rfl
    rw [dkO_next (by rw [hn]; exact hj)] at w1
    exact K.write h ((NK.out j).b (by omega)) hw 0 (by decide) _ (by rw [full_size]; decide) 0 _ (by rw [← sl_len]; exact e1) w1
  have HFU : Hid (∀ (j : Nat) (wx : World), (l.getD j []).length ≤ 100 → Calls Try.prog 11 #[.string (tx (l.getD j []))] wx fun e w' => e = .returned (.string (fullT (tx (l.getD j [])))) ∧ Below wx.heap.size wx w') := Lib.hid fun j wx h => l13_full _ wx (by rw [tx_size]; omega)
  clear hy hk h1 h2 hn
  go_enter Try.func5, Try.ntmps5
  go_wp2_with fail
  (with_reducible refine (HSh.out _).mono ?_)
  rintro e v0 ⟨rfl, c0⟩
  have B0 := Lib.hid c0
  clear c0
  go_wp2_with fail
  refine (HNEW.out v0 B0.out.size).mono ?_
  rintro e v1 ⟨D, rfl, r1, c1⟩
  have R1 := Lib.hid r1
  have B1 := Lib.hid (B0.out.trans (c1.mono B0.out.size))
  clear r1 c1
  unfold ptD
  go_wp2
  go_loopw [6] (fun i wr => ∃ j : Nat, j ≤ n ∧ i = .int .i64 (j : Int) ∧ (∀ q, q < j → (l.getD q []).length ≤ 100) ∧ K.Rep w.heap.size wr D (dkO l j) ∧ Below w.heap.size w wr) (fun i _ => n - (intOf i).toNat)
  case atStart => exact ⟨0, by omega, rfl, (fun q h => by omega), R1.out, B1.out⟩
  case round =>
    obtain ⟨j, hj, rfl, hq, hr, gb⟩ := hrel
    clear R1 B1
    have HQ := Lib.hid hq
    have RJ := Lib.hid hr
    have GB := Lib.hid gb
    clear hq hr gb
    by_cases hlt : j < n
    · obtain ⟨a, rfl, c1⟩ := SlS.cell (l := l) (j := j) (HS.out.below GB.out) (by rw [HN.out]; exact hlt)
      have d1 : (j : Int) < (n : Int) := by omega
      have hz := tx_size (l.getD j [])
      by_cases h100 : (l.getD j []).length ≤ 100
      · have d2 : ¬ (100 : Int) < ((tx (l.getD j [])).size : Int) := by omega
        have HF := Lib.hid (HFU.out j wr h100)
        have HW := Lib.hid (fun (wx : World) => HWR.out j wx D hlt)
        have HQN : Hid (∀ q, q < j + 1 → (l.getD q []).length ≤ 100) := Lib.hid fun q hq => by
          by_cases e : q = j
          · rw [e]; exact h100
          · exact HQ.out q (by omega)
        clear hz h100
        generalize fullT (tx (l.getD j [])) = F at *
        generalize tx (l.getD j []) = X at *
        go_wp2_with fail
        refine HF.out.mono ?_
        rintro e w2 ⟨rfl, hb2⟩
        have R2 := Lib.hid (K.keep RJ.out hb2)
        have B2 := Lib.hid (GB.out.trans (hb2.mono GB.out.size))
        clear hb2
        go_wp2_with fail
        refine (HW.out w2 R2.out B2.out.size).mono ?_
        rintro e w3 ⟨rfl, r3, hb3⟩
        have R3 := Lib.hid r3
        have B3 := Lib.hid (B2.out.trans hb3)
        clear r3 hb3
        go_wp2
        go_roundw
        case rel => exact ⟨j + 1, by omega, by go_num, HQN.out, R3.out, B3.out⟩
        case measure => simp [intOf]; omega
      · have d2 : (100 : Int) < ((tx (l.getD j [])).size : Int) := by omega
        clear hz h100
        generalize tx (l.getD j []) = X at *
        go_wp2_with fail
        (with_reducible refine (HSh.out _).mono ?_)
        rintro e w2 ⟨rfl, hb2⟩
        have B2 := Lib.hid (GB.out.trans (hb2.mono GB.out.size))
        clear hb2
        go_wp2
        go_ret
        exact ⟨rfl, B2.out⟩
    · obtain rfl : j = n := by omega
      have hln := HN.out
      have htk : l.take j = l := List.take_of_length_le (by omega)
      have hsec : (dkO l j).sec = [zerN 32] := rfl
      have hpen : penD (dkO l j).pen 0 = l.map fulL := by rw [penO, htk]
      -- what is read
      have hrd1 : rdE (dkO l j) (0 : Int) = (sl (fullT (tx (l.getD (j - 1) []))), 0) := by
        rw [show ((0 : Int)) = ((0 : Nat) : Int) from rfl, rd_on (by rw [hsec]; decide) rfl]
        unfold readD
        rw [hpen, hsec]
        unfold lastD
        rw [List.getLast?_eq_getElem?, List.length_map, hln, List.getElem?_map, List.getElem?_eq_getElem (by omega)]
        show (fulL _, 0) = _
        rw [List.getD_eq_getElem?_getD, List.getElem?_eq_getElem (by omega)]
        rfl
      have hlc : (crashD (dkO l j) [k]).sec.length = 1 := by rw [crash_len, hsec]; rfl
      have hcs : crashS (dkO l j) [k] 0 = tornS (zerN 32) (l.map fulL) k := by
        unfold crashS
        rw [if_neg (by rw [hpen]; intro e; have h9 := congrArg List.length e; rw [List.length_map, hln] at h9; have := L1.out; rw [List.length_nil] at h9; omega), hpen, hsec]
        rfl
      obtain ⟨q, hq⟩ : ∃ q, k / 4 % (j + 1) = q := ⟨_, rfl⟩
      have hqj : q ≤ j := by have := Nat.mod_lt (k / 4) (show 0 < j + 1 by omega); omega
      obtain ⟨m, hm⟩ : ∃ m, 8 * (k % 4) = m := ⟨_, rfl⟩
      have hm24 : m ≤ 24 := by omega
      obtain ⟨Z, hZ⟩ : ∃ Z, tx (zerN 32) = Z := ⟨_, rfl⟩
      have hFZ : fullT ⟨#[]⟩ = Z := by rw [← hZ]; unfold fullT; rfl
      have hZl : sl Z = zerN 32 := by rw [← hZ]; exact sl_tx (zer_bys 32)
      -- what was there ahead of the one that is torn
      obtain ⟨VV, hVV⟩ : ∃ VV, (if q = 0 then Z else fullT (tx (l.getD (q - 1) []))) = VV := ⟨_, rfl⟩
      have hVs : VV.size = 32 := by
        rw [← hVV]; split
        · rw [← hZ, tx_size, zerN_len]
        · exact full_size _
      have hwas : (if q = 0 then zerN 32 else (l.map fulL).getD (q - 1) []) = sl VV := by
        rw [← hVV]
        by_cases h0 : q = 0
        · rw [if_pos h0, if_pos h0, hZl]
        · rw [if_neg h0, if_neg h0, map_getL l (by omega)]; rfl
      have htorn : tornS (zerN 32) (l.map fulL) k = if q < j then fulL (l.getD q []) |>.take m |> (· ++ (sl VV).drop m) else sl VV := by
        unfold tornS
        simp only [List.length_map, hln, hq, hm, hwas]
        by_cases h : q < j
        · rw [if_pos h, if_pos h, map_getL l (by omega)]
        · rw [if_neg h, if_neg h]
      have n4 := dkn_crash (NK.out j) [k]
      have hsf : sfD (crashD (dkO l j) [k]) (0 : Int) = crashS (dkO l j) [k] 0 := by
        rw [show ((0 : Int)) = ((0 : Nat) : Int) from rfl, sf_in (by omega), crash_safe [k] (by rw [hsec]; decide)]
      have hrd2 : rdE (crashD (dkO l j) [k]) (0 : Int) = (crashS (dkO l j) [k] 0, 0) := by
        rw [show ((0 : Int)) = ((0 : Nat) : Int) from rfl, rd_on (by omega) (off_crash _ _), crash_read [k] (by rw [hsec]; decide)]
      rw [hcs, htorn] at hsf hrd2
      obtain ⟨d4, hd4⟩ : ∃ d4, crashD (dkO l j) [k] = d4 := ⟨_, rfl⟩
      rw [hd4] at hsf hrd2 n4
      have HC := Lib.hid (fun (wx : World) (y : Nat) (h : K.Rep w.heap.size wx D (dkO l j)) (hw : w.heap.size ≤ wx.heap.size) (hy : Blk wx y 5 [.int .u8 (k : Int)]) => K.crash h ((NK.out j).b (by have := L40.out; omega)) hw [k] (some ⟨y, 0, none⟩) 1 (by simp) (Bys.of fun x hx => by rw [List.mem_singleton.1 hx]; exact HK8.out) (sl_one hy) (fun _ a e => .inr ⟨_, by cases e; exact hy⟩) d4 hd4)
      have HR1 := Lib.hid (fun (wx : World) (h : K.Rep w.heap.size wx D (dkO l j)) (hw : w.heap.size ≤ wx.heap.size) => K.read_ h ((NK.out j).b (by have := L40.out; omega)) hw 0 (by decide) _ 0 hrd1)
      have HZF := Lib.hid (fun wx => l13_full ⟨#[]⟩ wx (by decide))
      rw [hFZ] at HZF
      have HFL := Lib.hid (fun wx => HFU.out (j - 1) wx (HQ.out (j - 1) (by have := L1.out; omega)))
      have CELL := Lib.hid (fun (x : Nat) (hx : x < j) (wx : World) (h : Below w.heap.size w wx) => SlS.cell (l := l) (j := x) (HS.out.below h) (by omega))
      have hqI : (k : Int) / 4 % ((j : Int) + 1) = (q : Int) := by rw [← hq]; simp
      have hmI : 8 * ((k : Int) % 4) = (m : Int) := by omega
      have HQI := Lib.hid hqI
      have HMI := Lib.hid hmI
      have k8 : (k : Int) < 256 := by have := HK8.out; omega
      have uk : IntKind.i64.wrap (k : Int) = (k : Int) := by rw [IntKind.wrap_i64]; omega
      have j40 : (j : Int) ≤ 40 := by have := L40.out; omega
      have j1 : (1 : Int) ≤ (j : Int) := by have := L1.out; omega
      obtain ⟨LF, hLF⟩ : ∃ LF, fullT (tx (l.getD (j - 1) [])) = LF := ⟨_, rfl⟩
      rw [hLF] at HR1 HFL
      have tL := txt_same LF
      have B4 := n4.b (by have := L40.out; omega)
      have HB4 := Lib.hid B4
      clear hrd1 hcs htorn hwas hlc hq hm hd4 n4 hLF hpen hsec htk hFZ hZl hln B4 hZ hqI hmI
      by_cases hq0 : q = 0
      · -- nothing kept whole
        rw [if_pos hq0] at hVV
        subst hVV
        have hqj1 : q < j := by have := L1.out; omega
        rw [if_pos hqj1] at hsf hrd2
        have m0 : ¬ (0 : Int) < (q : Int) := by omega
        have m1 : (q : Int) < (j : Int) := by omega
        obtain ⟨FN, hFN⟩ : ∃ FN, fullT (tx (l.getD q [])) = FN := ⟨_, rfl⟩
        have hFs : FN.size = 32 := by rw [← hFN]; exact full_size _
        have HFQ := Lib.hid (fun wx => HFU.out q wx (HQ.out q hqj1))
        rw [hFN] at HFQ
        obtain ⟨A, hA⟩ : ∃ A, FN.extract 0 m = A := ⟨_, rfl⟩
        obtain ⟨BX, hB⟩ : ∃ BX, Z.extract m Z.size = BX := ⟨_, rfl⟩
        have hAs : A.size ≤ 32 := by rw [← hA, ByteArray.size_extract]; omega
        have hBs : BX.size ≤ 32 := by rw [← hB, ByteArray.size_extract]; omega
        have hadd := fun w' => run_string_add_sum (P := Try.prog) w' A BX (by omega)
        have hX : (fulL (l.getD q []) |>.take m |> (· ++ (sl Z).drop m)) = sl (A ++ BX) := by
          show (sl (fullT (tx (l.getD q [])))).take m ++ (sl Z).drop m = _
          rw [hFN, ← hA, ← hB, head_tx, tail_tx, ← tx_app, sl_tx (((sl_bys FN).take _).app ((sl_bys Z).drop _))]
        rw [hX] at hsf hrd2
        have HSF := Lib.hid (fun (wx : World) (h : K.Rep w.heap.size wx D d4) (hw : w.heap.size ≤ wx.heap.size) => K.safe h HB4.out hw 0 (by decide) (A ++ BX) hsf)
        have HR2 := Lib.hid (fun (wx : World) (h : K.Rep w.heap.size wx D d4) (hw : w.heap.size ≤ wx.heap.size) => K.read_ h HB4.out hw 0 (by decide) (A ++ BX) 0 hrd2)
        have tX := txt_same (A ++ BX)
        have x1 : (m : Int) ≤ (FN.size : Int) := by omega
        have x2 : (m : Int) ≤ (Z.size : Int) := by omega
        have x3 : (0 : Int) ≤ (m : Int) := by omega
        have x4 : (m : Int) ≤ 24 := by omega
        have HCQ := Lib.hid (fun wx h => CELL.out q hqj1 wx h)
        obtain ⟨TQ, hTQ⟩ : ∃ TQ, tx (l.getD q []) = TQ := ⟨_, rfl⟩
        rw [hTQ] at HFQ HCQ
        have HA := Lib.hid hA
        have HBX := Lib.hid hB
        clear hsf hrd2 hVs hm24 hq0 hqj1 hFN hFs hAs hBs hX hTQ hA hB
        obtain ⟨aL, hpa, cL⟩ := CELL.out (j - 1) (by have := L1.out; omega) w (Below.refl _ _)
        have CL : Hid (∀ wx, Below w.heap.size w wx → wx.cell? (aL.add (j - 1)) = some (.string (tx (l.getD (j - 1) [])))) := Lib.hid fun wx h => by
          obtain ⟨a', e, h'⟩ := CELL.out (j - 1) (by have := L1.out; omega) wx h
          rw [hpa] at e
          cases e
          exact h'
        have jI : ((j : Int) - 1) = ((j - 1 : Nat) : Int) := by omega
        have JI := Lib.hid jI
        have jj : ((j - 1 : Nat) : Int) < (j : Int) := by omega
        obtain ⟨TL, hTL⟩ : ∃ TL, tx (l.getD (j - 1) []) = TL := ⟨_, rfl⟩
        rw [hTL] at HFL CL
        obtain ⟨y1, hj1⟩ : ∃ y1, j - 1 = y1 := ⟨_, rfl⟩
        rw [hj1] at jI JI jj CL
        clear cL hTL hj1 CELL
        subst hpa
        go_wp2_with fail
        refine (HR1.out wr RJ.out GB.out.size).mono ?_
        rintro e v2 ⟨rfl, r2, c2⟩
        have B2 := Lib.hid (GB.out.trans c2)
        have c3 := (Below.refl v2.heap.size v2).alloc (Nat.le_refl _) (.cells #[.int .u8 (k : Int)] 5)
        have R3 := Lib.hid (K.keep r2 c3)
        have B3 := Lib.hid (B2.out.trans (c3.mono B2.out.size))
        have HCC := Lib.hid (HC.out _ v2.heap.size R3.out B3.out.size (Blk.new' v2 5 [.int .u8 (k : Int)] rfl))
        clear r2 c2 c3
        go_wp2_with fail
        refine HCC.out.mono ?_
        rintro e v4 ⟨rfl, r4, c4⟩
        have R4 := Lib.hid r4
        have B4 := Lib.hid (B3.out.trans c4)
        clear r4 c4 HCC R3
        go_wp2_with fail
        refine (HR2.out v4 R4.out B4.out.size).mono ?_
        rintro e v5 ⟨rfl, r5, c5⟩
        have R5 := Lib.hid r5
        have B5 := Lib.hid (B4.out.trans c5)
        clear r5 c5
        go_wp2_with fail
        rw [HQI.out]
        refine (HZF.out _).mono ?_
        rintro e v6 ⟨rfl, c6⟩
        have R6 := Lib.hid (K.keep R5.out c6)
        have B6 := Lib.hid (B5.out.trans (c6.mono B5.out.size))
        clear c6
        go_wp2_with fail
        rw [HMI.out]
        have QN := Lib.hid (fun wx (h : NewBut v6 wx) => (HFQ.out wx).mono fun _ _ ⟨x1, x2⟩ => (⟨x1, h.trans (x2.mono h.size)⟩ : _ ∧ NewBut v6 _))
        have CQ : Hid (∀ wx, NewBut v6 wx → wx.cell? (aL.add q) = some (.string TQ)) := Lib.hid fun wx h => by
          obtain ⟨a', e, h'⟩ := HCQ.out wx (B6.out.trans (Below.mono h B6.out.size))
          cases e
          exact h'
        have hA := HA.out
        have hB := HBX.out
        refine region_quiet_tail (C := NewBut v6) 11 mixed (by kernel_rfl) (show Below _ _ _ from (Below.refl _ _).drew) ?_
        simp only [List.take_succ_cons, List.take_zero, List.drop_succ_cons, List.drop_zero]
        repeat (first | go_big_quiet_step (fail) | (refine wpQuiet_load_one rfl 9 _ rfl (aL.add q) rfl _ CQ.out Try.underlying9 rfl ?_) | (refine wpQuiet_step (fun K' hK' => ?_); go_simp; first | (refine hK' _ ?_; clear hK' K') | ((with_reducible refine ⟨_, fun wx hx => QN.out wx hx, hK' _ ?_⟩); clear hK' K') | (refine ⟨_, fun _ _ => rfl, hK' _ ?_⟩; clear hK' K')))
        refine wpQuiet_nil ?_
        intro v8 hb8
        have R8 := Lib.hid (K.keep R6.out (hb8 : Below v6.heap.size v6 v8))
        have B8 := Lib.hid (B6.out.trans (Below.mono hb8 B6.out.size))
        clear hb8 hA hB
        have cL8 := CL.out v8 B8.out
        go_wp2_with fail
        try rw [JI.out]
        refine (HFL.out _).mono ?_
        rintro e v9 ⟨rfl, c9⟩
        have R9 := Lib.hid (K.keep R8.out c9)
        have B9 := Lib.hid (B8.out.trans (c9.mono B8.out.size))
        clear c9
        go_wp2_with fail
        refine (HSF.out v9 R9.out B9.out.size).mono ?_
        rintro e v10 ⟨rfl, r10, c10⟩
        have B10 := Lib.hid (B9.out.trans c10)
        clear r10 c10
        go_wp2
        go_ret
        exact ⟨rfl, B10.out⟩
      · rw [if_neg hq0] at hVV
        have m0 : (0 : Int) < (q : Int) := by omega
        have HFV : Hid (∀ wx, Calls Try.prog 11 #[.string (tx (l.getD (q - 1) []))] wx fun e w' => e = .returned (.string VV) ∧ Below wx.heap.size wx w') := Lib.hid fun wx => by rw [← hVV]; exact HFU.out (q - 1) wx (HQ.out _ (by omega))
        have HCV := Lib.hid (fun wx h => CELL.out (q - 1) (by omega) wx h)
        have qI : ((q : Int) - 1) = ((q - 1 : Nat) : Int) := by omega
        have QI := Lib.hid qI
        have q1j : ((q - 1 : Nat) : Int) < (j : Int) := by omega
        obtain ⟨TV, hTV⟩ : ∃ TV, tx (l.getD (q - 1) []) = TV := ⟨_, rfl⟩
        rw [hTV] at HFV HCV
        obtain ⟨q1, hq1⟩ : ∃ q1, q - 1 = q1 := ⟨_, rfl⟩
        rw [hq1] at qI QI q1j HCV
        clear hTV hVV hq1
        by_cases hqj1 : q < j
        · rw [if_pos hqj1] at hsf hrd2
          have m1 : (q : Int) < (j : Int) := by omega
          obtain ⟨FN, hFN⟩ : ∃ FN, fullT (tx (l.getD q [])) = FN := ⟨_, rfl⟩
          have hFs : FN.size = 32 := by rw [← hFN]; exact full_size _
          have HFQ := Lib.hid (fun wx => HFU.out q wx (HQ.out q hqj1))
          rw [hFN] at HFQ
          obtain ⟨A, hA⟩ : ∃ A, FN.extract 0 m = A := ⟨_, rfl⟩
          obtain ⟨BX, hB⟩ : ∃ BX, VV.extract m VV.size = BX := ⟨_, rfl⟩
          have hAs : A.size ≤ 32 := by rw [← hA, ByteArray.size_extract]; omega
          have hBs : BX.size ≤ 32 := by rw [← hB, ByteArray.size_extract]; omega
          have hadd := fun w' => run_string_add_sum (P := Try.prog) w' A BX (by omega)
          have hX : (fulL (l.getD q []) |>.take m |> (· ++ (sl VV).drop m)) = sl (A ++ BX) := by
            show (sl (fullT (tx (l.getD q [])))).take m ++ (sl VV).drop m = _
            rw [hFN, ← hA, ← hB, head_tx, tail_tx, ← tx_app, sl_tx (((sl_bys FN).take _).app ((sl_bys VV).drop _))]
          rw [hX] at hsf hrd2
          have HSF := Lib.hid (fun (wx : World) (h : K.Rep w.heap.size wx D d4) (hw : w.heap.size ≤ wx.heap.size) => K.safe h HB4.out hw 0 (by decide) (A ++ BX) hsf)
          have HR2 := Lib.hid (fun (wx : World) (h : K.Rep w.heap.size wx D d4) (hw : w.heap.size ≤ wx.heap.size) => K.read_ h HB4.out hw 0 (by decide) (A ++ BX) 0 hrd2)
          have tX := txt_same (A ++ BX)
          have x1 : (m : Int) ≤ (FN.size : Int) := by omega
          have x2 : (m : Int) ≤ (VV.size : Int) := by omega
          have x3 : (0 : Int) ≤ (m : Int) := by omega
          have x4 : (m : Int) ≤ 24 := by omega
          have HCQ := Lib.hid (fun wx h => CELL.out q hqj1 wx h)
          obtain ⟨TQ, hTQ⟩ : ∃ TQ, tx (l.getD q []) = TQ := ⟨_, rfl⟩
          rw [hTQ] at HFQ HCQ
          have HA := Lib.hid hA
          have HBX := Lib.hid hB
          clear hsf hrd2 hVs hm24 hq0 hqj1 hFN hFs hAs hBs hX hTQ hA hB
          obtain ⟨aL, hpa, cL⟩ := CELL.out (j - 1) (by have := L1.out; omega) w (Below.refl _ _)
          have CL : Hid (∀ wx, Below w.heap.size w wx → wx.cell? (aL.add (j - 1)) = some (.string (tx (l.getD (j - 1) [])))) := Lib.hid fun wx h => by
            obtain ⟨a', e, h'⟩ := CELL.out (j - 1) (by have := L1.out; omega) wx h
            rw [hpa] at e
            cases e
            exact h'
          have jI : ((j : Int) - 1) = ((j - 1 : Nat) : Int) := by omega
          have JI := Lib.hid jI
          have jj : ((j - 1 : Nat) : Int) < (j : Int) := by omega
          obtain ⟨TL, hTL⟩ : ∃ TL, tx (l.getD (j - 1) []) = TL := ⟨_, rfl⟩
          rw [hTL] at HFL CL
          obtain ⟨y1, hj1⟩ : ∃ y1, j - 1 = y1 := ⟨_, rfl⟩
          rw [hj1] at jI JI jj CL
          clear cL hTL hj1 CELL
          subst hpa
          go_wp2_with fail
          refine (HR1.out wr RJ.out GB.out.size).mono ?_
          rintro e v2 ⟨rfl, r2, c2⟩
          have B2 := Lib.hid (GB.out.trans c2)
          have c3 := (Below.refl v2.heap.size v2).alloc (Nat.le_refl _) (.cells #[.int .u8 (k : Int)] 5)
          have R3 := Lib.hid (K.keep r2 c3)
          have B3 := Lib.hid (B2.out.trans (c3.mono B2.out.size))
          have HCC := Lib.hid (HC.out _ v2.heap.size R3.out B3.out.size (Blk.new' v2 5 [.int .u8 (k : Int)] rfl))
          clear r2 c2 c3
          go_wp2_with fail
          refine HCC.out.mono ?_
          rintro e v4 ⟨rfl, r4, c4⟩
          have R4 := Lib.hid r4
          have B4 := Lib.hid (B3.out.trans c4)
          clear r4 c4 HCC R3
          go_wp2_with fail
          refine (HR2.out v4 R4.out B4.out.size).mono ?_
          rintro e v5 ⟨rfl, r5, c5⟩
          have R5 := Lib.hid r5
          have B5 := Lib.hid (B4.out.trans c5)
          clear r5 c5
          go_wp2_with fail
          rw [HQI.out]
          refine (HZF.out _).mono ?_
          rintro e v6 ⟨rfl, c6⟩
          have R6 := Lib.hid (K.keep R5.out c6)
          have B6 := Lib.hid (B5.out.trans (c6.mono B5.out.size))
          clear c6
          obtain ⟨aV, hpv, cV⟩ := HCV.out v6 B6.out
          cases hpv
          have cV6 := cV
          clear cV
          go_wp2_with fail
          refine (HFV.out _).mono ?_
          rintro e v7 ⟨rfl, c7⟩
          have R7 := Lib.hid (K.keep R6.out c7)
          have B7 := Lib.hid (B6.out.trans (c7.mono B6.out.size))
          clear c7
          go_wp2_with fail
          rw [HMI.out]
          have QN := Lib.hid (fun wx (h : NewBut v7 wx) => (HFQ.out wx).mono fun _ _ ⟨x1, x2⟩ => (⟨x1, h.trans (x2.mono h.size)⟩ : _ ∧ NewBut v7 _))
          have CQ : Hid (∀ wx, NewBut v7 wx → wx.cell? (aL.add q) = some (.string TQ)) := Lib.hid fun wx h => by
            obtain ⟨a', e, h'⟩ := HCQ.out wx (B7.out.trans (Below.mono h B7.out.size))
            cases e
            exact h'
          have hA := HA.out
          have hB := HBX.out
          refine region_quiet_tail (C := NewBut v7) 11 mixed (by kernel_rfl) (show Below _ _ _ from (Below.refl _ _).drew) ?_
          simp only [List.take_succ_cons, List.take_zero, List.drop_succ_cons, List.drop_zero]
          repeat (first | go_big_quiet_step (fail) | (refine wpQuiet_load_one rfl 9 _ rfl (aL.add q) rfl _ CQ.out Try.underlying9 rfl ?_) | (refine wpQuiet_step (fun K' hK' => ?_); go_simp; first | (refine hK' _ ?_; clear hK' K') | ((with_reducible refine ⟨_, fun wx hx => QN.out wx hx, hK' _ ?_⟩); clear hK' K') | (refine ⟨_, fun _ _ => rfl, hK' _ ?_⟩; clear hK' K')))
          refine wpQuiet_nil ?_
          intro v8 hb8
          have R8 := Lib.hid (K.keep R7.out (hb8 : Below v7.heap.size v7 v8))
          have B8 := Lib.hid (B7.out.trans (Below.mono hb8 B7.out.size))
          clear hb8 hA hB
          have cL8 := CL.out v8 B8.out
          go_wp2_with fail
          try rw [JI.out]
          refine (HFL.out _).mono ?_
          rintro e v9 ⟨rfl, c9⟩
          have R9 := Lib.hid (K.keep R8.out c9)
          have B9 := Lib.hid (B8.out.trans (c9.mono B8.out.size))
          clear c9
          go_wp2_with fail
          refine (HSF.out v9 R9.out B9.out.size).mono ?_
          rintro e v10 ⟨rfl, r10, c10⟩
          have B10 := Lib.hid (B9.out.trans c10)
          clear r10 c10
          go_wp2
          go_ret
          exact ⟨rfl, B10.out⟩
        · rw [if_neg hqj1] at hsf hrd2
          have HSF := Lib.hid (fun (wx : World) (h : K.Rep w.heap.size wx D d4) (hw : w.heap.size ≤ wx.heap.size) => K.safe h HB4.out hw 0 (by decide) VV hsf)
          have HR2 := Lib.hid (fun (wx : World) (h : K.Rep w.heap.size wx D d4) (hw : w.heap.size ≤ wx.heap.size) => K.read_ h HB4.out hw 0 (by decide) VV 0 hrd2)
          have tX := txt_same VV
          have m1 : ¬ (q : Int) < (j : Int) := by omega
          clear hsf hrd2 hVs hm24 hq0 hqj1 HFU HWR HNEW
          obtain ⟨aL, hpa, cL⟩ := CELL.out (j - 1) (by have := L1.out; omega) w (Below.refl _ _)
          have CL : Hid (∀ wx, Below w.heap.size w wx → wx.cell? (aL.add (j - 1)) = some (.string (tx (l.getD (j - 1) [])))) := Lib.hid fun wx h => by
            obtain ⟨a', e, h'⟩ := CELL.out (j - 1) (by have := L1.out; omega) wx h
            rw [hpa] at e
            cases e
            exact h'
          have jI : ((j : Int) - 1) = ((j - 1 : Nat) : Int) := by omega
          have JI := Lib.hid jI
          have jj : ((j - 1 : Nat) : Int) < (j : Int) := by omega
          obtain ⟨TL, hTL⟩ : ∃ TL, tx (l.getD (j - 1) []) = TL := ⟨_, rfl⟩
          rw [hTL] at HFL CL
          obtain ⟨y1, hj1⟩ : ∃ y1, j - 1 = y1 := ⟨_, rfl⟩
          rw [hj1] at jI JI jj CL
          clear cL hTL hj1 CELL
          subst hpa
          go_wp2_with fail
          refine (HR1.out wr RJ.out GB.out.size).mono ?_
          rintro e v2 ⟨rfl, r2, c2⟩
          have B2 := Lib.hid (GB.out.trans c2)
          have c3 := (Below.refl v2.heap.size v2).alloc (Nat.le_refl _) (.cells #[.int .u8 (k : Int)] 5)
          have R3 := Lib.hid (K.keep r2 c3)
          have B3 := Lib.hid (B2.out.trans (c3.mono B2.out.size))
          have HCC := Lib.hid (HC.out _ v2.heap.size R3.out B3.out.size (Blk.new' v2 5 [.int .u8 (k : Int)] rfl))
          clear r2 c2 c3
          go_wp2_with fail
          refine HCC.out.mono ?_
          rintro e v4 ⟨rfl, r4, c4⟩
          have R4 := Lib.hid r4
          have B4 := Lib.hid (B3.out.trans c4)
          clear r4 c4 HCC R3
          go_wp2_with fail
          refine (HR2.out v4 R4.out B4.out.size).mono ?_
          rintro e v5 ⟨rfl, r5, c5⟩
          have R5 := Lib.hid r5
          have B5 := Lib.hid (B4.out.trans c5)
          clear r5 c5
          go_wp2_with fail
          rw [HQI.out]
          refine (HZF.out _).mono ?_
          rintro e v6 ⟨rfl, c6⟩
          have R6 := Lib.hid (K.keep R5.out c6)
          have B6 := Lib.hid (B5.out.trans (c6.mono B5.out.size))
          clear c6
          obtain ⟨aV, hpv, cV⟩ := HCV.out v6 B6.out
          cases hpv
          have cV6 := cV
          clear cV
          go_wp2_with fail
          refine (HFV.out _).mono ?_
          rintro e v7 ⟨rfl, c7⟩
          have R7 := Lib.hid (K.keep R6.out c7)
          have B7 := Lib.hid (B6.out.trans (c7.mono B6.out.size))
          clear c7
          have cL8 := CL.out v7 B7.out
          go_wp2_with fail
          try rw [JI.out]
          refine (HFL.out _).mono ?_
          rintro e v9 ⟨rfl, c9⟩
          have R9 := Lib.hid (K.keep R7.out c9)
          have B9 := Lib.hid (B7.out.trans (c9.mono B7.out.size))
          clear c9
          go_wp2_with fail
          refine (HSF.out v9 R9.out B9.out.size).mono ?_
          rintro e v10 ⟨rfl, r10, c10⟩
          have B10 := Lib.hid (B9.out.trans c10)
          clear r10 c10
          go_wp2
          go_ret
          exact ⟨rfl, B10.out⟩
theorem walk (l : List (List Nat)) (p : Option Addr) (cap : Nat) (k : Int) {Q : Prop} (hy : (∀ x ∈ l, Bys x) ∧ Q) (hk : (Lit.int .u8 k).wf = true) (w : World) (hS : Sl w 1 (.slice p l.length cap) (rowsS l)) :
    Calls Try.prog 5 #[.slice p l.length cap, .int .u8 k] w fun e w' => e = .returned (.bool true) ∧ Below w.heap.size w w' := by
  obtain ⟨h0, h1⟩ := wf_u8 k hk
  obtain ⟨m, rfl⟩ : ∃ m : Nat, k = (m : Int) := ⟨k.toNat, by omega⟩
  exact walkK theKit l p cap m hy.1 (by omega) w hS
set_option maxRecDepth 100000 in
theorem lifted (os : Os) (started : os.Started) (H : Type) (enc : TypeId × Value → H) :
    ReturnsInHanded {} Try.checked os 5 .any (Rows.diskOrderSpec.pre6 enc Try.prog Try.f5 Rows.diskOrderRow.domain false) (Rows.diskOrderSpec.post enc Try.prog Try.f5 false true false false) := by
  refine returnsInHanded_of_change (C := Try.checked) own started (by kernel_rfl) Try.func5
    (ChangeSpec.witness6 (enc := enc) (C := Try.checked) false ⟨#[], #[.slice none 0 0, .int .u8 0], []⟩ 8 (by kernel_rfl) (by kernel_rfl) (by kernel_rfl) (by kernel_rfl)) ?_
  intro W base args ds gs before hval0 hW hcnd _
  have hval : ∀ (j : Nat) t v, Try.f5.params[j]? = some t → args[j]? = some v → Value.okWide Try.prog W .any base t v := hval0
  have hW' := hW
  obtain ⟨p, q, hA0, hV, rfl, hfz, hnd⟩ := hW
  have hA : DataW.TrodAll enc Try.prog W 0 (fun _ => true) true Try.f5.params.toList args.toList ds p := hA0
  rw [Try.params5] at hA hval
  obtain ⟨v0, vs0, d0, ds0, p0, q0, hargs, rfl, rfl, h0, r0⟩ := trodAll_cons hA
  obtain ⟨v1, vs1, d1, ds1, p1, q1, rfl, rfl, rfl, h1, r1⟩ := trodAll_cons r0
  obtain ⟨rfl, rfl, rfl⟩ := trodAll_nil r1
  obtain rfl : args = #[v0, v1] := by cases args; simp_all
  obtain ⟨rfl, rfl⟩ := trodVars_none hV
  have k0 := h0
  have lt0 : ∀ x ∈ p0, x.block < W.heap.size := by obtain ⟨m, hm⟩ := k0; exact DataW.trod_lt m _ _ _ hm
  obtain ⟨a0, m0, c0, rfl⟩ := Go.WideShapes.okWide_slice Try.underlying41 (hval 0 41 v0 rfl rfl)
  obtain ⟨l0, rfl, S0, n0⟩ := open_texts h0
  obtain ⟨l1, rfl, rfl, rfl, n1⟩ := open_int Try.underlying5 (hval 1 5 v1 rfl rfl) h1
  clear hA0 hval0
  simp only [List.append_nil] at hW'
  refine (walk l0 a0 c0 l1 n0 n1 W S0).mono fun e W' ⟨he, bel⟩ => ?_
  subst he
  exact ⟨_, rfl, _, _, _, [], _, [], hW', trodAll_mk1 (shut_bool Try.underlying4 _), (trodAll_cons_mk (Below.trod laidOut (by kernel_rfl) (of_decide_eq_true (by kernel_rfl)) k0 bel lt0) (trodAll_cons_mk (shut_int Try.underlying5 n1) trodAll_mk0)), rfl, bel.frame _, fun h => by cases h⟩

theorem over : Rows.diskOrderRow.holds Try.pinned (OpenSpec.ofChange Rows.diskOrderSpec) :=
  OpenClaim.holds_of_wide 5 Try.f5 rfl rfl rfl rfl rfl rfl rfl ⟨rfl, rfl, rfl, rfl, rfl⟩ rfl rfl rfl rfl rfl (by kernel_rfl) Try.func5 (by kernel_rfl)
    (of_decide_eq_true (by kernel_rfl)) (by unfold Func.isWrapper; first | (rw [if_pos (by decide +kernel)]; kernel_rfl) | (rw [if_neg (by decide +kernel)]; exact ⟨rfl, rfl⟩))
    (fun os started H enc _ => lifted os started H enc)

theorem proved : Rows.DiskOrderSaid :=
  over
#print axioms proved
end Go.Proofs.Ytdpdgmfmjgjmiaa.diskOrder
