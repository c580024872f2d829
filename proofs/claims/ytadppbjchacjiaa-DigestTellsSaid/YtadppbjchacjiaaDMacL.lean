/- Walk of the reference's Mac, by a key that is longer than a block. -/
import Derived.Test.YtadppbjchacjiaaDMacR
namespace Go.Proofs.Ytadppbjchacjiaa
open Go.RowKit
set_option linter.unusedVariables false

set_option maxHeartbeats 2000000 in
set_option maxRecDepth 100000 in
theorem r_Mac_long (key0 s : ByteArray) (w : World) (hk0 : 64 < key0.size) (hk1 : key0.size ≤ 549755813888) (hs : s.size ≤ 549755813000) :
    Calls Try.prog 12 #[.string key0, .string s] w fun e w' => e = .returned (.agg (ints .u8 (macOf (bs (sumL key0)) s)).toArray) ∧ Below w.heap.size w w' := by
  have hkey := fun w => r_Sum' key0 w hk1
  have hkb := fun w => r_Bytes (sumL key0) w (sumL_len _)
  have hk : (bs (sumL key0)).size ≤ 64 := by rw [bs_size, sumL_len]; omega
  generalize bs (sumL key0) = key at *
  generalize sumL key0 = S0 at *
  have HKey := Lib.hid hkey
  have HKB := Lib.hid hkb
  clear hkey hkb
  have hOL : (macOf key s).length = 32 := sumL_len _
  have hA := fun w => r_Sum' (bs (maskL key 54) ++ s) w (by rw [ByteArray.size_append, bs_size, maskL_len key hk]; omega)
  have hB := fun w => r_Bytes (innerL key s) w (sumL_len _)
  have hC := fun w => r_Sum' (bs (maskL key 92) ++ bs (innerL key s)) w (by rw [ByteArray.size_append, bs_size, bs_size, maskL_len key hk, show (innerL key s).length = 32 from sumL_len _]; omega)
  rw [show sumL (bs (maskL key 54) ++ s) = innerL key s from rfl] at hA
  rw [show sumL (bs (maskL key 92) ++ bs (innerL key s)) = macOf key s from rfl] at hC
  have add1 : ∀ w, (Op.stringOp .add (bs (maskL key 54)) s).run Try.prog w = .ok (.string (bs (maskL key 54) ++ s)) w := fun w => by
    rw [run_string_add_sum]
    rw [bs_size, maskL_len key hk]; omega
  have add2 : ∀ w, (Op.stringOp .add (bs (maskL key 92)) (bs (innerL key s))).run Try.prog w = .ok (.string (bs (maskL key 92) ++ bs (innerL key s))) w := fun w => by
    rw [run_string_add_sum]
    rw [bs_size, maskL_len key hk, bs_size, show (innerL key s).length = 32 from sumL_len _]; omega
  have gA := maskL_getD key hk 54
  have gB := maskL_getD key hk 92
  have lA := maskL_len key hk 54
  have lB := maskL_len key hk 92
  generalize macOf key s = O at *
  generalize innerL key s = I at *
  generalize maskL key 54 = MA at *
  generalize maskL key 92 = MB at *
  obtain ⟨i0, hi0, hz0, hz1, hz2⟩ := info_parts info_u8
  have HA := Lib.hid hA
  have HB := Lib.hid hB
  have HC := Lib.hid hC
  have GA := Lib.hid gA
  have GB := Lib.hid gB
  have LA := Lib.hid lA
  have LB := Lib.hid lB
  have HOL := Lib.hid hOL
  clear hA hB hC gA gB lA lB hOL
  have c1 : (64 : Int) < (key0.size : Int) := by omega
  have hres := Blk.new' w 23 (ints .u8 (zer 32)) rfl
  have hb0 := (Below.refl w.heap.size w).alloc (Nat.le_refl _) (.cells (ints .u8 (zer 32)).toArray 23)
  have hs0 : (w.alloc (.cells (ints .u8 (zer 32)).toArray 23)).heap.size = w.heap.size + 1 := by simp
  have ez : (w.alloc (.cells (ints .u8 (zer 32)).toArray 23)) = w.alloc (.cells #[(.int .u8 0 : Value), (.int .u8 0 : Value), (.int .u8 0 : Value), (.int .u8 0 : Value), (.int .u8 0 : Value), (.int .u8 0 : Value), (.int .u8 0 : Value), (.int .u8 0 : Value), (.int .u8 0 : Value), (.int .u8 0 : Value), (.int .u8 0 : Value), (.int .u8 0 : Value), (.int .u8 0 : Value), (.int .u8 0 : Value), (.int .u8 0 : Value), (.int .u8 0 : Value), (.int .u8 0 : Value), (.int .u8 0 : Value), (.int .u8 0 : Value), (.int .u8 0 : Value), (.int .u8 0 : Value), (.int .u8 0 : Value), (.int .u8 0 : Value), (.int .u8 0 : Value), (.int .u8 0 : Value), (.int .u8 0 : Value), (.int .u8 0 : Value), (.int .u8 0 : Value), (.int .u8 0 : Value), (.int .u8 0 : Value), (.int .u8 0 : Value), (.int .u8 0 : Value)] 23) := rfl
  rw [ez] at hres hb0 hs0
  clear ez
  go_enter Try.func12, Try.ntmps12
  go_wp2_with fail
  generalize World.alloc w _ = wA at *
  refine (HKey.out _).mono ?_
  rintro e wC ⟨rfl, hbC⟩
  go_wp2_with fail
  refine (HKB.out _).mono ?_
  rintro e wB ⟨rfl, hbB⟩
  have hresC := hres.below hbC hres.lt
  have hresB := hresC.below hbB hresC.lt
  have hb0C := hb0.trans (hbC.mono hb0.size)
  have hb0B := hb0C.trans (hbB.mono hb0C.size)
  have hsB : w.heap.size + 1 ≤ wB.heap.size := by have := hbC.size; have := hbB.size; omega
  clear hres hb0 hs0 hbC hbB hresC hb0C
  go_wp2
  have qr := ((hresB.alloc (.cells #[] 5)).alloc (.cells #[] 5))
  have qb := (hb0B.alloc (by omega) (.cells #[] 5)).alloc (by simp; omega) (.cells #[] 5)
  have qA := OwnB.ofBlk (base := w.heap.size + 1) (cap := 0) (l := MA.take 0) [] ((Blk.new' wB 5 (c := #[]) (ints .u8 (MA.take 0 ++ [])) (by simp [ints])).alloc (.cells #[] 5)) hsB (by simp) (Nat.zero_le _)
  have qB := OwnB.ofBlk (base := w.heap.size + 1) (cap := 0) (l := MB.take 0) [] (Blk.new' (wB.alloc (.cells #[] 5)) 5 (c := #[]) (ints .u8 (MB.take 0 ++ [])) (by simp [ints])) (by simp; omega) (by simp) (Nat.zero_le _)
  rw [show (wB.alloc (.cells #[] 5)).heap.size = wB.heap.size + 1 by simp] at qB
  clear hresB hb0B
  generalize World.alloc _ (.cells #[] 5) = w3 at *
  go_loopw [6, 7, 8] (fun va vb i wr => ∃ (j : Nat) (pa : Option Addr) (ca : Nat) (pb : Option Addr) (cb : Nat), i = .int .i64 (j : Int) ∧ va = .slice pa j ca ∧ vb = .slice pb j cb ∧ OwnB wr (w.heap.size + 1) 5 (.slice pa j ca) (MA.take j) ∧ OwnB wr (w.heap.size + 1) 5 (.slice pb j cb) (MB.take j) ∧ (∀ x, (Value.slice pa j ca).ownBlock = some x → (Value.slice pb j cb).ownBlock ≠ some x) ∧ j ≤ 64 ∧ Blk wr w.heap.size 23 (ints .u8 (zer 32)) ∧ Below w.heap.size w wr) (fun _ _ i _ => 64 - (intOf i).toNat)
  case atStart => exact ⟨0, _, 0, _, 0, rfl, rfl, rfl, qA, qB, (fun x h => by cases h; simp [Value.ownBlock]), by omega, qr, qb⟩
  case round =>
    obtain ⟨j, pa, ca, pb, cb, rfl, rfl, rfl, goA, goB, hne, hj, gr, gb⟩ := hrel
    clear qA qB qr qb
    by_cases hlt : j < 64
    · have tA := take_snocI MA j (by rw [LA.out]; exact hlt)
      have tB := take_snocI MB j (by rw [LB.out]; exact hlt)
      rw [GA.out j hlt] at tA
      rw [GB.out j hlt] at tB
      obtain ⟨LA1, hLA1⟩ : ∃ L, MA.take j = L := ⟨_, rfl⟩
      obtain ⟨LB1, hLB1⟩ : ∃ L, MB.take j = L := ⟨_, rfl⟩
      have llA : LA1.length = j := by rw [← hLA1, List.length_take, LA.out]; omega
      have llB : LB1.length = j := by rw [← hLB1, List.length_take, LB.out]; omega
      rw [hLA1] at goA tA
      rw [hLB1] at goB tB
      clear hLA1 hLB1
      have TA := Lib.hid tA
      have TB := Lib.hid tB
      have LLA := Lib.hid llA
      have LLB := Lib.hid llB
      have rowA : ∀ y : Int, (wr.alloc (.cells #[.int .u8 y] 5)).ownsRow (w.heap.size + 1) 5 1 (.slice pa j ca) j (ints .u8 LA1) := fun y => by
        have := goA.alloc (.cells #[.int .u8 y] 5)
        unfold OwnB at this
        rw [llA] at this
        exact this
      have hone : ∀ y : Int, ∀ u ∈ [Value.int .u8 y], u.oneCell' = true := by simp [Value.oneCell']
      have h63 : j + 1 ≤ maxLen := by simp [maxLen]; omega
      have hbyy : (j + 1) * 1 ≤ 140737488355328 := by omega
      have gs := gb.size
      have grl := gr.lt
      have hbase : ∀ y : Int, w.heap.size + 1 ≤ (wr.alloc (.cells #[.int .u8 y] 5)).heap.size := fun y => by simp; omega
      have RowA := Lib.hid rowA
      have HOne := Lib.hid hone
      have H63 := Lib.hid h63
      have HBY := Lib.hid hbyy
      have HBS := Lib.hid hbase
      have GoB := Lib.hid goB
      have GoA := Lib.hid goA
      have HNE := Lib.hid hne
      have GR := Lib.hid gr
      have GBw := Lib.hid gb
      have e1 : (j : Int) < 64 := by omega
      clear rowA hone h63 hbyy hbase goA goB hne gr gb tA tB llA llB
      by_cases hjk : j < key.size
      · rw [if_pos hjk] at TA TB
        have hidx := index_is key .i64 j hjk
        generalize (is key).getD j 0 = c at *
        have e2 : (j : Int) < (key.size : Int) := by omega
        go_wp2_with (first | (at_builtin; refine wpList_append_own_at _ rfl _ _ 36 rfl (w.heap.size + 1) 5 i0 (.int .u8 0) 1 1 Try.underlying36 hi0 hz0 hz1 hz2 rfl (by decide) (.slice pa j ca) j _ rfl (RowA.out (bits .xor .u8 c 54)) ⟨wr.heap.size, 0, none⟩ 1 1 [.int .u8 (bits .xor .u8 c 54)] rfl rfl (cell_one_new _ _ _) (HOne.out _) H63.out HBY.out (HBS.out _) ?_; intro v5 w5 hown5 hg5 hnil5 hat5; obtain ⟨p5, cap5, rfl⟩ := own_slice hown5) | (at_builtin; refine wpList_append_own_at _ rfl _ _ 36 rfl (w.heap.size + 1) 5 i0 (.int .u8 0) 1 1 Try.underlying36 hi0 hz0 hz1 hz2 rfl (by decide) (.slice pb j cb) j _ rfl (mac_rowB hg5 HNE.out GoB.out LLB.out (bits .xor .u8 c 92)) ⟨w5.heap.size, 0, none⟩ 1 1 [.int .u8 (bits .xor .u8 c 92)] rfl rfl (cell_one_new _ _ _) (HOne.out _) H63.out HBY.out (mac_base hg5 gs (bits .xor .u8 c 92)) ?_; intro v6 w6 hown6 hg6 hnil6 hat6; obtain ⟨p6, cap6, rfl⟩ := own_slice hown6))
        go_roundw
        case rel =>
          obtain ⟨q1, q2, q3, q4, q5⟩ := mac_round GoA.out GoB.out HNE.out GR.out GBw.out LLA.out LLB.out hown5 hg5 hat5 hown6 hg6 hat6
          rw [← TA.out] at q1
          rw [← TB.out] at q2
          exact ⟨j + 1, p5, cap5, p6, cap6, by go_num, rfl, rfl, q1, q2, q3, by omega, q4, q5⟩
        case measure => simp [intOf]; omega
      · rw [if_neg hjk] at TA
        rw [if_neg hjk] at TB
        have e2 : ¬ (j : Int) < (key.size : Int) := by omega
        go_wp2_with (first | (at_builtin; refine wpList_append_own_at _ rfl _ _ 36 rfl (w.heap.size + 1) 5 i0 (.int .u8 0) 1 1 Try.underlying36 hi0 hz0 hz1 hz2 rfl (by decide) (.slice pa j ca) j _ rfl (RowA.out (bits .xor .u8 0 54)) ⟨wr.heap.size, 0, none⟩ 1 1 [.int .u8 (bits .xor .u8 0 54)] rfl rfl (cell_one_new _ _ _) (HOne.out _) H63.out HBY.out (HBS.out _) ?_; intro v5 w5 hown5 hg5 hnil5 hat5; obtain ⟨p5, cap5, rfl⟩ := own_slice hown5) | (at_builtin; refine wpList_append_own_at _ rfl _ _ 36 rfl (w.heap.size + 1) 5 i0 (.int .u8 0) 1 1 Try.underlying36 hi0 hz0 hz1 hz2 rfl (by decide) (.slice pb j cb) j _ rfl (mac_rowB hg5 HNE.out GoB.out LLB.out (bits .xor .u8 0 92)) ⟨w5.heap.size, 0, none⟩ 1 1 [.int .u8 (bits .xor .u8 0 92)] rfl rfl (cell_one_new _ _ _) (HOne.out _) H63.out HBY.out (mac_base hg5 gs (bits .xor .u8 0 92)) ?_; intro v6 w6 hown6 hg6 hnil6 hat6; obtain ⟨p6, cap6, rfl⟩ := own_slice hown6))
        go_roundw
        case rel =>
          obtain ⟨q1, q2, q3, q4, q5⟩ := mac_round GoA.out GoB.out HNE.out GR.out GBw.out LLA.out LLB.out hown5 hg5 hat5 hown6 hg6 hat6
          rw [← TA.out] at q1
          rw [← TB.out] at q2
          exact ⟨j + 1, p5, cap5, p6, cap6, by go_num, rfl, rfl, q1, q2, q3, by omega, q4, q5⟩
        case measure => simp [intOf]; omega
    · obtain rfl : j = 64 := by omega
      rw [List.take_of_length_le (by rw [LA.out]; exact Nat.le_refl _)] at goA
      rw [List.take_of_length_le (by rw [LB.out]; exact Nat.le_refl _)] at goB
      have hA1 : ∀ wx, NewBut wr wx → Calls Try.prog 10 #[.string (bs MA ++ s)] wx fun e w' => e = .returned (.agg (ints .u8 I).toArray) ∧ NewBut wr w' := fun wx h => (HA.out wx).mono fun _ _ ⟨q1, q2⟩ => ⟨q1, h.trans (q2.mono h.size)⟩
      have hB1 : ∀ wx, NewBut wr wx → Calls Try.prog 17 #[.agg (ints .u8 I).toArray] wx fun e w' => e = .returned (.string (bs I)) ∧ NewBut wr w' := fun wx h => (HB.out wx).mono fun _ _ ⟨q1, q2⟩ => ⟨q1, h.trans (q2.mono h.size)⟩
      have hC1 : ∀ wx, NewBut wr wx → Calls Try.prog 10 #[.string (bs MB ++ bs I)] wx fun e w' => e = .returned (.agg (ints .u8 O).toArray) ∧ NewBut wr w' := fun wx h => (HC.out wx).mono fun _ _ ⟨q1, q2⟩ => ⟨q1, h.trans (q2.mono h.size)⟩
      have HA1 := Lib.hid hA1
      have HB1 := Lib.hid hB1
      have HC1 := Lib.hid hC1
      have GoA := Lib.hid (fun wx (h : NewBut wr wx) => goA.keepB h)
      have GoB := Lib.hid (fun wx (h : NewBut wr wx) => goB.keepB h)
      clear hA1 hB1 hC1 goA goB
      go_wp2_with fail
      refine region_quiet_tail (C := NewBut wr) 10 mixed (by kernel_rfl) (show Below _ _ _ from (Below.refl _ _).drew) ?_
      simp only [List.take_succ_cons, List.take_zero, List.drop_succ_cons, List.drop_zero]
      repeat (first | (refine wpQuiet_string_own rfl 36 9 5 _ rfl (w.heap.size + 1) _ MB rfl Try.underlying36 Try.underlying5 Try.underlying9 GoB.out ?_) | (refine wpQuiet_string_own rfl 36 9 5 _ rfl (w.heap.size + 1) _ MA rfl Try.underlying36 Try.underlying5 Try.underlying9 GoA.out ?_) | (refine wpQuiet_step (fun K' hK' => ?_); go_simp; first | (refine ⟨_, fun _ _ => rfl, hK' _ ?_⟩; clear hK' K') | ((with_reducible refine ⟨_, fun wx hx => HA1.out wx hx, hK' _ ?_⟩); clear hK' K') | ((with_reducible refine ⟨_, fun wx hx => HB1.out wx hx, hK' _ ?_⟩); clear hK' K') | ((with_reducible refine ⟨_, fun wx hx => HC1.out wx hx, hK' _ ?_⟩); clear hK' K')))
      refine wpQuiet_nil ?_
      intro w5 hb5
      have hr5 := gr.below hb5 gr.lt
      refine wpList_store_blk rfl 23 _ _ rfl w.heap.size (ints .u8 O) rfl rfl hr5 (by rw [size_hash, ints_length, HOL.out]) (by rw [ints_length, ints_length, HOL.out]; rfl) (ints_one _ _) ?_
      go_wp2_with fail
      refine bodyPost_ret (v := .agg (ints .u8 O).toArray) (results_cell_blk rfl _ _ _ rfl (hr5.row (ints .u8 O) (by rw [ints_length, ints_length, HOL.out]; rfl)) Try.underlying23 rfl (by rw [size_hash, ints_length, HOL.out])) rfl ⟨rfl, below_setRow (gb.trans (hb5.mono gb.size)) (Nat.le_refl _) _⟩
theorem r_Mac (key s : ByteArray) (w : World) (hk : key.size ≤ 549755813888) (hs : s.size ≤ 549755813000) :
    Calls Try.prog 12 #[.string key, .string s] w fun e w' => e = .returned (.agg (ints .u8 (macL key s)).toArray) ∧ Below w.heap.size w w' := by
  unfold macL keyOf
  split
  · exact r_Mac_short key s w (by assumption) hs
  · exact r_Mac_long key s w (by omega) hk hs
end Go.Proofs.Ytadppbjchacjiaa
