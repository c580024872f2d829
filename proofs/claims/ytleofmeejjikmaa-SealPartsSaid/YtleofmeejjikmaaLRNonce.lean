/- Walk of the reference's Nonce of seal. -/
import Derived.Test.YtleofmeejjikmaaLRef
namespace Go.Proofs.Ytleofmeejjikmaa
open Go.RowKit
set_option linter.unusedVariables false

theorem alloc_b16r (w : World) : (Instr.alloc 34 true (.tuple #[])).run Try.prog w = .ok (.pointer (some ⟨w.heap.size, 0, none⟩)) (w.alloc (.cells (ints .u8 (nn (zerN 16))).toArray 34)) := by kernel_rfl
theorem build_b16r (w : World) : (Instr.build 34 #[]).run Try.prog w = .ok (.agg (ints .u8 (nn (zerN 16))).toArray) w := by kernel_rfl
/-- the first k of l, and zeros -/
def wrN (l : List Nat) (k : Nat) : List Nat := l.take k ++ zerN (16 - k)
theorem wrN_len {l : List Nat} {k : Nat} (hk : k ≤ 16) (hl : 16 ≤ l.length) : (wrN l k).length = 16 := by
  unfold wrN
  rw [List.length_append, List.length_take, zerN_len]
  omega
theorem wrN_zero (l : List Nat) : wrN l 0 = zerN 16 := rfl
theorem wrN_all (l : List Nat) : wrN l 16 = l.take 16 := by unfold wrN; simp [zerN]
theorem wrN_step {l : List Nat} {k : Nat} (hk : k < 16) (hl : 16 ≤ l.length) : (wrN l k).set k (l.getD k 0) = wrN l (k + 1) := by
  refine getD_ext 16 (by rw [List.length_set, wrN_len (by omega) hl]) (wrN_len (by omega) hl) fun j hj => ?_
  rw [getD_set _ _ _ _ (by rw [wrN_len (by omega) hl]; exact hk)]
  unfold wrN
  rw [getD_app, getD_app, List.length_take, List.length_take, show min k l.length = k by omega, show min (k + 1) l.length = k + 1 by omega]
  by_cases e : k = j
  · subst e
    rw [if_pos rfl, if_pos (by omega), getD_take _ _ _ (by omega)]
  · rw [if_neg e]
    by_cases h : j < k
    · rw [if_pos h, if_pos (by omega), getD_take _ _ _ h, getD_take _ _ _ (by omega)]
    · rw [if_neg h, if_neg (by omega)]
      simp [zerN, List.getD_eq_getElem?_getD, List.getElem?_replicate]
      split <;> split <;> rfl

set_option maxRecDepth 100000 in
set_option maxHeartbeats 1000000 in
theorem r5_Nonce (s : ByteArray) (w : World) (hs : s.size ≤ 65536) :
    Calls Try.prog 13 #[.string s] w fun e w' => e = .returned (.tuple #[.agg (ints .u8 (nn (nonceN s))).toArray, .bool (decide (16 ≤ s.size))]) ∧ Below w.heap.size w w' := by
  have K0 : Blk ((w.alloc (.cells (ints .u8 (nn (zerN 16))).toArray 34)).alloc (.cells (ints .u8 (nn (zerN 16))).toArray 34)) w.heap.size 34 (ints .u8 (nn (zerN 16))) := (Blk.new w _ _).alloc _
  have K1 : Blk ((w.alloc (.cells (ints .u8 (nn (zerN 16))).toArray 34)).alloc (.cells (ints .u8 (nn (zerN 16))).toArray 34)) (w.heap.size + 1) 34 (ints .u8 (nn (zerN 16))) := Blk.newAt _ _ (by simp) _ _ rfl
  have Kb : Below w.heap.size w ((w.alloc (.cells (ints .u8 (nn (zerN 16))).toArray 34)).alloc (.cells (ints .u8 (nn (zerN 16))).toArray 34)) := ((Below.refl _ _).alloc (Nat.le_refl _) _).alloc (by simp) _
  have J0 := K0.rowOther (g := w.heap.size + 1) (by omega) (ints .u8 (nn (zerN 16))).toArray
  have J1 := K1.row (ints .u8 (nn (zerN 16))) rfl
  have Jb := below_setRow Kb (b := w.heap.size + 1) (by omega) (ints .u8 (nn (zerN 16))).toArray
  have K1 := Lib.hid K1
  have J0 := Lib.hid J0
  have J1 := Lib.hid J1
  have Jb := Lib.hid Jb
  clear K0 Kb
  by_cases h : s.size < 16
  · have e1 : nonceN s = zerN 16 := if_pos h
    have e2 : decide (16 ≤ s.size) = false := by simp; omega
    have g1 : (s.size : Int) < 16 := by omega
    rw [e1, e2]
    clear e1 e2
    go_enter Try.func13, Try.ntmps13
    go_wp2_with (first | (refine wpList_alloc_n rfl 34 rfl w.heap.size rfl _ (alloc_b16r _) ?_) | (refine wpList_alloc_n rfl 34 rfl (w.heap.size + 1) (by simp) _ (alloc_b16r _) ?_) | (refine wpList_build_at rfl 34 _ rfl (.agg (ints .u8 (nn (zerN 16))).toArray) (by simp only [List.map_toArray, List.map_nil]; exact build_b16r _) ?_) | (refine wpList_load_blk rfl 34 _ rfl (w.heap.size + 1) rfl J1.out underlying_b16r rfl size_b16r ?_) | (refine wpList_store_blk rfl 34 _ _ rfl (w.heap.size + 1) (ints .u8 (nn (zerN 16))) rfl rfl K1.out size_b16r rfl (ints_one _ _) ?_) | (refine wpList_store_blk rfl 34 _ _ rfl w.heap.size (ints .u8 (nn (zerN 16))) rfl rfl J0.out size_b16r rfl (ints_one _ _) ?_))
    refine bodyPost_ret (v := .tuple #[.agg (ints .u8 (nn (zerN 16))).toArray, .bool false]) (results_cell_tmp rfl _ _ _ rfl (.bool false) rfl (J0.out.row (ints .u8 (nn (zerN 16))) rfl) underlying_b16r rfl size_b16r) rfl ⟨rfl, below_setRow Jb.out (by omega) _⟩
  · have e1 : nonceN s = (sl s).take 16 := if_neg h
    have e2 : decide (16 ≤ s.size) = true := by simp; omega
    have g1 : ¬ (s.size : Int) < 16 := by omega
    have hsl : 16 ≤ (sl s).length := by rw [sl_len]; omega
    have lN := Lib.hid (nonceN_len s)
    rw [e2]
    generalize nonceN s = N at *
    have E1 := Lib.hid e1
    clear e1 e2
    have HSL := Lib.hid hsl
    clear hsl
    go_enter Try.func13, Try.ntmps13
    go_wp2_with (first | (refine wpList_alloc_n rfl 34 rfl w.heap.size rfl _ (alloc_b16r _) ?_) | (refine wpList_alloc_n rfl 34 rfl (w.heap.size + 1) (by simp) _ (alloc_b16r _) ?_) | (refine wpList_build_at rfl 34 _ rfl (.agg (ints .u8 (nn (zerN 16))).toArray) (by simp only [List.map_toArray, List.map_nil]; exact build_b16r _) ?_) | (refine wpList_store_blk rfl 34 _ _ rfl (w.heap.size + 1) (ints .u8 (nn (zerN 16))) rfl rfl K1.out size_b16r rfl (ints_one _ _) ?_))
    have L0 := J0.out
    have L1 := J1.out
    have Lb := Jb.out
    clear K1 J0 J1 Jb
    generalize World.setRow (World.alloc (World.alloc w _) _) _ _ = w2 at *
    go_loopw [5] (fun i wr => ∃ k : Nat, k ≤ 16 ∧ i = .int .i64 (k : Int) ∧ Blk wr w.heap.size 34 (ints .u8 (nn (zerN 16))) ∧ Blk wr (w.heap.size + 1) 34 (ints .u8 (nn (wrN (sl s) k))) ∧ Below w.heap.size w wr) (fun i _ => 16 - (intOf i).toNat)
    case atStart => exact ⟨0, by omega, rfl, L0, L1, Lb⟩
    case round =>
      obtain ⟨k, hk, rfl, G0, G1, Gb⟩ := hrel
      clear L0 L1 Lb
      by_cases hlt : k < 16
      · have hk16 : (k : Int) < 16 := by omega
        have hix := fun w => index_sl s .i64 k (by omega) w
        have hc := G1.nat (j := k) (by rw [wrN_len (by omega) HSL.out]; exact hlt)
        have hf := G1.free k
        have M0 := G0.other (a := ⟨w.heap.size + 1, k, none⟩) (show w.heap.size + 1 ≠ w.heap.size by omega) (.int .u8 (((sl s).getD k 0 : Nat) : Int))
        have M1 := G1.setNat k ((sl s).getD k 0)
        rw [wrN_step hlt HSL.out] at M1
        have Mb := Gb.setCell (p := ⟨w.heap.size + 1, k, none⟩) (show w.heap.size ≤ w.heap.size + 1 by omega) (.int .u8 (((sl s).getD k 0 : Nat) : Int))
        generalize (sl s).getD k 0 = x at *
        have M0 := Lib.hid M0
        have M1 := Lib.hid M1
        have Mb := Lib.hid Mb
        clear G0 G1 Gb
        go_wp2
        go_roundw
        case rel => exact ⟨k + 1, by omega, by go_num, M0.out, M1.out, Mb.out⟩
        case measure => simp [intOf]; omega
      · obtain rfl : k = 16 := by omega
        rw [wrN_all, ← E1.out] at G1
        have G0' := Lib.hid G0
        have G1' := Lib.hid G1
        have Gb' := Lib.hid Gb
        clear G0 G1 Gb
        go_wp2_with (first | (refine wpList_load_blk rfl 34 _ rfl (w.heap.size + 1) rfl G1'.out underlying_b16r rfl (by rw [size_b16r, nc_len lN.out]) ?_) | (refine wpList_store_blk rfl 34 _ _ rfl w.heap.size (ints .u8 (nn N)) rfl rfl G0'.out (by rw [size_b16r, nc_len lN.out]) (by rw [nc_len lN.out]; rfl) (ints_one _ _) ?_))
        refine bodyPost_ret (v := .tuple #[.agg (ints .u8 (nn N)).toArray, .bool true]) (results_cell_tmp rfl _ _ _ rfl (.bool true) rfl (G0'.out.row (ints .u8 (nn N)) (by rw [nc_len lN.out]; rfl)) underlying_b16r rfl (by rw [size_b16r, nc_len lN.out])) rfl ⟨rfl, below_setRow Gb'.out (by omega) _⟩
end Go.Proofs.Ytleofmeejjikmaa
