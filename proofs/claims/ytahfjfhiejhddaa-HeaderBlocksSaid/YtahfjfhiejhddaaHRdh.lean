/- Walk of the program's hash. -/
import Derived.Test.YtahfjfhiejhddaaHRHs
namespace Go.Proofs.Ytahfjfhiejhddaa
open Go.RowKit
set_option linter.unusedVariables false

set_option maxHeartbeats 2000000 in
set_option maxRecDepth 100000 in
theorem h_hash_no (s : ByteArray) (w : World) (h : s.size < 32) :
    Calls Try.prog 60 #[.string s] w fun e w' => e = .returned (.tuple #[.agg (ints .u8 (nn (zerN 32))).toArray, .string ⟨#[]⟩, .int .i64 40]) ∧ Below w.heap.size w w' := by
  have k0 := (Blk.new' w 44 (c := (ints .u8 (nn (zerN 32))).toArray) _ rfl).alloc (.cells (ints .u8 (nn (zerN 32))).toArray 44)
  have k1 := Blk.newAt (w.alloc (.cells (ints .u8 (nn (zerN 32))).toArray 44)) (w.heap.size + 1) (by simp) 44 (c := (ints .u8 (nn (zerN 32))).toArray) _ rfl
  have kb := ((Below.refl w.heap.size w).alloc (Nat.le_refl _) (.cells (ints .u8 (nn (zerN 32))).toArray 44)).alloc (by simp) (.cells (ints .u8 (nn (zerN 32))).toArray 44)
  have K0 := Lib.hid k0
  have K1 := Lib.hid k1
  have KB := Lib.hid kb
  have hl : (ints .u8 (nn (zerN 32))).length = 32 := by rw [ints_length, nn_length, zerN_len]
  have g1 : (s.size : Int) < 32 := by omega
  clear k0 k1 kb
  go_enter Try.func60, Try.ntmps60
  go_wp2_with (first | (refine wpList_alloc_n rfl 44 rfl w.heap.size rfl _ (alloc_h32 _) ?_) | (refine wpList_alloc_n rfl 44 rfl (w.heap.size + 1) (by simp) _ (alloc_h32 _) ?_) | (refine wpList_load_blk rfl 44 _ rfl (w.heap.size + 1) rfl K1.out Try.underlying44 rfl (by rw [size_hashV, hl]) ?_) | (refine wpList_store_blk rfl 44 _ _ rfl w.heap.size (ints .u8 (nn (zerN 32))) rfl rfl K0.out (by rw [size_hashV, hl]) rfl (ints_one _ _) ?_))
  refine bodyPost_ret (v := .tuple #[.agg (ints .u8 (nn (zerN 32))).toArray, .string ⟨#[]⟩, .int .i64 40]) (results_cell_tmp2 rfl _ _ w.heap.size rfl (.string ⟨#[]⟩) (.int .i64 40) rfl rfl (K0.out.row (ints .u8 (nn (zerN 32))) rfl) Try.underlying44 rfl (by rw [size_hashV, hl])) rfl ⟨rfl, below_setRow KB.out (Nat.le_refl _) _⟩
set_option maxHeartbeats 2000000 in
set_option maxRecDepth 100000 in
theorem h_hash_yes (s : ByteArray) (w : World) (h : 32 ≤ s.size) :
    Calls Try.prog 60 #[.string s] w fun e w' => e = .returned (.tuple #[.agg (ints .u8 (nn ((sl s).take 32))).toArray, .string (tx ((sl s).drop 32)), .int .i64 0]) ∧ Below w.heap.size w w' := by
  have hsl : 32 ≤ (sl s).length := by rw [sl_len]; exact h
  obtain ⟨B, hB⟩ : ∃ B, w.heap.size = B := ⟨_, rfl⟩
  have k0 := (Blk.newAt w B hB 44 (c := (ints .u8 (nn (zerN 32))).toArray) _ rfl).alloc (.cells (ints .u8 (nn (zerN 32))).toArray 44)
  have k1 := Blk.newAt (w.alloc (.cells (ints .u8 (nn (zerN 32))).toArray 44)) (B + 1) (by simp [hB]) 44 (c := (ints .u8 (nn (zerN 32))).toArray) _ rfl
  have kb := ((Below.refl w.heap.size w).alloc (Nat.le_refl _) (.cells (ints .u8 (nn (zerN 32))).toArray 44)).alloc (by simp) (.cells (ints .u8 (nn (zerN 32))).toArray 44)
  have hl : (ints .u8 (nn (zerN 32))).length = 32 := by rw [ints_length, nn_length, zerN_len]
  have g1 : ¬ (s.size : Int) < 32 := by omega
  have hHl : (ints .u8 (nn ((sl s).take 32))).length = 32 := by rw [ints_length, nn_length, List.length_take]; omega
  have hHo := ints_one .u8 (nn ((sl s).take 32))
  have hHt : ints .u8 ((is s).take 32) = ints .u8 (nn ((sl s).take 32)) := by rw [is_sl]; simp [nn]
  obtain ⟨H, hH⟩ : ∃ H, ints .u8 (nn ((sl s).take 32)) = H := ⟨_, rfl⟩
  rw [hH] at hHl hHo hHt
  have HHE := Lib.hid hH
  have N1 : Hid (ints .u8 (nn (zerN 32)) = [] ++ (ints .u8 (nn (zerN 32)) ++ [])) := Lib.hid (by simp)
  have N2 : Hid (H = [] ++ (ints .u8 ((is s).take 32) ++ [])) := Lib.hid (by rw [hHt]; simp)
  have NL : Hid (32 = (ints .u8 (nn (zerN 32))).length) := Lib.hid hl.symm
  have htl : s.extract 32 s.size = tx ((sl s).drop 32) := tail_tx s 32
  have i32 : (32 : Int) ≤ (s.size : Int) := by omega
  obtain ⟨RT, hRT⟩ : ∃ x, tx ((sl s).drop 32) = x := ⟨_, rfl⟩
  rw [hRT] at htl ⊢
  have HBE := Lib.hid hB
  have K1 := Lib.hid k1
  have B1 := Lib.hid (k1.row H (by rw [hl, hHl]))
  have B0 := Lib.hid (k0.rowOther (show B ≠ B + 1 by omega) H.toArray)
  have GB := Lib.hid (below_setRow kb (show w.heap.size ≤ B + 1 by omega) H.toArray)
  have hle32 : 32 ≤ s.size := h
  clear k0 k1 kb hRT hsl hH hHt h
  go_enter Try.func60, Try.ntmps60
  go_wp2_with (first | (refine wpList_alloc_n rfl 44 rfl B hB _ (alloc_h32 _) ?_) | (refine wpList_alloc_n rfl 44 rfl (B + 1) (by simp [hB]) _ (alloc_h32 _) ?_) | (refine wpList_copy_part rfl _ _ 45 9 5 rfl (B + 1) 0 32 32 rfl s rfl K1.out H [] (ints .u8 (nn (zerN 32))) [] N1.out N2.out Try.underlying45 size_u8 hle32 rfl NL.out ?_))
  refine region_mix 3 5 (by decide) mixed (by kernel_rfl) (by kernel_rfl) (fun u => #[_, _, _, u 4, _, _, _, _, _, _, _, _, _, u 0, u 1, u 2]) [] (fun i => match i with | 4 => _ | _ => undef) rfl
        (hsC w B H) ⟨B1.out, B0.out, GB.out.drew⟩ (fun _ _ _ => True) (hsS H s RT) ?mono ?step ?one ?last
  case mono => exact fun b i v W W' _ h _ => hsS_mono i v W W' h
  case step =>
        intro bb u W i o hi hik _ ho hC hd
        rcases i with _ | _ | _ | _ | _ | i
        all_goals try (simp only [List.getElem?_cons_zero, List.getElem?_cons_succ, Option.some.injEq] at ho; subst ho)
        · have HB1 := Lib.hid hC.1
          go_wp2_with (refine wpList_load_blk rfl 44 _ rfl (B + 1) rfl HB1.out Try.underlying44 rfl (by rw [size_hashV, hHl]) ?_)
          exact ⟨_, rfl, rfl, hC, trivial⟩
        · go_wp2_with fail
          exact ⟨_, rfl, rfl, hC, trivial⟩
        · have h0 : u 1 = .string s := hd ⟨1, .data⟩ (by simp) rfl
          rw [h0]
          go_wp2_with fail
          exact ⟨_, by simp [upd, h0], rfl, hC, trivial⟩
        · omega
        · have h0 : u 2 = .string RT := hd ⟨2, .data⟩ (by simp) rfl
          rw [h0]
          go_wp2_with fail
          exact ⟨_, by simp [upd, h0], rfl, hC, trivial⟩
        · omega
  case one =>
        intro u W o ho hC hd
        simp only [List.getElem?_cons_zero, List.getElem?_cons_succ, Option.some.injEq] at ho
        subst ho
        have h0 : u 0 = .agg H.toArray := hd ⟨0, .data⟩ (by simp) rfl
        have hz : Blk W B 44 (ints .u8 (nn (zerN 32))) := hC.2.1
        have HZ := Lib.hid hz
        have Q1 := Lib.hid (hC.1.rowOther (show B + 1 ≠ B by omega) H.toArray)
        have Q2 := Lib.hid (hz.row H (by rw [hl, hHl]))
        have Q3 := Lib.hid (below_setRow hC.2.2 (show w.heap.size ≤ B by rw [HBE.out]; exact Nat.le_refl _) H.toArray)
        clear hz hC hd
        rw [h0]
        go_wp2_with (refine wpList_store_blk rfl 44 _ _ rfl B H rfl rfl HZ.out (by rw [size_hashV, hHl]) (by rw [hl, hHl]) hHo ?_)
        exact ⟨undef, by simp [upd, h0]; rfl, trivial, ⟨Q1.out, Q2.out, Q3.out⟩, trivial⟩
  case last =>
        intro u W o ho hC hS
        simp only [List.getElem?_cons_zero, List.getElem?_cons_succ, Option.some.injEq] at ho
        subst ho
        have h4 : u 4 = .string RT := hS 4 (by decide)
        have hz : Blk W B 44 H := hC.2.1
        have HZ := Lib.hid hz
        have Q3 := Lib.hid hC.2.2
        clear hS hC hz
        rw [h4]
        go_wp2_with fail
        refine bodyPost_ret (v := .tuple #[.agg H.toArray, .string RT, .int .i64 0]) (results_cell_tmp2 rfl _ _ B rfl (.string RT) (.int .i64 0) rfl rfl HZ.out Try.underlying44 rfl (by rw [size_hashV, hHl])) rfl ⟨by rw [HHE.out], Q3.out⟩
end Go.Proofs.Ytahfjfhiejhddaa
