/- Walk of the reference's reading of a hash. -/
import Derived.Test.YtahfjfhiejhddaaHRaw
import Derived.Test.YtahfjfhiejhddaaG1
namespace Go.Proofs.Ytahfjfhiejhddaa
open Go.RowKit
set_option linter.unusedVariables false

theorem alloc_h32 (w : World) : (Instr.alloc 44 true (.tuple #[])).run Try.prog w = .ok (.pointer (some ⟨w.heap.size, 0, none⟩)) (w.alloc (.cells (ints .u8 (nn (zerN 32))).toArray 44)) := by kernel_rfl
theorem build_h32 (w : World) : (Instr.build 44 #[]).run Try.prog w = .ok (.agg (ints .u8 (nn (zerN 32))).toArray) w := by kernel_rfl
/-- the first k bytes, and zeros -/
def wrH (l : List Nat) (k : Nat) : List Nat := l.take k ++ zerN (32 - k)
theorem wrH_len {l : List Nat} (h : 32 ≤ l.length) {k : Nat} (hk : k ≤ 32) : (wrH l k).length = 32 := by unfold wrH; rw [List.length_append, List.length_take, zerN_len]; omega
theorem wrH_set {l : List Nat} (h : 32 ≤ l.length) {k : Nat} (hk : k < 32) : (wrH l k).set k (l.getD k 0) = wrH l (k + 1) := by
  unfold wrH
  have hl : (l.take k).length = k := by rw [List.length_take]; omega
  rw [List.set_append_right _ _ (by omega), hl, Nat.sub_self, take_snoc l k (by omega), List.append_assoc]
  congr 1
  obtain ⟨m, hm⟩ : ∃ m, 32 - k = m + 1 := ⟨31 - k, by omega⟩
  rw [hm, show 32 - (k + 1) = m by omega]
  unfold zerN
  rw [List.replicate_succ]
  rfl
theorem wrH_all (l : List Nat) : wrH l 32 = l.take 32 := by unfold wrH zerN; simp
set_option maxHeartbeats 2000000 in
set_option maxRecDepth 100000 in
theorem hr_hash_no (s : ByteArray) (w : World) (h : s.size < 32) :
    Calls Try.prog 46 #[.string s] w fun e w' => e = .returned (.tuple #[.agg (ints .u8 (nn (zerN 32))).toArray, .string ⟨#[]⟩, .int .i64 40]) ∧ Below w.heap.size w w' := by
  have k0 := (Blk.new' w 44 (c := (ints .u8 (nn (zerN 32))).toArray) _ rfl).alloc (.cells (ints .u8 (nn (zerN 32))).toArray 44)
  have k1 := Blk.newAt (w.alloc (.cells (ints .u8 (nn (zerN 32))).toArray 44)) (w.heap.size + 1) (by simp) 44 (c := (ints .u8 (nn (zerN 32))).toArray) _ rfl
  have kb := ((Below.refl w.heap.size w).alloc (Nat.le_refl _) (.cells (ints .u8 (nn (zerN 32))).toArray 44)).alloc (by simp) (.cells (ints .u8 (nn (zerN 32))).toArray 44)
  have K0 := Lib.hid k0
  have K1 := Lib.hid k1
  have J0 := Lib.hid (k0.rowOther (show w.heap.size ≠ w.heap.size + 1 by omega) (ints .u8 (nn (zerN 32))).toArray)
  have J1 := Lib.hid (k1.row (ints .u8 (nn (zerN 32))) rfl)
  have JB := Lib.hid (below_setRow kb (show w.heap.size ≤ w.heap.size + 1 by omega) (ints .u8 (nn (zerN 32))).toArray)
  have hl : (ints .u8 (nn (zerN 32))).length = 32 := by rw [ints_length, nn_length, zerN_len]
  have g1 : (s.size : Int) < 32 := by omega
  clear k0 k1 kb
  go_enter Try.func46, Try.ntmps46
  go_wp2_with (first | (refine wpList_alloc_n rfl 44 rfl w.heap.size rfl _ (alloc_h32 _) ?_) | (refine wpList_alloc_n rfl 44 rfl (w.heap.size + 1) (by simp) _ (alloc_h32 _) ?_) | (refine wpList_build_at rfl 44 _ rfl (.agg (ints .u8 (nn (zerN 32))).toArray) (by simp only [List.map_toArray, List.map_nil]; exact build_h32 _) ?_) | (refine wpList_load_blk rfl 44 _ rfl (w.heap.size + 1) rfl J1.out Try.underlying44 rfl (by rw [size_hashV, hl]) ?_) | (refine wpList_store_blk rfl 44 _ _ rfl (w.heap.size + 1) (ints .u8 (nn (zerN 32))) rfl rfl K1.out (by rw [size_hashV, hl]) rfl (ints_one _ _) ?_) | (refine wpList_store_blk rfl 44 _ _ rfl w.heap.size (ints .u8 (nn (zerN 32))) rfl rfl J0.out (by rw [size_hashV, hl]) rfl (ints_one _ _) ?_))
  refine bodyPost_ret (v := .tuple #[.agg (ints .u8 (nn (zerN 32))).toArray, .string ⟨#[]⟩, .int .i64 40]) (results_cell_tmp2 rfl _ _ w.heap.size rfl (.string ⟨#[]⟩) (.int .i64 40) rfl rfl (J0.out.row (ints .u8 (nn (zerN 32))) rfl) Try.underlying44 rfl (by rw [size_hashV, hl])) rfl ⟨rfl, below_setRow JB.out (Nat.le_refl _) _⟩
def hsC (w : World) (B : Nat) (H : List Value) (b : Bool) (W : World) : Prop := Blk W (B + 1) 44 H ∧ Blk W B 44 (if b then H else ints .u8 (nn (zerN 32))) ∧ Below w.heap.size w W
def hsS (H : List Value) (s RT : ByteArray) (i : Nat) (v : Value) (W : World) : Prop :=
  match i with
  | 0 => v = .agg H.toArray
  | 1 => v = .string s
  | 2 | 4 => v = .string RT
  | _ => True
theorem hsS_mono {H : List Value} {s RT : ByteArray} (i : Nat) (v : Value) (W W' : World) (h : hsS H s RT i v W) : hsS H s RT i v W' :=
  match i with
  | 0 | 1 | 2 | 3 | 4 => h
  | _ + 5 => trivial
set_option maxHeartbeats 2000000 in
set_option maxRecDepth 100000 in
theorem hr_hash_yes (s : ByteArray) (w : World) (h : 32 ≤ s.size) :
    Calls Try.prog 46 #[.string s] w fun e w' => e = .returned (.tuple #[.agg (ints .u8 (nn ((sl s).take 32))).toArray, .string (tx ((sl s).drop 32)), .int .i64 0]) ∧ Below w.heap.size w w' := by
  have hsl : 32 ≤ (sl s).length := by rw [sl_len]; exact h
  have k0 := (Blk.new' w 44 (c := (ints .u8 (nn (zerN 32))).toArray) _ rfl).alloc (.cells (ints .u8 (nn (zerN 32))).toArray 44)
  have k1 := Blk.newAt (w.alloc (.cells (ints .u8 (nn (zerN 32))).toArray 44)) (w.heap.size + 1) (by simp) 44 (c := (ints .u8 (nn (zerN 32))).toArray) _ rfl
  have kb := ((Below.refl w.heap.size w).alloc (Nat.le_refl _) (.cells (ints .u8 (nn (zerN 32))).toArray 44)).alloc (by simp) (.cells (ints .u8 (nn (zerN 32))).toArray 44)
  have K1 := Lib.hid k1
  have J0 := Lib.hid (k0.rowOther (show w.heap.size ≠ w.heap.size + 1 by omega) (ints .u8 (nn (zerN 32))).toArray)
  have J1 := Lib.hid (k1.row (ints .u8 (nn (zerN 32))) rfl)
  have JB := Lib.hid (below_setRow kb (show w.heap.size ≤ w.heap.size + 1 by omega) (ints .u8 (nn (zerN 32))).toArray)
  have hl : (ints .u8 (nn (zerN 32))).length = 32 := by rw [ints_length, nn_length, zerN_len]
  have g1 : ¬ (s.size : Int) < 32 := by omega
  have HSL := Lib.hid hsl
  have HW32 := Lib.hid (wrH_all (sl s))
  have htl : s.extract 32 s.size = tx ((sl s).drop 32) := tail_tx s 32
  have hs0 : wrH (sl s) 0 = zerN 32 := by unfold wrH; simp
  have HS0 := Lib.hid hs0
  have i32 : (32 : Int) ≤ (s.size : Int) := by omega
  obtain ⟨RT, hRT⟩ : ∃ x, tx ((sl s).drop 32) = x := ⟨_, rfl⟩
  rw [hRT] at htl ⊢
  obtain ⟨B, hB⟩ : ∃ B, w.heap.size = B := ⟨_, rfl⟩
  have HBE := Lib.hid hB
  clear k0 k1 kb hRT hs0 hsl
  go_enter Try.func46, Try.ntmps46
  rw [hB] at K1 J0 J1
  go_wp2_with (first | (refine wpList_alloc_n rfl 44 rfl B hB _ (alloc_h32 _) ?_) | (refine wpList_alloc_n rfl 44 rfl (B + 1) (by simp [hB]) _ (alloc_h32 _) ?_) | (refine wpList_build_at rfl 44 _ rfl (.agg (ints .u8 (nn (zerN 32))).toArray) (by simp only [List.map_toArray, List.map_nil]; exact build_h32 _) ?_) | (refine wpList_store_blk rfl 44 _ _ rfl (B + 1) (ints .u8 (nn (zerN 32))) rfl rfl K1.out (by rw [size_hashV, hl]) rfl (ints_one _ _) ?_))
  clear K1
  go_loopw [6] (fun i wr => ∃ k : Nat, k ≤ 32 ∧ i = .int .i64 (k : Int) ∧ Blk wr B 44 (ints .u8 (nn (zerN 32))) ∧ Blk wr (B + 1) 44 (ints .u8 (nn (wrH (sl s) k))) ∧ Below w.heap.size w wr) (fun i _ => 32 - (intOf i).toNat)
  case atStart => exact ⟨0, by omega, rfl, J0.out, by rw [HS0.out]; exact J1.out, by rw [← HBE.out]; exact JB.out⟩
  case round =>
    obtain ⟨k, hk, rfl, b0, b1, gb⟩ := hrel
    clear J0 J1 JB
    by_cases hlt : k < 32
    · have d1 : (k : Int) < 32 := by omega
      have hix := index_sl s .i64 k (by omega)
      have hw := wrH_len HSL.out hk
      have hset := b1.setNat k ((sl s).getD k 0)
      rw [wrH_set HSL.out hlt] at hset
      have hc := b1.nat (j := k) (by omega)
      have hf := b1.free k
      have hb0 := b0.other (a := ⟨B + 1, k, none⟩) (show B + 1 ≠ B by omega) (.int .u8 (((sl s).getD k 0 : Nat) : Int))
      have hgb := gb.setCell (p := ⟨B + 1, k, none⟩) (show w.heap.size ≤ B + 1 by rw [HBE.out]; omega) (.int .u8 (((sl s).getD k 0 : Nat) : Int))
      have S1 := Lib.hid hset
      have S2 := Lib.hid hb0
      have S3 := Lib.hid hgb
      clear hset hb0 hgb hw b0 b1 gb
      generalize (sl s).getD k 0 = x at *
      generalize (wrH (sl s) k).getD k 0 = y at *
      go_wp2
      go_roundw
      case rel => exact ⟨k + 1, by omega, by go_num, S2.out, S1.out, S3.out⟩
      case measure => simp [intOf]; omega
    · obtain rfl : k = 32 := by omega
      rw [HW32.out] at b1
      have hHl : (ints .u8 (nn ((sl s).take 32))).length = 32 := by rw [ints_length, nn_length, List.length_take]; have := HSL.out; omega
      have hHo := ints_one .u8 (nn ((sl s).take 32))
      obtain ⟨H, hH⟩ : ∃ H, ints .u8 (nn ((sl s).take 32)) = H := ⟨_, rfl⟩
      have HHE := Lib.hid hH
      rw [hH] at b1 hHl hHo
      have B0 := Lib.hid b0
      have B1 := Lib.hid b1
      have GB := Lib.hid gb
      clear b0 b1 gb hH
      go_wp2_with fail
      refine region_mix 3 5 (by decide) mixed (by kernel_rfl) (by kernel_rfl) (fun u => #[_, _, _, u 4, _, _, _, _, _, _, _, _, _, _, _, _, _, _, _, _, _, u 0, u 1, u 2]) [] (fun i => match i with | 0 => _ | 1 => _ | 2 => _ | 4 => _ | _ => undef) rfl
        (hsC w B H) ⟨B1.out, B0.out, GB.out.drew⟩ (fun _ _ _ => True) (hsS H s RT) ?mono ?step ?one ?last
      case mono => exact fun b i v W W' _ h _ => hsS_mono i v W W' h
      case step =>
        intro bb u W i o hi hik _ ho hC hd
        rcases i with _ | _ | _ | _ | _ | i
        all_goals try (simp only [List.getElem?_cons_zero, List.getElem?_cons_succ, Option.some.injEq] at ho; subst ho)
        · have HB1 := Lib.hid hC.1
          go_wp2_with (refine wpList_load_blk rfl 44 _ rfl (B + 1) rfl HB1.out Try.underlying44 rfl (by rw [size_hashV, hHl]) ?_)
          exact ⟨_, rfl, rfl, hC, trivial⟩
        · go_wp2_with fail
          exact ⟨_, rfl, rfl, hC, trivial⟩
        · have h0 : u 1 = .string s := hd ⟨1, .data⟩ (by simp) rfl
          rw [h0]
          go_wp2_with fail
          exact ⟨_, by simp [upd, h0], rfl, hC, trivial⟩
        · omega
        · have h0 : u 2 = .string RT := hd ⟨2, .data⟩ (by simp) rfl
          rw [h0]
          go_wp2_with fail
          exact ⟨_, by simp [upd, h0], rfl, hC, trivial⟩
        · omega
      case one =>
        intro u W o ho hC hd
        simp only [List.getElem?_cons_zero, List.getElem?_cons_succ, Option.some.injEq] at ho
        subst ho
        have h0 : u 0 = .agg H.toArray := hd ⟨0, .data⟩ (by simp) rfl
        have hz : Blk W B 44 (ints .u8 (nn (zerN 32))) := hC.2.1
        have HZ := Lib.hid hz
        have Q1 := Lib.hid (hC.1.rowOther (show B + 1 ≠ B by omega) H.toArray)
        have Q2 := Lib.hid (hz.row H (by rw [hl, hHl]))
        have Q3 := Lib.hid (below_setRow hC.2.2 (show w.heap.size ≤ B by rw [HBE.out]; exact Nat.le_refl _) H.toArray)
        clear hz hC hd
        rw [h0]
        go_wp2_with (refine wpList_store_blk rfl 44 _ _ rfl B H rfl rfl HZ.out (by rw [size_hashV, hHl]) (by rw [hl, hHl]) hHo ?_)
        exact ⟨undef, by simp [upd, h0]; rfl, trivial, ⟨Q1.out, Q2.out, Q3.out⟩, trivial⟩
      case last =>
        intro u W o ho hC hS
        simp only [List.getElem?_cons_zero, List.getElem?_cons_succ, Option.some.injEq] at ho
        subst ho
        have h4 : u 4 = .string RT := hS 4 (by decide)
        have hz : Blk W B 44 H := hC.2.1
        have HZ := Lib.hid hz
        have Q3 := Lib.hid hC.2.2
        clear hS hC hz
        rw [h4]
        go_wp2_with fail
        refine bodyPost_ret (v := .tuple #[.agg H.toArray, .string RT, .int .i64 0]) (results_cell_tmp2 rfl _ _ B rfl (.string RT) (.int .i64 0) rfl rfl HZ.out Try.underlying44 rfl (by rw [size_hashV, hHl])) rfl ⟨by rw [HHE.out], Q3.out⟩
end Go.Proofs.Ytahfjfhiejhddaa
