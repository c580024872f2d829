/- Walks of seal's Keys, takenApart and Nonce. -/
import Derived.Test.YtleofmeejjikmaaLParts
namespace Go.Proofs.Ytleofmeejjikmaa
open Go.RowKit
set_option linter.unusedVariables false

set_option maxRecDepth 100000 in
set_option maxHeartbeats 400000 in
theorem l_keyFor (kb : Nat) (key what : ByteArray) (w : World) (hk : key.size ≤ 65536) (hs : what.size ≤ 65536) (hb : Blk w kb 9 [.string key]) :
    Calls Try.prog 22 #[.string what, .pointer (some ⟨kb, 0, none⟩)] w fun e w' => e = .returned (.agg (ints .u8 (nn (macN key what))).toArray) ∧ Below w.heap.size w w' := by
  have hM := fun w => d_MacN key what w (by omega) (by omega)
  have hOL := macN_len key what
  generalize macN key what = O at *
  have HM := Lib.hid hM
  have HOL := Lib.hid hOL
  clear hM hOL
  have hlt := hb.lt
  have hc : w.cell? ⟨kb, 0, none⟩ = some (.string key) := by rw [hb.cell]; rfl
  go_enter Try.func22, Try.ntmps22
  go_wp2_with fail
  generalize hW : World.alloc w _ = w1 at *
  have K1 : Blk w1 w.heap.size 29 (ints .u8 (nn (zerN 32))) := by rw [← hW]; exact Blk.newAt _ _ rfl _ _ rfl
  have Kb : Below w.heap.size w w1 := by rw [← hW]; exact (Below.refl _ _).alloc (Nat.le_refl _) _
  clear hW hb hc
  refine (HM.out _).mono ?_
  rintro e w2 ⟨rfl, hb2⟩
  have K2 := K1.below hb2 K1.lt
  go_wp2_with (refine wpList_store_blk rfl 29 _ _ rfl w.heap.size (ints .u8 (nn O)) rfl rfl K2 (by rw [size_hash, ints_length, nn_length, HOL.out]) (by rw [ints_length, ints_length, nn_length, nn_length, HOL.out]; rfl) (ints_one _ _) ?_)
  refine bodyPost_ret (v := .agg (ints .u8 (nn O)).toArray) (results_cell_blk rfl _ _ _ rfl (K2.row (ints .u8 (nn O)) (by rw [ints_length, ints_length, nn_length, nn_length, HOL.out]; rfl)) Try.underlying29 rfl (by rw [size_hash, ints_length, nn_length, HOL.out])) rfl ⟨rfl, below_setRow (Kb.trans (hb2.mono Kb.size)) (by omega) _⟩

set_option maxRecDepth 100000 in
set_option maxHeartbeats 400000 in
theorem l_Keys (key : ByteArray) (w : World) (hk : key.size ≤ 65536) :
    Calls Try.prog 10 #[.string key] w fun e w' => e = .returned (.tuple #[.agg (ints .u8 (nn (keyA key))).toArray, .agg (ints .u8 (nn (keyB key))).toArray]) ∧ Below w.heap.size w w' := by
  have hA : ∀ (kb : Nat) (w : World), Blk w kb 9 [.string key] → Calls Try.prog 22 #[.string ⟨#[114, 101, 97, 100]⟩, .pointer (some ⟨kb, 0, none⟩)] w fun e w' => e = .returned (.agg (ints .u8 (nn (keyA key))).toArray) ∧ Below w.heap.size w w' := fun kb w hb => l_keyFor kb key wRead w hk (by decide) hb
  have hB : ∀ (kb : Nat) (w : World), Blk w kb 9 [.string key] → Calls Try.prog 22 #[.string ⟨#[115, 101, 97, 108]⟩, .pointer (some ⟨kb, 0, none⟩)] w fun e w' => e = .returned (.agg (ints .u8 (nn (keyB key))).toArray) ∧ Below w.heap.size w w' := fun kb w hb => l_keyFor kb key wSeal w hk (by decide) hb
  have hAL : (keyA key).length = 32 := macN_len _ _
  have hBL : (keyB key).length = 32 := macN_len _ _
  generalize keyA key = A at *
  generalize keyB key = B at *
  have HA := Lib.hid hA
  have HB := Lib.hid hB
  have HAL := Lib.hid hAL
  have HBL := Lib.hid hBL
  clear hA hB hAL hBL
  go_enter Try.func10, Try.ntmps10
  go_wp2_with fail
  generalize hW : World.alloc (World.alloc (World.alloc w _) _) _ = w1 at *
  have K0 : Blk w1 w.heap.size 9 [.string key] := by rw [← hW]; exact ((Blk.newAt w _ rfl _ [.string key] rfl).alloc _).alloc _
  have K1 : Blk w1 (w.heap.size + 1) 29 (ints .u8 (nn (zerN 32))) := by rw [← hW]; exact (Blk.newAt _ _ (by simp) _ _ rfl).alloc _
  have K2 : Blk w1 (w.heap.size + 2) 29 (ints .u8 (nn (zerN 32))) := by rw [← hW]; exact Blk.newAt _ _ (by simp) _ _ rfl
  have Kb : Below w.heap.size w w1 := by rw [← hW]; exact (((Below.refl _ _).alloc (Nat.le_refl _) _).alloc (by simp) _).alloc (by simp; omega) _
  clear hW
  go_wp2_with fail
  refine (HA.out _ _ K0).mono ?_
  rintro e w2 ⟨rfl, hb2⟩
  have J0 := K0.below hb2 K0.lt
  have J1 := K1.below hb2 K1.lt
  have J2 := K2.below hb2 K2.lt
  have Jb := Kb.trans (hb2.mono Kb.size)
  clear K0 K1 K2 Kb hb2
  go_wp2_with fail
  refine (HB.out _ _ J0).mono ?_
  rintro e w3 ⟨rfl, hb3⟩
  have I1 := J1.below hb3 J1.lt
  have I2 := J2.below hb3 J2.lt
  have Ib := Jb.trans (hb3.mono Jb.size)
  clear J0 J1 J2 Jb hb3
  have M2 := I2.rowOther (g := w.heap.size + 1) (by omega) (ints .u8 (nn A)).toArray
  go_wp2_with (first | (refine wpList_store_blk rfl 29 _ _ rfl (w.heap.size + 1) (ints .u8 (nn A)) rfl rfl I1 (by rw [size_hash, ints_length, nn_length, HAL.out]) (by rw [ints_length, ints_length, nn_length, nn_length, HAL.out]; rfl) (ints_one _ _) ?_) | (refine wpList_store_blk rfl 29 _ _ rfl (w.heap.size + 2) (ints .u8 (nn B)) rfl rfl M2 (by rw [size_hash, ints_length, nn_length, HBL.out]) (by rw [ints_length, ints_length, nn_length, nn_length, HBL.out]; rfl) (ints_one _ _) ?_))
  refine bodyPost_ret (v := .tuple #[.agg (ints .u8 (nn A)).toArray, .agg (ints .u8 (nn B)).toArray]) (results_cells2 rfl _ _ _ _ rfl rfl ((I1.row (ints .u8 (nn A)) (by rw [ints_length, ints_length, nn_length, nn_length, HAL.out]; rfl)).rowOther (by omega) _) (M2.row (ints .u8 (nn B)) (by rw [ints_length, ints_length, nn_length, nn_length, HBL.out]; rfl)) Try.underlying29 rfl (by rw [size_hash, ints_length, nn_length, HAL.out]) Try.underlying29 rfl (by rw [size_hash, ints_length, nn_length, HBL.out])) rfl ⟨rfl, below_setRow (below_setRow Ib (by omega) _) (by omega) _⟩

set_option maxRecDepth 100000 in
set_option maxHeartbeats 400000 in
theorem l_Nonce (s : ByteArray) (w : World) (hs : s.size ≤ 65536) :
    Calls Try.prog 12 #[.string s] w fun e w' => e = .returned (.tuple #[.agg (ints .u8 (nn (nonceN s))).toArray, .bool (decide (16 ≤ s.size))]) ∧ Below w.heap.size w w' := by
  have hNL := nonceN_len s
  have HNL := Lib.hid hNL
  clear hNL
  by_cases h : s.size < 16
  · have e1 : nonceN s = zerN 16 := if_pos h
    have e2 : decide (16 ≤ s.size) = false := by simp; omega
    have g1 : (s.size : Int) < 16 := by omega
    rw [e1, e2]
    clear HNL e1 e2
    have K0 : Blk ((w.alloc (.cells (ints .u8 (nn (zerN 16))).toArray 23)).alloc (.cells (ints .u8 (nn (zerN 16))).toArray 23)) w.heap.size 23 (ints .u8 (nn (zerN 16))) := (Blk.new w _ _).alloc _
    have K1 : Blk ((w.alloc (.cells (ints .u8 (nn (zerN 16))).toArray 23)).alloc (.cells (ints .u8 (nn (zerN 16))).toArray 23)) (w.heap.size + 1) 23 (ints .u8 (nn (zerN 16))) := Blk.newAt _ _ (by simp) _ _ (by simp)
    have Kb : Below w.heap.size w ((w.alloc (.cells (ints .u8 (nn (zerN 16))).toArray 23)).alloc (.cells (ints .u8 (nn (zerN 16))).toArray 23)) := ((Below.refl _ _).alloc (Nat.le_refl _) _).alloc (by simp) _
    rw [lit16] at K0 K1 Kb
    have hK0 := Lib.hid K0
    have hK1 := Lib.hid K1
    have hKb := Lib.hid Kb
    clear K0 K1 Kb
    go_enter Try.func12, Try.ntmps12
    go_wp2_with (first | (refine wpList_load_blk rfl 23 _ rfl _ rfl hK1.out Try.underlying23 rfl size_b16' ?_) | (refine wpList_store_blk rfl 23 _ _ rfl w.heap.size (ints .u8 (nn (zerN 16))) rfl rfl hK0.out size_b16' rfl (ints_one _ _) ?_))
    refine bodyPost_ret (v := .tuple #[.agg (ints .u8 (nn (zerN 16))).toArray, .bool false]) (results_cell_tmp rfl _ _ _ rfl (.bool false) rfl (hK0.out.row (ints .u8 (nn (zerN 16))) rfl) Try.underlying23 rfl size_b16') rfl ⟨rfl, below_setRow hKb.out (by omega) _⟩
  · have e1 : nonceN s = (sl s).take 16 := if_neg h
    have e2 : decide (16 ≤ s.size) = true := by simp; omega
    have g1 : ¬ (s.size : Int) < 16 := by omega
    have e3 : (is s).take 16 = nn (nonceN s) := by rw [e1, is_sl]; simp [nn]
    rw [e2]
    clear e1 e2
    generalize nonceN s = N at *
    have hN : (ints .u8 (nn N)).length = 16 := by rw [ints_length, nn_length, HNL.out]
    have K0 : Blk ((w.alloc (.cells (ints .u8 (nn (zerN 16))).toArray 23)).alloc (.cells (ints .u8 (nn (zerN 16))).toArray 23)) w.heap.size 23 (ints .u8 (nn (zerN 16))) := (Blk.new w _ _).alloc _
    have K1 : Blk ((w.alloc (.cells (ints .u8 (nn (zerN 16))).toArray 23)).alloc (.cells (ints .u8 (nn (zerN 16))).toArray 23)) (w.heap.size + 1) 23 (ints .u8 (nn (zerN 16))) := Blk.newAt _ _ (by simp) _ _ (by simp)
    have Kb : Below w.heap.size w ((w.alloc (.cells (ints .u8 (nn (zerN 16))).toArray 23)).alloc (.cells (ints .u8 (nn (zerN 16))).toArray 23)) := ((Below.refl _ _).alloc (Nat.le_refl _) _).alloc (by simp) _
    rw [lit16] at K0 K1 Kb
    have J0 := K0.rowOther (g := w.heap.size + 1) (by omega) (ints .u8 (nn N)).toArray
    have J1 := K1.row (ints .u8 (nn N)) (by rw [hN]; rfl)
    have Jb := below_setRow Kb (b := w.heap.size + 1) (by omega) (ints .u8 (nn N)).toArray
    have hnew : ints .u8 (nn N) = [] ++ (ints .u8 ((is s).take 16) ++ []) := by rw [e3]; simp
    have hold : ints .u8 (nn (zerN 16)) = [] ++ (ints .u8 (nn (zerN 16)) ++ []) := by simp
    have HNew := Lib.hid hnew
    have HOld := Lib.hid hold
    have HN := Lib.hid hN
    have hK1 := Lib.hid K1
    have hJ0 := Lib.hid J0
    have hJ1 := Lib.hid J1
    have hJb := Lib.hid Jb
    clear hnew hold hN e3 K0 K1 Kb J0 J1 Jb
    go_enter Try.func12, Try.ntmps12
    go_wp2_with (first | (refine wpList_copy_part rfl _ _ 53 9 5 rfl (w.heap.size + 1) 0 16 16 rfl s rfl hK1.out (ints .u8 (nn N)) [] (ints .u8 (nn (zerN 16))) [] HOld.out HNew.out Try.underlying53 size_u8 (by omega) rfl rfl ?_) | (refine wpList_load_blk rfl 23 _ rfl _ rfl hJ1.out Try.underlying23 rfl (by rw [size_b16', HN.out]) ?_) | (refine wpList_store_blk rfl 23 _ _ rfl w.heap.size (ints .u8 (nn N)) rfl rfl hJ0.out (by rw [size_b16', HN.out]) (by rw [HN.out]; rfl) (ints_one _ _) ?_))
    refine bodyPost_ret (v := .tuple #[.agg (ints .u8 (nn N)).toArray, .bool true]) (results_cell_tmp rfl _ _ _ rfl (.bool true) rfl (hJ0.out.row (ints .u8 (nn N)) (by rw [HN.out]; rfl)) Try.underlying23 rfl (by rw [size_b16', HN.out])) rfl ⟨rfl, below_setRow hJb.out (by omega) _⟩
end Go.Proofs.Ytleofmeejjikmaa
