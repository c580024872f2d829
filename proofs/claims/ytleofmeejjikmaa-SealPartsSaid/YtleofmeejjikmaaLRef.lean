/- Walks of the reference's Keys, bytes, Nonce, Seal and Open of seal. -/
import Derived.Test.YtleofmeejjikmaaLOpen
import Derived.Test.YtleofmeejjikmaaR3
import Derived.Test.YtleofmeejjikmaaS2
namespace Go.Proofs.Ytleofmeejjikmaa
open Go.RowKit
set_option linter.unusedVariables false

theorem r_MacN (key s : ByteArray) (w : World) (hk : key.size ≤ 549755813888) (hs : s.size ≤ 549755813000) :
    Calls Try.prog 16 #[.string key, .string s] w fun e w' => e = .returned (.agg (ints .u8 (nn (macN key s))).toArray) ∧ Below w.heap.size w w' := by
  rw [macN_nn]
  exact r_Mac key s w hk hs
theorem r_BytesN (h : List Nat) (w : World) (hh : h.length = 32) :
    Calls Try.prog 17 #[.agg (ints .u8 (nn h)).toArray] w fun e w' => e = .returned (.string (tx h)) ∧ Below w.heap.size w w' := r_Bytes (nn h) w (by rw [nn_length, hh])
theorem r_Hid (key nc : List Nat) (s : ByteArray) (w : World) (hk : key.length = 32) (hkb : Bys key) (hn : nc.length = 16) (hnb : Bys nc) (hs : s.size ≤ 65536) :
    Calls Try.prog 18 #[.agg (ints .u8 (nn key)).toArray, .agg (ints .u8 (nn nc)).toArray, .string s] w fun e w' => e = .returned (.string (hidT key nc s)) ∧ Below w.heap.size w w' :=
  r_Apply key nc s w hk hkb hn hnb hs

set_option maxRecDepth 100000 in
set_option maxHeartbeats 400000 in
theorem r5_Keys (key : ByteArray) (w : World) (hk : key.size ≤ 65536) :
    Calls Try.prog 11 #[.string key] w fun e w' => e = .returned (.tuple #[.agg (ints .u8 (nn (keyA key))).toArray, .agg (ints .u8 (nn (keyB key))).toArray]) ∧ Below w.heap.size w w' := by
  have hA : ∀ w, Calls Try.prog 16 #[.string key, .string ⟨#[114, 101, 97, 100]⟩] w fun e w' => e = .returned (.agg (ints .u8 (nn (keyA key))).toArray) ∧ Below w.heap.size w w' := fun w => r_MacN key wRead w (by omega) (by decide)
  have hB : ∀ w, Calls Try.prog 16 #[.string key, .string ⟨#[115, 101, 97, 108]⟩] w fun e w' => e = .returned (.agg (ints .u8 (nn (keyB key))).toArray) ∧ Below w.heap.size w w' := fun w => r_MacN key wSeal w (by omega) (by decide)
  have hAL : (keyA key).length = 32 := macN_len _ _
  have hBL : (keyB key).length = 32 := macN_len _ _
  generalize keyA key = A at *
  generalize keyB key = B at *
  have HA := Lib.hid hA
  have HB := Lib.hid hB
  have HAL := Lib.hid hAL
  have HBL := Lib.hid hBL
  clear hA hB hAL hBL
  go_enter Try.func11, Try.ntmps11
  go_wp2_with fail
  generalize hW : World.alloc (World.alloc w _) _ = w1 at *
  have K1 : Blk w1 w.heap.size 29 (ints .u8 (nn (zerN 32))) := by rw [← hW]; exact (Blk.newAt w _ rfl _ _ rfl).alloc _
  have K2 : Blk w1 (w.heap.size + 1) 29 (ints .u8 (nn (zerN 32))) := by rw [← hW]; exact Blk.newAt _ _ (by simp) _ _ rfl
  have Kb : Below w.heap.size w w1 := by rw [← hW]; exact ((Below.refl _ _).alloc (Nat.le_refl _) _).alloc (by simp) _
  clear hW
  refine (HA.out _).mono ?_
  rintro e w2 ⟨rfl, hb2⟩
  have J1 := K1.below hb2 K1.lt
  have J2 := K2.below hb2 K2.lt
  have Jb := Kb.trans (hb2.mono Kb.size)
  clear K1 K2 Kb hb2
  go_wp2_with fail
  refine (HB.out _).mono ?_
  rintro e w3 ⟨rfl, hb3⟩
  have I1 := J1.below hb3 J1.lt
  have I2 := J2.below hb3 J2.lt
  have Ib := Jb.trans (hb3.mono Jb.size)
  clear J1 J2 Jb hb3
  have M2 := I2.rowOther (g := w.heap.size) (by omega) (ints .u8 (nn A)).toArray
  go_wp2_with (first | (refine wpList_store_blk rfl 29 _ _ rfl w.heap.size (ints .u8 (nn A)) rfl rfl I1 (by rw [size_hash, ints_length, nn_length, HAL.out]) (by rw [ints_length, ints_length, nn_length, nn_length, HAL.out]; rfl) (ints_one _ _) ?_) | (refine wpList_store_blk rfl 29 _ _ rfl (w.heap.size + 1) (ints .u8 (nn B)) rfl rfl M2 (by rw [size_hash, ints_length, nn_length, HBL.out]) (by rw [ints_length, ints_length, nn_length, nn_length, HBL.out]; rfl) (ints_one _ _) ?_))
  refine bodyPost_ret (v := .tuple #[.agg (ints .u8 (nn A)).toArray, .agg (ints .u8 (nn B)).toArray]) (results_cells2 rfl _ _ _ _ rfl rfl ((I1.row (ints .u8 (nn A)) (by rw [ints_length, ints_length, nn_length, nn_length, HAL.out]; rfl)).rowOther (by omega) _) (M2.row (ints .u8 (nn B)) (by rw [ints_length, ints_length, nn_length, nn_length, HBL.out]; rfl)) Try.underlying29 rfl (by rw [size_hash, ints_length, nn_length, HAL.out]) Try.underlying29 rfl (by rw [size_hash, ints_length, nn_length, HBL.out])) rfl ⟨rfl, below_setRow (below_setRow Ib (by omega) _) (by omega) _⟩

theorem underlying_b16r : Try.prog.underlying 34 = some (.array 16 5) := by kernel_rfl
theorem size_b16r : (Try.prog.info? 34).map (·.size) = some 16 := by kernel_rfl
set_option maxHeartbeats 1000000 in
set_option maxRecDepth 100000 in
theorem r5_bytes (h : List Nat) (w : World) (hh : h.length = 16) :
    Calls Try.prog 25 #[.agg (ints .u8 (nn h)).toArray] w fun e w' => e = .returned (.string (tx h)) ∧ Below w.heap.size w w' := by
  show Calls Try.prog 25 #[.agg (ints .u8 (nn h)).toArray] w fun e w' => e = .returned (.string (bs (nn h))) ∧ Below w.heap.size w w'
  have hh' : (nn h).length = 16 := by rw [nn_length, hh]
  generalize nn h = h at *
  have HH := Lib.hid hh'
  clear hh' hh
  go_enter Try.func25, Try.ntmps25
  go_wp2
  have hh1 : Blk ((w.alloc (.cells (ints .u8 h).toArray 34)).alloc (.cells #[] 5)) w.heap.size 34 (ints .u8 h) := (Blk.new w 34 (ints .u8 h)).alloc _
  have hk : OwnB ((w.alloc (.cells (ints .u8 h).toArray 34)).alloc (.cells #[] 5)) (w.heap.size + 1) 5 (.slice (some ⟨w.heap.size + 1, 0, none⟩) 0 0) (h.take 0) :=
    OwnB.ofBlk (l := []) [] (Blk.new2 w _ 5 (ints .u8 []) rfl) (Nat.le_refl _) rfl (by unfold maxLen; omega)
  have hbw : Below w.heap.size w ((w.alloc (.cells (ints .u8 h).toArray 34)).alloc (.cells #[] 5)) := ((Below.refl _ _).alloc (Nat.le_refl _) _).alloc (by simp) _
  have hs2 : w.heap.size + 1 ≤ ((w.alloc (.cells (ints .u8 h).toArray 34)).alloc (.cells #[] 5)).heap.size := by simp
  generalize World.alloc (World.alloc w _) _ = w2 at *
  go_loopw [3, 4] (fun v i wr => ∃ k : Nat, k ≤ 16 ∧ i = .int .i64 k ∧ OwnB wr (w.heap.size + 1) 5 v (h.take k) ∧ Below (w.heap.size + 1) w2 wr) (fun _ i _ => 16 - (intOf i).toNat)
  case atStart => exact ⟨0, by omega, rfl, hk, Below.refl _ _⟩
  case round =>
    obtain ⟨k, hk32, rfl, hown, hbel⟩ := hrel
    have hbelw : Below w.heap.size w wr := hbw.trans (hbel.mono (by omega))
    by_cases hlt : k < 16
    · have hc := (hh1.below hbel (Nat.lt_succ_self _)).int (j := k) (by rw [HH.out]; omega)
      have hstep : h.take (k + 1) = h.take k ++ [h.getD k 0] := by
        rw [List.take_succ_eq_append_getElem (by rw [HH.out]; omega)]
        simp [HH.out, hlt]
      have hlen : (h.take k).length = k := by rw [List.length_take, HH.out]; omega
      have Hs := Lib.hid hstep
      have Hl := Lib.hid hlen
      clear hstep hlen hk
      generalize h.getD k 0 = x at *
      generalize h.take k = l at *
      have hcap : l.length + [x].length ≤ 140737488355328 := by rw [Hl.out]; simp; omega
      have hsz : w.heap.size + 1 ≤ wr.heap.size := Nat.le_trans hs2 hbel.size
      have hk64 : (k : Int) < 16 := by omega
      go_wp2_with (first | (at_builtin; refine wpList_append_bytes rfl _ _ 53 rfl (w.heap.size + 1) 5 Try.underlying53 info_u8 _ l rfl (hown.alloc _) wr.heap.size 1 1 [x] rfl rfl (range_new wr 5 [x]) hcap (alloc_ge wr _ hsz) ?_; intro v' w4 hown4 hgrow4))
      have hb4 : Below (w.heap.size + 1) w2 w4 := Below.grown (hbel.alloc hsz _) hgrow4 (alloc_ge wr _ hsz) (fun k hk => (hown.lt k hk).1)
      go_roundw
      case rel => exact ⟨k + 1, by omega, by go_num, by rw [Hs.out]; exact hown4, hb4⟩
      case measure => simp [intOf]; omega
    · obtain rfl : k = 16 := by omega
      have hfull : h.take 16 = h := List.take_of_length_le (by rw [HH.out]; exact Nat.le_refl _)
      rw [hfull] at hown
      clear hfull hk
      go_wp2_with (first | (refine wpList_string_own rfl 53 9 5 _ rfl (w.heap.size + 1) _ h rfl Try.underlying53 Try.underlying5 Try.underlying9 hown ?_))
      go_ret
      exact ⟨rfl, hbelw⟩
end Go.Proofs.Ytleofmeejjikmaa
