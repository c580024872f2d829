/- Walk of cipher's Encrypt. -/
import Derived.Test.YtgagafefhmofjaaCipJ
import Derived.Test.YtgagafefhmofjaaCipK
namespace Go.Proofs.Ytgagafefhmofjaa
open Go.RowKit Go.Shelf
set_option linter.unusedVariables false

def lookG (_ v : Nat) : Nat := eachN boxG v
/-- a block behind the round r -/
def rnd (K : List Nat) (r : Nat) (b : List Nat) : List Nat :=
  chAll (addG K r) (if r < 14 then chAll mixG (turnL (chAll lookG b)) else turnL (chAll lookG b))
def encN (K b : List Nat) : Nat → List Nat
  | 0 => chAll (addG K 0) b
  | r + 1 => rnd K (r + 1) (encN K b r)
def encL (K b : List Nat) : List Nat := encN K b 14
theorem chAll_len (g : Nat → Nat → Nat) (b : List Nat) : (chAll g b).length = b.length := chL_len _ _ _
theorem chAll_bys (g : Nat → Nat → Nat) {b : List Nat} (h : Bys b) : Bys (chAll g b) := chL_bys _ h _
theorem turnL_len (b : List Nat) : (turnL b).length = b.length := turnP_len _ _
theorem turnL_bys {b : List Nat} (h : Bys b) : Bys (turnL b) := turnP_bys h _
theorem rnd_len (K : List Nat) (r : Nat) (b : List Nat) : (rnd K r b).length = b.length := by
  unfold rnd
  rw [chAll_len]
  split
  · rw [chAll_len, turnL_len, chAll_len]
  · rw [turnL_len, chAll_len]
theorem rnd_bys (K : List Nat) (r : Nat) {b : List Nat} (h : Bys b) : Bys (rnd K r b) := by
  unfold rnd
  refine chAll_bys _ ?_
  split
  · exact chAll_bys _ (turnL_bys (chAll_bys _ h))
  · exact turnL_bys (chAll_bys _ h)
theorem encN_len (K b : List Nat) : ∀ r, (encN K b r).length = b.length
  | 0 => chAll_len _ _
  | r + 1 => (rnd_len _ _ _).trans (encN_len K b r)
theorem encN_bys (K : List Nat) {b : List Nat} (h : Bys b) : ∀ r, Bys (encN K b r)
  | 0 => chAll_bys _ h
  | r + 1 => rnd_bys _ _ (encN_bys K h r)

set_option maxHeartbeats 4000000 in
set_option maxRecDepth 100000 in
theorem c_Encrypt (K b : List Nat) (w : World) (hK : K.length = 60) (hKw : Words K) (hb : b.length = 16) (hby : Bys b) :
    Calls Try.prog 12 #[.agg (ints .u32 (nn K)).toArray, .agg (ints .u8 (nn b)).toArray] w fun e w' => e = .returned (.agg (ints .u8 (nn (encL K b))).toArray) ∧ Below w.heap.size w w' := by
  obtain ⟨L, hL⟩ : ∃ L, encL K b = L := ⟨_, rfl⟩
  have hLL : L.length = 16 := by rw [← hL]; exact (encN_len _ _ _).trans hb
  rw [hL]
  have HL := Lib.hid hL
  have HLL := Lib.hid hLL
  have HB := Lib.hid hb
  have HK := Lib.hid hK
  clear hL hLL hb hK
  have m0 : Blk (w.alloc (.cells (ints .u32 (nn K)).toArray 26)) w.heap.size 26 (ints .u32 (nn K)) := Blk.new _ _ _
  have m1 := m0.alloc (.cells (ints .u8 (nn b)).toArray 28)
  have m2 : Blk ((w.alloc (.cells (ints .u32 (nn K)).toArray 26)).alloc (.cells (ints .u8 (nn b)).toArray 28)) (w.heap.size + 1) 28 (ints .u8 (nn b)) := Blk.new2 _ _ _ _ rfl
  have k0 := m1.alloc (.cells (ints .u8 (nn (zerN 16))).toArray 28)
  have k1 := m2.alloc (.cells (ints .u8 (nn (zerN 16))).toArray 28)
  have k2 : Blk (((w.alloc (.cells (ints .u32 (nn K)).toArray 26)).alloc (.cells (ints .u8 (nn b)).toArray 28)).alloc (.cells (ints .u8 (nn (zerN 16))).toArray 28)) (w.heap.size + 1 + 1) 28 (ints .u8 (nn (zerN 16))) := by
    have := Blk.new2 (w.alloc (.cells (ints .u32 (nn K)).toArray 26)) (.cells (ints .u8 (nn b)).toArray 28) 28 (ints .u8 (nn (zerN 16))) rfl
    rw [World.size_alloc] at this
    exact this
  have kb : Below w.heap.size w (((w.alloc (.cells (ints .u32 (nn K)).toArray 26)).alloc (.cells (ints .u8 (nn b)).toArray 28)).alloc (.cells (ints .u8 (nn (zerN 16))).toArray 28)) := (((Below.refl _ _).alloc (Nat.le_refl _) _).alloc (by simp) _).alloc (by simp; omega) _
  have hBox := fun w => c_Box w
  have HBox := Lib.hid hBox
  clear hBox m0 m1 m2
  go_enter Try.func12, Try.ntmps12
  go_wp2_with (first | (refine wpList_alloc_at rfl 28 rfl _ _ (alloc_b16 _) ?_))
  generalize World.alloc (World.alloc (World.alloc w _) _) _ = w3 at *
  refine (HBox.out _).mono ?_
  rintro e w4 ⟨rfl, hb4⟩
  go_wp2_with fail
  refine (c_finder _).mono ?_
  rintro e w5 ⟨rfl, rfl⟩
  have h0 := (k0.below hb4 k0.lt).alloc (.cells (ints .u8 (nn boxT)).toArray 55)
  have h1 := (k1.below hb4 k1.lt).alloc (.cells (ints .u8 (nn boxT)).toArray 55)
  have h2 := (k2.below hb4 k2.lt).alloc (.cells (ints .u8 (nn boxT)).toArray 55)
  have hx : Blk (w4.alloc (.cells (ints .u8 (nn boxT)).toArray 55)) w4.heap.size 55 (ints .u8 (nn boxT)) := Blk.new _ _ _
  have hw5 : Below w.heap.size w (w4.alloc (.cells (ints .u8 (nn boxT)).toArray 55)) := (kb.trans (hb4.mono kb.size)).alloc (by have := kb.size; have := hb4.size; omega) _
  have hxlt : w.heap.size + 1 + 1 < w4.heap.size := Nat.lt_of_lt_of_le k2.lt hb4.size
  clear k0 k1 k2 kb hb4
  generalize World.alloc w4 _ = w5 at *
  generalize w4.heap.size = bx at *
  go_wp2_with (first | (refine wpList_load_blk rfl 28 _ rfl _ rfl h1 Try.underlying28 rfl (by rw [size_b16, ints_length, nn_length, HB.out]) ?_) | (refine wpList_load_blk rfl 26 _ rfl _ rfl h0 Try.underlying26 rfl (by rw [size_k60, ints_length, nn_length, HK.out]) ?_))
  refine (c_added b K 0 _ HB.out hby HK.out hKw (by omega)).mono ?_
  rintro e w6 ⟨rfl, hb6⟩
  have hl0 : (chAll (addG K 0) b).length = 16 := (chAll_len _ _).trans HB.out
  have HL0 := Lib.hid hl0
  clear hl0
  have i0 := h0.below hb6 h0.lt
  have i1 := h1.below hb6 h1.lt
  have i2 := h2.below hb6 h2.lt
  have ix := hx.below hb6 hx.lt
  have iw := hw5.trans (hb6.mono hw5.size)
  clear h0 h1 h2 hx hw5 hb6
  go_wp2_with (first | (refine wpList_store_blk rfl 28 _ _ rfl _ (ints .u8 (nn (chAll (addG K 0) b))) rfl rfl i1 (by rw [size_b16, ints_length, nn_length, HL0.out]) (by rw [ints_length, ints_length, nn_length, nn_length, HB.out, HL0.out]) (ints_one _ _) ?_))
  have j1 : Blk (w6.setRow (w.heap.size + 1) (ints .u8 (nn (chAll (addG K 0) b))).toArray) (w.heap.size + 1) 28 (ints .u8 (nn (encN K b 0))) := i1.row (ints .u8 (nn (chAll (addG K 0) b))) (by rw [ints_length, ints_length, nn_length, nn_length, HB.out, HL0.out])
  have j0 := i0.rowOther (show w.heap.size ≠ w.heap.size + 1 by omega) (ints .u8 (nn (chAll (addG K 0) b))).toArray
  have j2 := i2.rowOther (show w.heap.size + 1 + 1 ≠ w.heap.size + 1 by omega) (ints .u8 (nn (chAll (addG K 0) b))).toArray
  have jx := ix.rowOther (show bx ≠ w.heap.size + 1 by omega) (ints .u8 (nn (chAll (addG K 0) b))).toArray
  have jw := below_setRow iw (show w.heap.size ≤ w.heap.size + 1 by omega) (ints .u8 (nn (chAll (addG K 0) b))).toArray
  clear i0 i1 i2 ix iw HL0
  generalize World.setRow _ _ _ = w7 at *
  go_loopw [6] (fun i wr => ∃ n : Nat, n ≤ 14 ∧ i = .int .i64 ((n : Int) + 1) ∧ Blk wr (w.heap.size + 1) 28 (ints .u8 (nn (encN K b n))) ∧ Blk wr w.heap.size 26 (ints .u32 (nn K)) ∧ Blk wr (w.heap.size + 1 + 1) 28 (ints .u8 (nn (zerN 16))) ∧ Blk wr bx 55 (ints .u8 (nn boxT)) ∧ Below w.heap.size w wr) (fun i _ => 15 - (intOf i).toNat)
  case atStart => exact ⟨0, by omega, rfl, j1, j0, j2, jx, jw⟩
  case round =>
    obtain ⟨n, hn, rfl, j1, j0, j2, jx, jw⟩ := hrel
    have hlen := (encN_len K b n).trans HB.out
    have hbys := encN_bys K hby n
    have hstep : encN K b (n + 1) = rnd K (n + 1) (encN K b n) := rfl
    have HS := Lib.hid hstep
    clear hstep
    by_cases hlt : n < 14
    · have l1 : (chAll lookG (encN K b n)).length = 16 := (chAll_len _ _).trans hlen
      have l2 : (turnL (chAll lookG (encN K b n))).length = 16 := (turnL_len _).trans l1
      have b2 : Bys (turnL (chAll lookG (encN K b n))) := turnL_bys (chAll_bys _ hbys)
      have l3 : (chAll mixG (turnL (chAll lookG (encN K b n)))).length = 16 := (chAll_len _ _).trans l2
      have b3 : Bys (chAll mixG (turnL (chAll lookG (encN K b n)))) := chAll_bys _ b2
      have hCh := fun w h => c_changed (encN K b n) bx w hlen hbys h
      rw [show chAll (fun _ v => eachN boxG v) (encN K b n) = chAll lookG (encN K b n) from rfl] at hCh
      have hTu := fun w => c_turned (chAll lookG (encN K b n)) w l1
      have hMi := fun w => c_mixed (turnL (chAll lookG (encN K b n))) w l2 b2
      have hAm := fun w => c_added (chAll mixG (turnL (chAll lookG (encN K b n)))) K (n + 1) w l3 b3 HK.out hKw (by omega)
      have hAl := fun w => c_added (turnL (chAll lookG (encN K b n))) K (n + 1) w l2 b2 HK.out hKw (by omega)
      have q1 : n + 1 < 14 → chAll (addG K (n + 1)) (chAll mixG (turnL (chAll lookG (encN K b n)))) = encN K b (n + 1) := fun h => by rw [HS.out]; unfold rnd; rw [if_pos h]
      have q2 : ¬ n + 1 < 14 → chAll (addG K (n + 1)) (turnL (chAll lookG (encN K b n))) = encN K b (n + 1) := fun h => by rw [HS.out]; unfold rnd; rw [if_neg h]
      have l4 := (encN_len K b (n + 1)).trans HB.out
      have HCh := Lib.hid hCh
      have HTu := Lib.hid hTu
      have HMi := Lib.hid hMi
      have HAm := Lib.hid hAm
      have HAl := Lib.hid hAl
      have Q1 := Lib.hid q1
      have Q2 := Lib.hid q2
      have L1 := Lib.hid l1
      have L2 := Lib.hid l2
      have L3 := Lib.hid l3
      have L4 := Lib.hid l4
      have HLen := Lib.hid hlen
      clear hCh hTu hMi hAm hAl q1 q2 l1 l2 l3 l4 b2 b3 HS hlen hbys
      generalize hX4 : encN K b (n + 1) = X4 at *
      have HX := Lib.hid hX4
      clear hX4
      generalize chAll mixG (turnL (chAll lookG (encN K b n))) = X3 at *
      generalize turnL (chAll lookG (encN K b n)) = X2 at *
      generalize chAll lookG (encN K b n) = X1 at *
      generalize encN K b n = X0 at *
      have n1 : (n : Int) + 1 ≤ 14 := by omega
      go_wp2_with (first | (refine wpList_load_blk rfl 28 _ rfl _ rfl j1 Try.underlying28 rfl (by rw [size_b16, ints_length, nn_length, HLen.out]) ?_))
      refine (HCh.out _ jx).mono ?_
      rintro e w1 ⟨rfl, hb1⟩
      go_wp2_with fail
      refine (HTu.out _).mono ?_
      rintro e w2 ⟨rfl, hb2⟩
      have hbb := hb1.trans (hb2.mono hb1.size)
      have i1 := j1.below hbb j1.lt
      have i0 := j0.below hbb j0.lt
      have i2 := j2.below hbb j2.lt
      have ix := jx.below hbb jx.lt
      have iw := jw.trans (hbb.mono jw.size)
      clear j1 j0 j2 jx jw hb1 hb2 hbb
      by_cases h14 : n + 1 < 14
      · have n2 : (n : Int) + 1 < 14 := by omega
        have X4e := Q1.out h14
        have HX4 := Lib.hid X4e
        clear X4e
        go_wp2_with (first | (refine wpList_store_blk rfl 28 _ _ rfl _ (ints .u8 (nn X2)) rfl rfl i1 (by rw [size_b16, ints_length, nn_length, L2.out]) (by rw [ints_length, ints_length, nn_length, nn_length, HLen.out, L2.out]) (ints_one _ _) ?_) | (refine wpList_load_blk rfl 28 _ rfl _ rfl (i1.row (ints .u8 (nn X2)) (by rw [ints_length, ints_length, nn_length, nn_length, HLen.out, L2.out])) Try.underlying28 rfl (by rw [size_b16, ints_length, nn_length, L2.out]) ?_))
        have j1 := i1.row (ints .u8 (nn X2)) (by rw [ints_length, ints_length, nn_length, nn_length, HLen.out, L2.out])
        have j0 := i0.rowOther (show w.heap.size ≠ w.heap.size + 1 by omega) (ints .u8 (nn X2)).toArray
        have j2 := i2.rowOther (show w.heap.size + 1 + 1 ≠ w.heap.size + 1 by omega) (ints .u8 (nn X2)).toArray
        have jx := ix.rowOther (show bx ≠ w.heap.size + 1 by omega) (ints .u8 (nn X2)).toArray
        have jw := below_setRow iw (show w.heap.size ≤ w.heap.size + 1 by omega) (ints .u8 (nn X2)).toArray
        clear i0 i1 i2 ix iw
        generalize World.setRow _ _ _ = w3 at *
        refine (HMi.out _).mono ?_
        rintro e w4 ⟨rfl, hb4⟩
        have i1 := j1.below hb4 j1.lt
        have i0 := j0.below hb4 j0.lt
        have i2 := j2.below hb4 j2.lt
        have ix := jx.below hb4 jx.lt
        have iw := jw.trans (hb4.mono jw.size)
        clear j1 j0 j2 jx jw hb4
        go_wp2_with (first | (refine wpList_store_blk rfl 28 _ _ rfl _ (ints .u8 (nn X3)) rfl rfl i1 (by rw [size_b16, ints_length, nn_length, L3.out]) (by rw [ints_length, ints_length, nn_length, nn_length, L2.out, L3.out]) (ints_one _ _) ?_) | (refine wpList_load_blk rfl 28 _ rfl _ rfl (i1.row (ints .u8 (nn X3)) (by rw [ints_length, ints_length, nn_length, nn_length, L2.out, L3.out])) Try.underlying28 rfl (by rw [size_b16, ints_length, nn_length, L3.out]) ?_) | (refine wpList_load_blk rfl 26 _ rfl _ rfl (i0.rowOther (show w.heap.size ≠ w.heap.size + 1 by omega) _) Try.underlying26 rfl (by rw [size_k60, ints_length, nn_length, HK.out]) ?_))
        have j1 := i1.row (ints .u8 (nn X3)) (by rw [ints_length, ints_length, nn_length, nn_length, L2.out, L3.out])
        have j0 := i0.rowOther (show w.heap.size ≠ w.heap.size + 1 by omega) (ints .u8 (nn X3)).toArray
        have j2 := i2.rowOther (show w.heap.size + 1 + 1 ≠ w.heap.size + 1 by omega) (ints .u8 (nn X3)).toArray
        have jx := ix.rowOther (show bx ≠ w.heap.size + 1 by omega) (ints .u8 (nn X3)).toArray
        have jw := below_setRow iw (show w.heap.size ≤ w.heap.size + 1 by omega) (ints .u8 (nn X3)).toArray
        clear i0 i1 i2 ix iw
        generalize World.setRow _ _ _ = w5 at *
        refine (HAm.out _).mono ?_
        rw [HX4.out]
        rintro e w6 ⟨rfl, hb6⟩
        have i1 := j1.below hb6 j1.lt
        have i0 := j0.below hb6 j0.lt
        have i2 := j2.below hb6 j2.lt
        have ix := jx.below hb6 jx.lt
        have iw := jw.trans (hb6.mono jw.size)
        clear j1 j0 j2 jx jw hb6
        go_wp2_with (first | (refine wpList_store_blk rfl 28 _ _ rfl _ (ints .u8 (nn X4)) rfl rfl i1 (by rw [size_b16, ints_length, nn_length, L4.out]) (by rw [ints_length, ints_length, nn_length, nn_length, L3.out, L4.out]) (ints_one _ _) ?_))
        go_roundw
        case rel =>
          refine ⟨n + 1, by omega, by go_num, ?_, ?_, ?_, ?_, ?_⟩
          · rw [HX.out]; exact i1.row (ints .u8 (nn X4)) (by rw [ints_length, ints_length, nn_length, nn_length, L3.out, L4.out])
          · exact i0.rowOther (by omega) _
          · exact i2.rowOther (by omega) _
          · exact ix.rowOther (by omega) _
          · exact below_setRow iw (by omega) _
        case measure => simp [intOf]; omega
      · obtain rfl : n = 13 := by omega
        have X4e := Q2.out h14
        have HX4 := Lib.hid X4e
        clear X4e
        go_wp2_with (first | (refine wpList_store_blk rfl 28 _ _ rfl _ (ints .u8 (nn X2)) rfl rfl i1 (by rw [size_b16, ints_length, nn_length, L2.out]) (by rw [ints_length, ints_length, nn_length, nn_length, HLen.out, L2.out]) (ints_one _ _) ?_) | (refine wpList_load_blk rfl 28 _ rfl _ rfl (i1.row (ints .u8 (nn X2)) (by rw [ints_length, ints_length, nn_length, nn_length, HLen.out, L2.out])) Try.underlying28 rfl (by rw [size_b16, ints_length, nn_length, L2.out]) ?_) | (refine wpList_load_blk rfl 26 _ rfl _ rfl (i0.rowOther (show w.heap.size ≠ w.heap.size + 1 by omega) _) Try.underlying26 rfl (by rw [size_k60, ints_length, nn_length, HK.out]) ?_))
        have j1 := i1.row (ints .u8 (nn X2)) (by rw [ints_length, ints_length, nn_length, nn_length, HLen.out, L2.out])
        have j0 := i0.rowOther (show w.heap.size ≠ w.heap.size + 1 by omega) (ints .u8 (nn X2)).toArray
        have j2 := i2.rowOther (show w.heap.size + 1 + 1 ≠ w.heap.size + 1 by omega) (ints .u8 (nn X2)).toArray
        have jx := ix.rowOther (show bx ≠ w.heap.size + 1 by omega) (ints .u8 (nn X2)).toArray
        have jw := below_setRow iw (show w.heap.size ≤ w.heap.size + 1 by omega) (ints .u8 (nn X2)).toArray
        clear i0 i1 i2 ix iw
        generalize World.setRow _ _ _ = w5 at *
        refine (HAl.out _).mono ?_
        rw [HX4.out]
        rintro e w6 ⟨rfl, hb6⟩
        have i1 := j1.below hb6 j1.lt
        have i0 := j0.below hb6 j0.lt
        have i2 := j2.below hb6 j2.lt
        have ix := jx.below hb6 jx.lt
        have iw := jw.trans (hb6.mono jw.size)
        clear j1 j0 j2 jx jw hb6
        go_wp2_with (first | (refine wpList_store_blk rfl 28 _ _ rfl _ (ints .u8 (nn X4)) rfl rfl i1 (by rw [size_b16, ints_length, nn_length, L4.out]) (by rw [ints_length, ints_length, nn_length, nn_length, L2.out, L4.out]) (ints_one _ _) ?_))
        go_roundw
        case rel =>
          refine ⟨13 + 1, by omega, by first | rfl | go_num, ?_, ?_, ?_, ?_, ?_⟩
          · rw [HX.out]; exact i1.row (ints .u8 (nn X4)) (by rw [ints_length, ints_length, nn_length, nn_length, L2.out, L4.out])
          · exact i0.rowOther (by omega) _
          · exact i2.rowOther (by omega) _
          · exact ix.rowOther (by omega) _
          · exact below_setRow iw (by omega) _
        case measure => simp [intOf]
    · obtain rfl : n = 14 := by omega
      have hE : Blk wr (w.heap.size + 1) 28 (ints .u8 (nn L)) := by rw [← HL.out]; exact j1
      clear j1 HS hlen hbys
      go_wp2_with (first | (refine wpList_load_blk rfl 28 _ rfl _ rfl hE Try.underlying28 rfl (by rw [size_b16, ints_length, nn_length, HLL.out]) ?_) | (refine wpList_store_blk rfl 28 _ _ rfl _ _ rfl rfl j2 (by rw [size_b16, ints_length, nn_length, HLL.out]) (by rw [ints_length, ints_length, nn_length, nn_length, HLL.out, zerN_len]) (ints_one _ _) ?_))
      refine bodyPost_ret (v := .agg (ints .u8 (nn L)).toArray) (results_cell_blk rfl _ _ _ rfl (j2.row (ints .u8 (nn L)) (by rw [ints_length, ints_length, nn_length, nn_length, HLL.out, zerN_len])) Try.underlying28 rfl (by rw [size_b16, ints_length, nn_length, HLL.out])) rfl ⟨rfl, below_setRow jw (by omega) _⟩
end Go.Proofs.Ytgagafefhmofjaa
