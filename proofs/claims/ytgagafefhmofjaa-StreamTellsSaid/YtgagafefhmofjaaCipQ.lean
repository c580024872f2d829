/- Walk of the reference's Encrypt. -/
import Derived.Test.YtgagafefhmofjaaCipP
namespace Go.Proofs.Ytgagafefhmofjaa
open Go.RowKit
set_option linter.unusedVariables false

/-- the byte i of a block that was looked up and turned -/
def fLook (b : List Nat) (i : Nat) : Nat := boxG (b.getD ((i / 4 + i % 4) % 4 * 4 + i % 4) 0)
theorem fLook_full (b : List Nat) (hb : b.length = 16) (hby : Bys b) : (List.range 16).map (fLook b) = turnL (chAll lookG b) := by
  refine getD_ext 16 (by simp) ((turnL_len _).trans ((chAll_len _ _).trans hb)) fun j hj => ?_
  rw [map_range_getD _ _ _ hj, turnL_getD _ ((chAll_len _ _).trans hb) j hj, lookG_getD b hb hby _ (by omega)]
  rfl
theorem fLook_at (b : List Nat) (c j : Nat) (hj : j < 4) : fLook b (4 * c + j) = boxG (b.getD (4 * ((c + j) % 4) + j) 0) := by
  unfold fLook
  rw [show (4 * c + j) / 4 = c by omega, show (4 * c + j) % 4 = j by omega, Nat.mul_comm ((c + j) % 4) 4]
def fMix (b : List Nat) (i : Nat) : Nat := (chAll mixG b).getD i 0
theorem fMix_full (b : List Nat) (hb : b.length = 16) : (List.range 16).map (fMix b) = chAll mixG b :=
  getD_ext 16 (by simp) ((chAll_len _ _).trans hb) fun j hj => by rw [map_range_getD _ _ _ hj]; rfl

theorem mix_idx (c j : Nat) (hc : c < 4) (hj : j < 4) : ∃ m1 m2 m3 : Nat, (j + 1) % 4 = m1 ∧ (j + 2) % 4 = m2 ∧ (j + 3) % 4 = m3 ∧ 4 * c + j < 16 ∧ 4 * c + m1 < 16 ∧ 4 * c + m2 < 16 ∧ 4 * c + m3 < 16 ∧ (j : Int) < 4 ∧ (0 : Int) ≤ 4 * (c : Int) + (j : Int) ∧ (4 * (c : Int) + (j : Int)).toNat = 4 * c + j ∧ 4 * (c : Int) + (j : Int) < 16 ∧ ((j : Int) + 1) % 4 = (m1 : Int) ∧ (4 * (c : Int) + (m1 : Int)).toNat = 4 * c + m1 ∧ (0 : Int) ≤ 4 * (c : Int) + (m1 : Int) ∧ 4 * (c : Int) + (m1 : Int) < 16 ∧ Hid (((j : Int) + 2) % 4 = (m2 : Int) ∧ ((j : Int) + 3) % 4 = (m3 : Int) ∧ ((j : Int) + 2).tmod 4 = (m2 : Int) ∧ ((j : Int) + 3).tmod 4 = (m3 : Int) ∧ (4 * (c : Int) + (m2 : Int)).toNat = 4 * c + m2 ∧ (4 * (c : Int) + (m3 : Int)).toNat = 4 * c + m3 ∧ (0 : Int) ≤ 4 * (c : Int) + (m2 : Int) ∧ (0 : Int) ≤ 4 * (c : Int) + (m3 : Int) ∧ 4 * (c : Int) + (m2 : Int) < 16 ∧ 4 * (c : Int) + (m3 : Int) < 16 ∧ IntKind.i64.wrap (4 * (c : Int)) = 4 * (c : Int) ∧ IntKind.i64.wrap (4 * (c : Int) + (j : Int)) = 4 * (c : Int) + (j : Int) ∧ IntKind.i64.wrap ((j : Int) + 2) = (j : Int) + 2 ∧ IntKind.i64.wrap ((j : Int) + 3) = (j : Int) + 3 ∧ IntKind.i64.wrap (m2 : Int) = (m2 : Int) ∧ IntKind.i64.wrap (m3 : Int) = (m3 : Int) ∧ IntKind.i64.wrap (4 * (c : Int) + (m2 : Int)) = 4 * (c : Int) + (m2 : Int) ∧ IntKind.i64.wrap (4 * (c : Int) + (m3 : Int)) = 4 * (c : Int) + (m3 : Int)) := by
  refine ⟨(j + 1) % 4, (j + 2) % 4, (j + 3) % 4, rfl, rfl, rfl, ?_⟩
  refine ⟨by omega, by omega, by omega, by omega, by omega, by omega, by omega, by omega, by omega, by omega, by omega, by omega, Lib.hid ⟨by omega, by omega, by rw [Int.tmod_eq_emod_of_nonneg (by omega)]; omega, by rw [Int.tmod_eq_emod_of_nonneg (by omega)]; omega, by omega, by omega, by omega, by omega, by omega, by omega, IntWalk.i64_in _ (by omega), IntWalk.i64_in _ (by omega), IntWalk.i64_in _ (by omega), IntWalk.i64_in _ (by omega), IntWalk.i64_in _ (by omega), IntWalk.i64_in _ (by omega), IntWalk.i64_in _ (by omega), IntWalk.i64_in _ (by omega)⟩⟩
set_option maxHeartbeats 8000000 in
set_option maxRecDepth 100000 in
theorem r_Encrypt (K b : List Nat) (w : World) (hK : K.length = 60) (hKw : Words K) (hb : b.length = 16) (hby : Bys b) :
    Calls Try.prog 13 #[.agg (ints .u32 (nn K)).toArray, .agg (ints .u8 (nn b)).toArray] w fun e w' => e = .returned (.agg (ints .u8 (nn (encL K b))).toArray) ∧ Below w.heap.size w w' := by
  obtain ⟨L, hL⟩ : ∃ L, encL K b = L := ⟨_, rfl⟩
  have hLL : L.length = 16 := by rw [← hL]; exact (encN_len _ _ _).trans hb
  rw [hL]
  have HL := Lib.hid hL
  have HLL := Lib.hid hLL
  have HB := Lib.hid hb
  have HK := Lib.hid hK
  have hbl := boxT_len
  have HBL := Lib.hid hbl
  clear hL hLL hb hK hbl
  have k0 : Blk (((w.alloc (.cells (ints .u32 (nn K)).toArray 30)).alloc (.cells (ints .u8 (nn b)).toArray 33)).alloc (.cells (ints .u8 (nn (zerN 16))).toArray 33)) w.heap.size 30 (ints .u32 (nn K)) := ((Blk.new _ _ _).alloc _).alloc _
  have k1 : Blk (((w.alloc (.cells (ints .u32 (nn K)).toArray 30)).alloc (.cells (ints .u8 (nn b)).toArray 33)).alloc (.cells (ints .u8 (nn (zerN 16))).toArray 33)) (w.heap.size + 1) 33 (ints .u8 (nn b)) := (Blk.new2 _ _ _ _ rfl).alloc _
  have k2 : Blk (((w.alloc (.cells (ints .u32 (nn K)).toArray 30)).alloc (.cells (ints .u8 (nn b)).toArray 33)).alloc (.cells (ints .u8 (nn (zerN 16))).toArray 33)) (w.heap.size + 1 + 1) 33 (ints .u8 (nn (zerN 16))) := by
    have := Blk.new2 (w.alloc (.cells (ints .u32 (nn K)).toArray 30)) (.cells (ints .u8 (nn b)).toArray 33) 33 (ints .u8 (nn (zerN 16))) rfl
    rw [World.size_alloc] at this
    exact this
  have kb : Below w.heap.size w (((w.alloc (.cells (ints .u32 (nn K)).toArray 30)).alloc (.cells (ints .u8 (nn b)).toArray 33)).alloc (.cells (ints .u8 (nn (zerN 16))).toArray 33)) := (((Below.refl _ _).alloc (Nat.le_refl _) _).alloc (by simp) _).alloc (by simp; omega) _
  have hT := fun w => r_Table w
  have HT := Lib.hid hT
  clear hT
  go_enter Try.func13, Try.ntmps13
  go_wp2_with (refine wpList_alloc_at rfl 33 rfl _ _ (alloc_r16 _) ?_)
  generalize World.alloc (World.alloc (World.alloc w _) _) _ = w2 at *
  refine (HT.out _).mono ?_
  rintro e w3 ⟨rfl, hb3⟩
  have i0 := k0.below hb3 k0.lt
  have i1 := k1.below hb3 k1.lt
  have i2 := k2.below hb3 k2.lt
  have iw := kb.trans (hb3.mono kb.size)
  have ilt : w.heap.size + 1 + 1 < w3.heap.size := i2.lt
  clear k0 k1 k2 kb hb3
  have hZ : (ints .u8 (nn boxT)).length = (ints .u8 (nn (zerN 256))).length := by rw [ints_length, ints_length, nn_length, nn_length, HBL.out, zerN_len]
  have HZ := Lib.hid hZ
  have jx := (Blk.new' w3 55 (ints .u8 (nn (zerN 256))) rfl).row (ints .u8 (nn boxT)) hZ
  have j0 := (i0.alloc (.cells (ints .u8 (nn (zerN 256))).toArray 55)).rowOther (show w.heap.size ≠ w3.heap.size by omega) (ints .u8 (nn boxT)).toArray
  have j1 := (i1.alloc (.cells (ints .u8 (nn (zerN 256))).toArray 55)).rowOther (show w.heap.size + 1 ≠ w3.heap.size by omega) (ints .u8 (nn boxT)).toArray
  have j2 := (i2.alloc (.cells (ints .u8 (nn (zerN 256))).toArray 55)).rowOther (show w.heap.size + 1 + 1 ≠ w3.heap.size by omega) (ints .u8 (nn boxT)).toArray
  have jw := below_setRow (iw.alloc (by omega) (.cells (ints .u8 (nn (zerN 256))).toArray 55)) (show w.heap.size ≤ w3.heap.size by omega) (ints .u8 (nn boxT)).toArray
  clear i0 i1 i2 iw hZ
  go_wp2_with (first | (refine wpList_alloc_at rfl 55 rfl _ _ (alloc_z256 _) ?_) | (refine wpList_store_blk rfl 55 _ _ rfl w3.heap.size (ints .u8 (nn boxT)) rfl rfl (Blk.new' w3 55 (ints .u8 (nn (zerN 256))) rfl) (by rw [size_p256]; exact congrArg some (by rw [ints_length, nn_length, HBL.out])) HZ.out.symm (ints_one _ _) ?_) | (refine wpList_load_blk rfl 33 _ rfl _ rfl j1 Try.underlying33 rfl (by rw [size_r16, ints_length, nn_length, HB.out]) ?_) | (refine wpList_load_blk rfl 30 _ rfl _ rfl j0 Try.underlying30 rfl (by rw [size_r60, ints_length, nn_length, HK.out]) ?_))
  generalize World.setRow _ _ _ = w4 at *
  generalize w3.heap.size = bx at *
  refine (r_add K b 0 _ HK.out hKw (by omega) HB.out hby).mono ?_
  rintro e w6 ⟨rfl, hb6⟩
  have hl0 : (chAll (addG K 0) b).length = 16 := (chAll_len _ _).trans HB.out
  have HL0 := Lib.hid hl0
  clear hl0
  have i0 := j0.below hb6 j0.lt
  have i1 := j1.below hb6 j1.lt
  have i2 := j2.below hb6 j2.lt
  have ix := jx.below hb6 jx.lt
  have iw := jw.trans (hb6.mono jw.size)
  clear j0 j1 j2 jx jw hb6 HZ
  go_wp2_with (first | (refine wpList_store_blk rfl 33 _ _ rfl _ (ints .u8 (nn (chAll (addG K 0) b))) rfl rfl i1 (by rw [size_r16, ints_length, nn_length, HL0.out]) (by rw [ints_length, ints_length, nn_length, nn_length, HB.out, HL0.out]) (ints_one _ _) ?_))
  have j1 : Blk (w6.setRow (w.heap.size + 1) (ints .u8 (nn (chAll (addG K 0) b))).toArray) (w.heap.size + 1) 33 (ints .u8 (nn (encN K b 0))) := i1.row (ints .u8 (nn (chAll (addG K 0) b))) (by rw [ints_length, ints_length, nn_length, nn_length, HB.out, HL0.out])
  have j0 := i0.rowOther (show w.heap.size ≠ w.heap.size + 1 by omega) (ints .u8 (nn (chAll (addG K 0) b))).toArray
  have j2 := i2.rowOther (show w.heap.size + 1 + 1 ≠ w.heap.size + 1 by omega) (ints .u8 (nn (chAll (addG K 0) b))).toArray
  have jx := ix.rowOther (show bx ≠ w.heap.size + 1 by omega) (ints .u8 (nn (chAll (addG K 0) b))).toArray
  have jw := below_setRow iw (show w.heap.size ≤ w.heap.size + 1 by omega) (ints .u8 (nn (chAll (addG K 0) b))).toArray
  clear i0 i1 i2 ix iw HL0
  generalize World.setRow _ _ _ = w7 at *
  go_loopw [6] (fun i wr => ∃ n : Nat, n ≤ 14 ∧ i = .int .i64 ((n : Int) + 1) ∧ Blk wr (w.heap.size + 1) 33 (ints .u8 (nn (encN K b n))) ∧ Blk wr w.heap.size 30 (ints .u32 (nn K)) ∧ Blk wr (w.heap.size + 1 + 1) 33 (ints .u8 (nn (zerN 16))) ∧ Blk wr bx 55 (ints .u8 (nn boxT)) ∧ Below w.heap.size w wr) (fun i _ => 15 - (intOf i).toNat)
  case atStart => exact ⟨0, by omega, rfl, j1, j0, j2, jx, jw⟩
  case round =>
    obtain ⟨n, hn, rfl, j1, j0, j2, jx, jw⟩ := hrel
    have hlen := (encN_len K b n).trans HB.out
    have hbys := encN_bys K hby n
    have hstep : encN K b (n + 1) = rnd K (n + 1) (encN K b n) := rfl
    have HS := Lib.hid hstep
    clear hstep
    by_cases hlt : n < 14
    · have l2 : (turnL (chAll lookG (encN K b n))).length = 16 := (turnL_len _).trans ((chAll_len _ _).trans hlen)
      have b2 : Bys (turnL (chAll lookG (encN K b n))) := turnL_bys (chAll_bys _ hbys)
      have hfull := fLook_full (encN K b n) hlen hbys
      have l4 := (encN_len K b (n + 1)).trans HB.out
      have l3 : (chAll mixG (turnL (chAll lookG (encN K b n)))).length = 16 := (chAll_len _ _).trans l2
      have b3 : Bys (chAll mixG (turnL (chAll lookG (encN K b n)))) := chAll_bys _ b2
      have q1 : n + 1 < 14 → chAll (addG K (n + 1)) (chAll mixG (turnL (chAll lookG (encN K b n)))) = encN K b (n + 1) := fun h => by rw [HS.out]; unfold rnd; rw [if_pos h]
      have q2 : ¬ n + 1 < 14 → chAll (addG K (n + 1)) (turnL (chAll lookG (encN K b n))) = encN K b (n + 1) := fun h => by rw [HS.out]; unfold rnd; rw [if_neg h]
      have hAm := fun w => r_add K (chAll mixG (turnL (chAll lookG (encN K b n)))) (n + 1) w HK.out hKw (by omega) l3 b3
      have hAl := fun w => r_add K (turnL (chAll lookG (encN K b n))) (n + 1) w HK.out hKw (by omega) l2 b2
      have hmf := fMix_full (turnL (chAll lookG (encN K b n))) l2
      have hmx : ∀ c j, c < 4 → j < 4 → fMix (turnL (chAll lookG (encN K b n))) (4 * c + j) = mul ((turnL (chAll lookG (encN K b n))).getD (4 * c + j) 0) 2 ^^^ mul ((turnL (chAll lookG (encN K b n))).getD (4 * c + (j + 1) % 4) 0) 3 ^^^ (turnL (chAll lookG (encN K b n))).getD (4 * c + (j + 2) % 4) 0 ^^^ (turnL (chAll lookG (encN K b n))).getD (4 * c + (j + 3) % 4) 0 := fun c j hc hj => mixG_getD _ l2 b2 c j hc hj
      have Q1 := Lib.hid q1
      have Q2 := Lib.hid q2
      have HAm := Lib.hid hAm
      have HAl := Lib.hid hAl
      have HMF := Lib.hid hmf
      have HMX := Lib.hid hmx
      have L3 := Lib.hid l3
      have B2 := Lib.hid b2
      clear q1 q2 hAm hAl hmf hmx l3 b3 b2 HS
      have HFull := Lib.hid hfull
      have L2 := Lib.hid l2
      have L4 := Lib.hid l4
      have HLen := Lib.hid hlen
      clear hfull l2 l4 hlen
      generalize hX4 : encN K b (n + 1) = X4 at *
      have HX := Lib.hid hX4
      clear hX4
      generalize hX3 : chAll mixG (turnL (chAll lookG (encN K b n))) = X3 at *
      clear hX3
      generalize turnL (chAll lookG (encN K b n)) = X2 at *
      have n1 : (n : Int) + 1 ≤ 14 := by omega
      go_wp2_with (first | (refine wpList_alloc_at rfl 33 rfl _ _ (alloc_r16 _) ?_) | (refine wpList_build_at rfl 33 _ rfl (.agg (ints .u8 (nn (zerN 16))).toArray) (by kernel_rfl) ?_) | (refine wpList_store_blk rfl 33 _ _ rfl wr.heap.size (ints .u8 (nn (zerN 16))) rfl rfl (Blk.new' wr 33 (ints .u8 (nn (zerN 16))) rfl) (by rw [size_r16, ints_length, nn_length, zerN_len]) rfl (ints_one _ _) ?_))
      have q3 : Blk ((wr.alloc (.cells (ints .u8 (nn (zerN 16))).toArray 33)).setRow wr.heap.size (ints .u8 (nn (zerN 16))).toArray) wr.heap.size 33 (ints .u8 (nn (fillF (fLook (encN K b n)) 16 (4 * 0)))) := (Blk.new' wr 33 (ints .u8 (nn (zerN 16))) rfl).row (ints .u8 (nn (zerN 16))) rfl
      have h1lt := j1.lt
      have h0lt := j0.lt
      have h2lt := j2.lt
      have hxlt := jx.lt
      have q1 := (j1.alloc (.cells (ints .u8 (nn (zerN 16))).toArray 33)).rowOther (show w.heap.size + 1 ≠ wr.heap.size by omega) (ints .u8 (nn (zerN 16))).toArray
      have q0 := (j0.alloc (.cells (ints .u8 (nn (zerN 16))).toArray 33)).rowOther (show w.heap.size ≠ wr.heap.size by omega) (ints .u8 (nn (zerN 16))).toArray
      have q2 := (j2.alloc (.cells (ints .u8 (nn (zerN 16))).toArray 33)).rowOther (show w.heap.size + 1 + 1 ≠ wr.heap.size by omega) (ints .u8 (nn (zerN 16))).toArray
      have qx := (jx.alloc (.cells (ints .u8 (nn (zerN 16))).toArray 33)).rowOther (show bx ≠ wr.heap.size by omega) (ints .u8 (nn (zerN 16))).toArray
      have qw := below_setRow (jw.alloc jw.size (.cells (ints .u8 (nn (zerN 16))).toArray 33)) jw.size (ints .u8 (nn (zerN 16))).toArray
      have hw0 := jw.size
      clear j0 j1 j2 jx jw
      generalize encN K b n = X0 at *
      generalize World.setRow _ _ _ = w8 at *
      generalize wr.heap.size = bX at *
      obtain ⟨wo, hwo⟩ : ∃ wo : World, wo = wr := ⟨_, rfl⟩
      clear hwo
      have HBy := Lib.hid hbys
      clear hbys
      go_loopw [8] (fun i wq => ∃ c : Nat, c ≤ 4 ∧ i = .int .i64 c ∧ Blk wq (w.heap.size + 1) 33 (ints .u8 (nn X0)) ∧ Blk wq w.heap.size 30 (ints .u32 (nn K)) ∧ Blk wq (w.heap.size + 1 + 1) 33 (ints .u8 (nn (zerN 16))) ∧ Blk wq bx 55 (ints .u8 (nn boxT)) ∧ Blk wq bX 33 (ints .u8 (nn (fillF (fLook X0) 16 (4 * c)))) ∧ Below w.heap.size w wq) (fun i _ => 4 - (intOf i).toNat)
      case atStart =>
        clear n1
        exact ⟨0, by omega, rfl, q1, q0, q2, qx, q3, qw⟩
      case round =>
        clear n1
        obtain ⟨c, hc, rfl, j1, j0, j2, jx, j3, jw⟩ := hrel
        clear q1 q0 q2 qx q3 qw
        by_cases hc4 : c < 4
        · have d7 : (c : Int) < 4 := by omega
          go_wp2
          obtain ⟨wo1, hwo1⟩ : ∃ wo : World, wo = wr := ⟨_, rfl⟩
          clear hwo1
          go_loopw [9] (fun i wq => ∃ j : Nat, j ≤ 4 ∧ i = .int .i64 j ∧ Blk wq (w.heap.size + 1) 33 (ints .u8 (nn X0)) ∧ Blk wq w.heap.size 30 (ints .u32 (nn K)) ∧ Blk wq (w.heap.size + 1 + 1) 33 (ints .u8 (nn (zerN 16))) ∧ Blk wq bx 55 (ints .u8 (nn boxT)) ∧ Blk wq bX 33 (ints .u8 (nn (fillF (fLook X0) 16 (4 * c + j)))) ∧ Below w.heap.size w wq) (fun i _ => 4 - (intOf i).toNat)
          case atStart => exact ⟨0, by omega, rfl, j1, j0, j2, jx, j3, jw⟩
          case round =>
            obtain ⟨j, hj, rfl, j1, j0, j2, jx, j3, jw⟩ := hrel
            by_cases hj4 : j < 4
            · have hset := fillF_set (fLook X0) 16 (4 * c + j) (by omega)
              rw [fLook_at X0 c j hj4] at hset
              have cb := j1.nat (j := 4 * ((c + j) % 4) + j) (by rw [HLen.out]; omega)
              have hv := HBy.out (4 * ((c + j) % 4) + j)
              have cx := jx.nat (j := X0.getD (4 * ((c + j) % 4) + j) 0) (by rw [HBL.out]; exact hv)
              rw [show boxT.getD (X0.getD (4 * ((c + j) % 4) + j) 0) 0 = boxG (X0.getD (4 * ((c + j) % 4) + j) 0) from rfl] at cx
              have ct := j3.nat (j := 4 * c + j) (by rw [fillF_len _ _ _ (by omega)]; omega)
              have hfr := j3.free (4 * c + j)
              have Hs := Lib.hid hset
              clear hset
              generalize boxG (X0.getD (4 * ((c + j) % 4) + j) 0) = y at *
              generalize X0.getD (4 * ((c + j) % 4) + j) 0 = v at *
              have d0 : (0 : Int) ≤ 4 * (c : Int) + (j : Int) := by omega
              have d1 : (4 * (c : Int) + (j : Int)).toNat = 4 * c + j := by omega
              have d2 : 4 * (c : Int) + (j : Int) < 16 := by omega
              have d3 : (0 : Int) ≤ 4 * (((c : Int) + (j : Int)) % 4) + (j : Int) := by omega
              have d4 : (4 * (((c : Int) + (j : Int)) % 4) + (j : Int)).toNat = 4 * ((c + j) % 4) + j := by omega
              have d5 : 4 * (((c : Int) + (j : Int)) % 4) + (j : Int) < 16 := by omega
              have d6 : (v : Int) < 256 := by omega
              have d8 : (j : Int) < 4 := by omega
              go_wp2
              go_roundw
              case rel =>
                refine ⟨j + 1, by omega, by go_num, ?_, ?_, ?_, ?_, ?_, ?_⟩
                · exact j1.other (by simp <;> omega) _
                · exact j0.other (by simp <;> omega) _
                · exact j2.other (by simp <;> omega) _
                · exact jx.other (by simp <;> omega) _
                · rw [show 4 * c + (j + 1) = 4 * c + j + 1 by omega, ← Hs.out]
                  exact j3.setNat (4 * c + j) y
                · exact jw.setCell (by simp <;> omega) _
              case measure => simp [intOf]; omega
            · obtain rfl : j = 4 := by omega
              go_wp2
              go_roundw
              case rel => exact ⟨c + 1, by omega, by go_num, j1, j0, j2, jx, by rw [show 4 * (c + 1) = 4 * c + 4 by omega]; exact j3, jw⟩
              case measure => simp [intOf]; omega
        · obtain rfl : c = 4 := by omega
          rw [fillF_full, HFull.out] at j3
          by_cases h14 : n + 1 < 14
          · have X4e := Q1.out h14
            have n2 : (n : Int) + 1 < 14 := by omega
            clear hc hc4 Q1 Q2 HFull
            go_wp2_with (first | (refine wpList_alloc_at rfl 33 rfl _ _ (alloc_r16 _) ?_) | (refine wpList_build_at rfl 33 _ rfl (.agg (ints .u8 (nn (zerN 16))).toArray) (by kernel_rfl) ?_) | (refine wpList_store_blk rfl 33 _ _ rfl wr.heap.size (ints .u8 (nn (zerN 16))) rfl rfl (Blk.new' wr 33 (ints .u8 (nn (zerN 16))) rfl) (by rw [size_r16, ints_length, nn_length, zerN_len]) rfl (ints_one _ _) ?_))
            have p4 : Blk ((wr.alloc (.cells (ints .u8 (nn (zerN 16))).toArray 33)).setRow wr.heap.size (ints .u8 (nn (zerN 16))).toArray) wr.heap.size 33 (ints .u8 (nn (fillF (fMix X2) 16 (4 * 0)))) := (Blk.new' wr 33 (ints .u8 (nn (zerN 16))) rfl).row (ints .u8 (nn (zerN 16))) rfl
            have l1t := j1.lt
            have l0t := j0.lt
            have l2t := j2.lt
            have lxt := jx.lt
            have l3t := j3.lt
            have p1 := (j1.alloc (.cells (ints .u8 (nn (zerN 16))).toArray 33)).rowOther (show w.heap.size + 1 ≠ wr.heap.size by omega) (ints .u8 (nn (zerN 16))).toArray
            have p0 := (j0.alloc (.cells (ints .u8 (nn (zerN 16))).toArray 33)).rowOther (show w.heap.size ≠ wr.heap.size by omega) (ints .u8 (nn (zerN 16))).toArray
            have p2 := (j2.alloc (.cells (ints .u8 (nn (zerN 16))).toArray 33)).rowOther (show w.heap.size + 1 + 1 ≠ wr.heap.size by omega) (ints .u8 (nn (zerN 16))).toArray
            have px := (jx.alloc (.cells (ints .u8 (nn (zerN 16))).toArray 33)).rowOther (show bx ≠ wr.heap.size by omega) (ints .u8 (nn (zerN 16))).toArray
            have p3 := (j3.alloc (.cells (ints .u8 (nn (zerN 16))).toArray 33)).rowOther (show bX ≠ wr.heap.size by omega) (ints .u8 (nn (zerN 16))).toArray
            have pw := below_setRow (jw.alloc jw.size (.cells (ints .u8 (nn (zerN 16))).toArray 33)) jw.size (ints .u8 (nn (zerN 16))).toArray
            have hwz := jw.size
            clear j0 j1 j2 jx jw j3
            generalize World.setRow _ _ _ = w9 at *
            generalize wr.heap.size = bY at *
            obtain ⟨wo2, hwo2⟩ : ∃ wo : World, wo = wr := ⟨_, rfl⟩
            clear hwo2
            go_loopw [11] (fun i wq => ∃ c : Nat, c ≤ 4 ∧ i = .int .i64 c ∧ Blk wq (w.heap.size + 1) 33 (ints .u8 (nn X0)) ∧ Blk wq w.heap.size 30 (ints .u32 (nn K)) ∧ Blk wq (w.heap.size + 1 + 1) 33 (ints .u8 (nn (zerN 16))) ∧ Blk wq bx 55 (ints .u8 (nn boxT)) ∧ Blk wq bX 33 (ints .u8 (nn X2)) ∧ Blk wq bY 33 (ints .u8 (nn (fillF (fMix X2) 16 (4 * c)))) ∧ Below w.heap.size w wq) (fun i _ => 4 - (intOf i).toNat)
            case atStart => exact ⟨0, by omega, rfl, p1, p0, p2, px, p3, p4, pw⟩
            case round =>
              obtain ⟨c, hc, rfl, g1, g0, g2, gx, g3, g4, gw⟩ := hrel
              clear p1 p0 p2 px p3 p4 pw
              by_cases hc4 : c < 4
              · have d7 : (c : Int) < 4 := by omega
                go_wp2
                obtain ⟨wo3, hwo3⟩ : ∃ wo : World, wo = wr := ⟨_, rfl⟩
                clear hwo3
                go_loopw [12] (fun i wq => ∃ j : Nat, j ≤ 4 ∧ i = .int .i64 j ∧ Blk wq (w.heap.size + 1) 33 (ints .u8 (nn X0)) ∧ Blk wq w.heap.size 30 (ints .u32 (nn K)) ∧ Blk wq (w.heap.size + 1 + 1) 33 (ints .u8 (nn (zerN 16))) ∧ Blk wq bx 55 (ints .u8 (nn boxT)) ∧ Blk wq bX 33 (ints .u8 (nn X2)) ∧ Blk wq bY 33 (ints .u8 (nn (fillF (fMix X2) 16 (4 * c + j)))) ∧ Below w.heap.size w wq) (fun i _ => 4 - (intOf i).toNat)
                case atStart => exact ⟨0, by omega, rfl, g1, g0, g2, gx, g3, g4, gw⟩
                case round =>
                  obtain ⟨j, hj, rfl, g1, g0, g2, gx, g3, g4, gw⟩ := hrel
                  by_cases hj4 : j < 4
                  · have hset := fillF_set (fMix X2) 16 (4 * c + j) (by omega)
                    rw [HMX.out c j hc4 hj4] at hset
                    have h16 : 4 * c + j ≤ 16 := by omega
                    have hjj : j + 1 ≤ 4 := by omega
                    have hfz := fillF_len (fMix X2) 16 (4 * c + j) h16
                    have hfr := g4.free (4 * c + j)
                    have hmeas : 4 - (j + 1) < 4 - j := by omega
                    have HJ := Lib.hid hjj
                    have HM2 := Lib.hid hmeas
                    clear h16 hjj hmeas
                    obtain ⟨m1, m2, m3, e1, e2, e3, r0, r1, r2, r3, d8, d0, d1, d2, f1, a1, z1, b1, HP2⟩ := mix_idx c j hc4 hj4
                    rw [e1, e2, e3] at hset
                    have ca := g3.nat (j := 4 * c + j) (by rw [L2.out]; exact r0)
                    have cb := g3.nat (j := 4 * c + m1) (by rw [L2.out]; exact r1)
                    have cc := g3.nat (j := 4 * c + m2) (by rw [L2.out]; exact r2)
                    have cd := g3.nat (j := 4 * c + m3) (by rw [L2.out]; exact r3)
                    have va := B2.out (4 * c + j)
                    have vb := B2.out (4 * c + m1)
                    have vc := B2.out (4 * c + m2)
                    have vd := B2.out (4 * c + m3)
                    have ct := g4.nat (j := 4 * c + j) (by rw [hfz]; exact r0)
                    generalize X2.getD (4 * c + j) 0 = xa at *
                    generalize X2.getD (4 * c + m1) 0 = xb at *
                    generalize X2.getD (4 * c + m2) 0 = xc at *
                    generalize X2.getD (4 * c + m3) 0 = xd at *
                    have ma := mul_lt 2 va
                    have mb := mul_lt 3 vb
                    have tA : ∀ w, Calls Try.prog 15 #[.int .u8 (xa : Int), .int .u8 2] w fun e w' => e = .returned (.int .u8 (mul xa 2 : Nat)) ∧ w' = w := fun w => (r_Times xa 2 w va (by decide)).mono fun _ _ ⟨x, y⟩ => ⟨x, y.symm⟩
                    have tB : ∀ w, Calls Try.prog 15 #[.int .u8 (xb : Int), .int .u8 3] w fun e w' => e = .returned (.int .u8 (mul xb 3 : Nat)) ∧ w' = w := fun w => (r_Times xb 3 w vb (by decide)).mono fun _ _ ⟨x, y⟩ => ⟨x, y.symm⟩
                    have x1 := xor_byte (mul xa 2) (mul xb 3) ma mb
                    have x2 := xor_byte (mul xa 2 ^^^ mul xb 3) xc (xor_lt ma mb) vc
                    have x3 := xor_byte (mul xa 2 ^^^ mul xb 3 ^^^ xc) xd (xor_lt (xor_lt ma mb) vc) vd
                    have TA := Lib.hid tA
                    have TB := Lib.hid tB
                    have Hs := Lib.hid hset
                    clear hset tA tB ma mb
                    generalize mul xa 2 ^^^ mul xb 3 ^^^ xc ^^^ xd = y4 at *
                    generalize mul xa 2 ^^^ mul xb 3 ^^^ xc = y3 at *
                    generalize mul xa 2 ^^^ mul xb 3 = y2 at *
                    generalize mul xa 2 = ya at *
                    generalize mul xb 3 = yb at *
                    clear e1 e2 e3 r0 r1 r2 r3 hfz
                    go_wp2_with fail
                    clear f1 a1 z1 b1
                    obtain ⟨f2, f3, k2, k3, a2, a3, z2, z3, b2, b3, w0, w1, w2', w3', w4', w5', w6', w7'⟩ := HP2.out
                    refine wp_region_still_tail 28 mixedO (by kernel_rfl) ?_
                    simp only [List.take_succ_cons, List.take_zero, List.drop_succ_cons, List.drop_zero]
                    change wpStill _ _ (World.drew _) _ _ _
                    repeat (first | still_step | (refine wpStill_step (fun K hK => ?_); go_simp; (with_reducible refine ⟨_, TA.out _, hK _ ?_⟩); clear hK K) | (refine wpStill_step (fun K hK => ?_); go_simp; (with_reducible refine ⟨_, TB.out _, hK _ ?_⟩); clear hK K))
                    refine wpStill_nil ?_
                    change wpList _ _ _ _ _ (World.drew _)
                    clear f2 f3 k2 k3 a2 a3 z2 z3 b2 b3 w0 w1 w2' w3' w4' w5' w6' w7' ca cb cc cd va vb vc vd x1 x2 x3 TA TB
                    go_wp2
                    go_roundw
                    case rel =>
                      refine ⟨j + 1, HJ.out, by go_num, (g1.drew).other (by simp <;> omega) _, (g0.drew).other (by simp <;> omega) _, (g2.drew).other (by simp <;> omega) _, (gx.drew).other (by simp <;> omega) _, (g3.drew).other (by simp <;> omega) _, ?_, (below_drewN gw 1).setCell (by simp <;> omega) _⟩
                      rw [show 4 * c + (j + 1) = 4 * c + j + 1 by omega, ← Hs.out]
                      exact (g4.drew).setNat (4 * c + j) y4
                    case measure => simp [intOf]; omega
                  · obtain rfl : j = 4 := by omega
                    go_wp2
                    go_roundw
                    case rel => exact ⟨c + 1, by omega, by go_num, g1, g0, g2, gx, g3, by rw [show 4 * (c + 1) = 4 * c + 4 by omega]; exact g4, gw⟩
                    case measure => simp [intOf]; omega
              · obtain rfl : c = 4 := by omega
                rw [show 4 * 4 = 16 from rfl, fillF_full, HMF.out] at g4
                have lXX : (ints .u8 (nn X2)).length = (ints .u8 (nn X3)).length := by rw [ints_length, ints_length, nn_length, nn_length, L2.out, L3.out]
                have lYY : (ints .u8 (nn X3)).length = (ints .u8 (nn X2)).length := lXX.symm
                have t0 := g0.rowOther (show w.heap.size ≠ bX by omega) (ints .u8 (nn X3)).toArray
                have t1 := g1.rowOther (show w.heap.size + 1 ≠ bX by omega) (ints .u8 (nn X3)).toArray
                have t2 := g2.rowOther (show w.heap.size + 1 + 1 ≠ bX by omega) (ints .u8 (nn X3)).toArray
                have tx := gx.rowOther (show bx ≠ bX by omega) (ints .u8 (nn X3)).toArray
                have t3 := g3.row (ints .u8 (nn X3)) lYY
                have tw := below_setRow gw hw0 (ints .u8 (nn X3)).toArray
                go_wp2_with (first | (refine wpList_load_blk rfl 33 _ rfl _ rfl g4 Try.underlying33 rfl (by rw [size_r16, ints_length, nn_length, L3.out]) ?_) | (refine wpList_store_blk rfl 33 _ _ rfl bX (ints .u8 (nn X3)) rfl rfl g3 (by rw [size_r16, ints_length, nn_length, L3.out]) lXX (ints_one _ _) ?_) | (refine wpList_load_blk rfl 30 _ rfl _ rfl t0 Try.underlying30 rfl (by rw [size_r60, ints_length, nn_length, HK.out]) ?_) | (refine wpList_load_blk rfl 33 _ rfl _ rfl t3 Try.underlying33 rfl (by rw [size_r16, ints_length, nn_length, L3.out]) ?_))
                generalize World.setRow _ _ _ = w10 at *
                clear g0 g1 g2 gx g3 g4 gw t3
                refine (HAm.out _).mono ?_
                rw [X4e]
                rintro e w6 ⟨rfl, hb6⟩
                have i1 := t1.below hb6 t1.lt
                have i0 := t0.below hb6 t0.lt
                have i2 := t2.below hb6 t2.lt
                have ix := tx.below hb6 tx.lt
                have iw := tw.trans (hb6.mono tw.size)
                clear t1 t0 t2 tx tw hb6
                go_wp2_with (refine wpList_store_blk rfl 33 _ _ rfl _ (ints .u8 (nn X4)) rfl rfl i1 (by rw [size_r16, ints_length, nn_length, L4.out]) (by rw [ints_length, ints_length, nn_length, nn_length, HLen.out, L4.out]) (ints_one _ _) ?_)
                go_roundw
                case rel =>
                  refine ⟨n + 1, by omega, by first | rfl | go_num, ?_, ?_, ?_, ?_, ?_⟩
                  · rw [HX.out]; exact i1.row (ints .u8 (nn X4)) (by rw [ints_length, ints_length, nn_length, nn_length, HLen.out, L4.out])
                  · exact i0.rowOther (by omega) _
                  · exact i2.rowOther (by omega) _
                  · exact ix.rowOther (by omega) _
                  · exact below_setRow iw (by omega) _
                case measure => simp [intOf] <;> omega
          · obtain rfl : n = 13 := by omega
            have X4e := Q2.out h14
            go_wp2_with (first | (refine wpList_load_blk rfl 30 _ rfl _ rfl j0 Try.underlying30 rfl (by rw [size_r60, ints_length, nn_length, HK.out]) ?_) | (refine wpList_load_blk rfl 33 _ rfl _ rfl j3 Try.underlying33 rfl (by rw [size_r16, ints_length, nn_length, L2.out]) ?_))
            have t0 := j0
            have t1 := j1
            have t2 := j2
            have tx := jx
            have tw := jw
            clear j0 j1 j2 jx j3 jw
            refine (HAl.out _).mono ?_
            rw [X4e]
            rintro e w6 ⟨rfl, hb6⟩
            have i1 := t1.below hb6 t1.lt
            have i0 := t0.below hb6 t0.lt
            have i2 := t2.below hb6 t2.lt
            have ix := tx.below hb6 tx.lt
            have iw := tw.trans (hb6.mono tw.size)
            clear t1 t0 t2 tx tw hb6
            go_wp2_with (refine wpList_store_blk rfl 33 _ _ rfl _ (ints .u8 (nn X4)) rfl rfl i1 (by rw [size_r16, ints_length, nn_length, L4.out]) (by rw [ints_length, ints_length, nn_length, nn_length, HLen.out, L4.out]) (ints_one _ _) ?_)
            go_roundw
            case rel =>
              refine ⟨13 + 1, by omega, by first | rfl | go_num, ?_, ?_, ?_, ?_, ?_⟩
              · rw [HX.out]; exact i1.row (ints .u8 (nn X4)) (by rw [ints_length, ints_length, nn_length, nn_length, HLen.out, L4.out])
              · exact i0.rowOther (by omega) _
              · exact i2.rowOther (by omega) _
              · exact ix.rowOther (by omega) _
              · exact below_setRow iw (by omega) _
            case measure => simp [intOf] <;> omega
    · obtain rfl : n = 14 := by omega
      have hE : Blk wr (w.heap.size + 1) 33 (ints .u8 (nn L)) := by rw [← HL.out]; exact j1
      clear j1 hlen hbys
      go_wp2_with (first | (refine wpList_load_blk rfl 33 _ rfl _ rfl hE Try.underlying33 rfl (by rw [size_r16, ints_length, nn_length, HLL.out]) ?_) | (refine wpList_store_blk rfl 33 _ _ rfl _ _ rfl rfl j2 (by rw [size_r16, ints_length, nn_length, HLL.out]) (by rw [ints_length, ints_length, nn_length, nn_length, HLL.out, zerN_len]) (ints_one _ _) ?_))
      refine bodyPost_ret (v := .agg (ints .u8 (nn L)).toArray) (results_cell_blk rfl _ _ _ rfl (j2.row (ints .u8 (nn L)) (by rw [ints_length, ints_length, nn_length, nn_length, HLL.out, zerN_len])) Try.underlying33 rfl (by rw [size_r16, ints_length, nn_length, HLL.out])) rfl ⟨rfl, below_setRow jw (by omega) _⟩
end Go.Proofs.Ytgagafefhmofjaa
