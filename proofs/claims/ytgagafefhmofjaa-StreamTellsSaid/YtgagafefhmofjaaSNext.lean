/- Walk of stream's Next. -/
import Derived.Test.YtgagafefhmofjaaCipL
import Derived.Test.YtgagafefhmofjaaSNum
namespace Go.Proofs.Ytgagafefhmofjaa
open Go.RowKit
set_option linter.unusedVariables false

theorem wraps_u64 (n : Int) (h0 : 0 ≤ n) (h1 : n < 2 ^ 64) : IntKind.u64.wrap n = n := by rw [IntKind.wrap_u64]; omega
theorem and255_64 (x : Nat) (h : x < 2 ^ 64) : bits .and .u64 (x : Int) 255 = ((x % 256 : Nat) : Int) := by
  have e := (bits_nat .u64 64 (by decide) wraps_u64 x 255 h (by omega)).1
  rw [show ((255 : Nat) : Int) = 255 by rfl] at e
  rw [e, show (255 : Nat) = 2 ^ 8 - 1 by rfl, Nat.and_two_pow_sub_one_eq_mod]
theorem div256 (N t : Nat) : N / 256 ^ t / 256 = N / 256 ^ (t + 1) := by rw [Nat.div_div_eq_div_mul, Nat.pow_succ]

set_option maxHeartbeats 2000000 in
set_option maxRecDepth 100000 in
theorem s_Next (c : List Nat) (N : Nat) (w : World) (hc : c.length = 16) (hcb : Bys c) (hN : N < 2 ^ 64) :
    Calls Try.prog 18 #[.agg (ints .u8 (nn c)).toArray, .int .u64 (N : Int)] w fun e w' => e = .returned (.agg (ints .u8 (nn (nextL c N))).toArray) ∧ Below w.heap.size w w' := by
  obtain ⟨L, hL⟩ : ∃ L, nextL c N = L := ⟨_, rfl⟩
  have hLL : L.length = 16 := by rw [← hL]; exact nextL_len _ _
  have hall := nxP_all c N
  rw [hL] at hall ⊢
  have HL := Lib.hid hall
  have HLL := Lib.hid hLL
  have hz := nxP_zero hc N
  have HZ := Lib.hid hz
  clear hall hLL hc hL hz
  have k0 : Blk ((w.alloc (.cells (ints .u8 (nn c)).toArray 28)).alloc (.cells (ints .u8 (nn (zerN 16))).toArray 28)) w.heap.size 28 (ints .u8 (nn (nxP c N 0))) := by
    rw [HZ.out]; exact (Blk.new _ _ _).alloc _
  have k1 : Blk ((w.alloc (.cells (ints .u8 (nn c)).toArray 28)).alloc (.cells (ints .u8 (nn (zerN 16))).toArray 28)) (w.heap.size + 1) 28 (ints .u8 (nn (zerN 16))) := Blk.new2 _ _ _ _ rfl
  have kb : Below w.heap.size w ((w.alloc (.cells (ints .u8 (nn c)).toArray 28)).alloc (.cells (ints .u8 (nn (zerN 16))).toArray 28)) := ((Below.refl _ _).alloc (Nat.le_refl _) _).alloc (by simp) _
  go_enter Try.func18, Try.ntmps18
  go_wp2_with (refine wpList_alloc_at rfl 28 rfl _ _ (alloc_b16 _) ?_)
  generalize World.alloc (World.alloc w _) _ = w2 at *
  have n0 : N / 256 ^ 0 = N := by simp
  have c0 := cry_zero (num c) N
  go_loopw [1, 5, 6] (fun nv cv i wr => ∃ t : Nat, t ≤ 16 ∧ nv = .int .u64 ((N / 256 ^ t : Nat) : Int) ∧ cv = .int .u64 ((cry (num c) N t : Nat) : Int) ∧ i = .int .i64 (15 - (t : Int)) ∧ Blk wr w.heap.size 28 (ints .u8 (nn (nxP c N t))) ∧ Blk wr (w.heap.size + 1) 28 (ints .u8 (nn (zerN 16))) ∧ Below w.heap.size w wr) (fun _ _ i _ => (intOf i + 1).toNat)
  case atStart => exact ⟨0, by omega, by rw [n0], by rw [c0]; rfl, rfl, k0, k1, kb⟩
  case round =>
    obtain ⟨t, ht, rfl, rfl, rfl, g0, g1, gb⟩ := hrel
    clear k0 k1 kb n0 c0
    by_cases hlt : t < 16
    · have hs := nxP_succ hcb N t hlt
      have hcr := sumN_cry hcb N t hlt
      have hdv := div256 N t
      have hnv : N / 256 ^ t < 2 ^ 64 := Nat.lt_of_le_of_lt (Nat.div_le_self _ _) hN
      have hcl := cry_le (num c) N t
      have hsd : sumN c N t = c.getD (15 - t) 0 + N / 256 ^ t % 256 + cry (num c) N t := rfl
      have hcv := hcb (15 - t)
      have c1 := g0.nat (j := 15 - t) (by rw [nxP_len]; omega)
      rw [nxP_at c N t hlt] at c1
      have hfr := g0.free (15 - t)
      have Hs := Lib.hid hs
      have Hcr := Lib.hid hcr
      have Hdv := Lib.hid hdv
      clear hs hcr hdv
      generalize sumN c N t = S at *
      generalize N / 256 ^ t = nv at *
      generalize c.getD (15 - t) 0 = cv at *
      generalize cry (num c) N t = cr at *
      generalize nxP c N t = l at *
      have hnv1 : (nv : Int) < 18446744073709551616 := by omega
      have hnv2 : (0 : Int) ≤ (nv : Int) := by omega
      have f0 : IntKind.u64.wrap (cv : Int) = (cv : Int) := wraps_u64 _ (by omega) (by omega)
      have f1 := and255_64 nv hnv
      have f2 : IntKind.u64.wrap ((cv : Int) + ((nv % 256 : Nat) : Int)) = ((cv + nv % 256 : Nat) : Int) := wraps_u64 _ (by omega) (by omega)
      have f3 : IntKind.u64.wrap (((cv + nv % 256 : Nat) : Int) + (cr : Int)) = (S : Int) := by rw [wraps_u64 _ (by omega) (by omega)]; omega
      have f4 : IntKind.u8.wrap (S : Int) = ((S % 256 : Nat) : Int) := by rw [IntKind.wrap_u8]; rfl
      have e0 : (0 : Int) ≤ 15 - (t : Int) := by omega
      have e1 : (15 - (t : Int)).toNat = 15 - t := by omega
      have e2 : (15 : Int) - (t : Int) < 16 := by omega
      have e3 : (t : Int) ≤ 15 := by omega
      have e4 : IntKind.i64.wrap (15 - (t : Int) - 1) = 15 - ((t : Int) + 1) := by rw [IntWalk.i64_in _ (by omega)]; omega
      have hS := hsd
      clear hsd
      go_wp2
      go_roundw
      case rel =>
        refine ⟨t + 1, by omega, ?_, ?_, ?_, ?_, ?_, ?_⟩
        · rw [← Hdv.out]; go_num
        · rw [← Hcr.out]; go_num
        · go_num
        · rw [Hs.out]
          have q := g0.setNat (15 - t) (S % 256)
          rw [show ((S % 256 : Nat) : Int) = ((cv : Int) + (nv : Int) % 256 + (cr : Int)) % 256 by omega] at q
          exact q
        · exact g1.other (by simp <;> omega) _
        · exact gb.setCell (by simp <;> omega) _
      case measure => simp [intOf]; omega
    · obtain rfl : t = 16 := by omega
      have hE : Blk wr w.heap.size 28 (ints .u8 (nn L)) := by rw [← HL.out]; exact g0
      clear g0
      go_wp2_with (first | (refine wpList_load_blk rfl 28 _ rfl _ rfl hE Try.underlying28 rfl (by rw [size_b16, ints_length, nn_length, HLL.out]) ?_) | (refine wpList_store_blk rfl 28 _ _ rfl _ _ rfl rfl g1 (by rw [size_b16, ints_length, nn_length, HLL.out]) (by rw [ints_length, ints_length, nn_length, nn_length, HLL.out, zerN_len]) (ints_one _ _) ?_))
      refine bodyPost_ret (v := .agg (ints .u8 (nn L)).toArray) (results_cell_blk rfl _ _ _ rfl (g1.row (ints .u8 (nn L)) (by rw [ints_length, ints_length, nn_length, nn_length, HLL.out, zerN_len])) Try.underlying28 rfl (by rw [size_b16, ints_length, nn_length, HLL.out])) rfl ⟨rfl, below_setRow gb (by omega) _⟩
end Go.Proofs.Ytgagafefhmofjaa
