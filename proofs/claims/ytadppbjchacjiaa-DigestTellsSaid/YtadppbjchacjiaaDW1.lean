/- Walks of digest's step and schedule, and of both rot's. -/
import Derived.Test.YtadppbjchacjiaaRows
import Derived.Test.YtadppbjchacjiaaDSpec
import Derived.Lib.Hide
import Derived.StillTailTactics
import Derived.WalkSpells
namespace Go.Proofs.Ytadppbjchacjiaa
open Go.RowKit
set_option linter.unusedVariables false

set_option maxHeartbeats 400000 in
theorem rotl (x : Int) (n : Nat) (w : World) (h1 : 1 ≤ n) (h2 : n ≤ 31) :
    Calls Try.prog 38 #[.int .u32 x, .int .i64 (-(n : Int))] w fun e w' => e = .returned (.int .u32 (rotr x n)) ∧ w = w' := by
  have hk := rot_mask n h1 h2
  go_enter Try.func38, Try.ntmps38
  go_wp2
  go_ret
  refine ⟨?_, rfl⟩
  rw [show 32 - (32 - n) = n by omega]; rfl
set_option maxHeartbeats 400000 in
theorem d_rot (x k : Int) (w : World) (h1 : 1 ≤ k) (h2 : k ≤ 31) :
    Calls Try.prog 36 #[.int .u32 x, .int .i64 k] w fun e w' => e = .returned (.int .u32 (rotr x k.toNat)) ∧ w = w' := by
  obtain ⟨n, rfl⟩ := Int.eq_ofNat_of_zero_le (show 0 ≤ k by omega)
  rw [Int.toNat_natCast]
  go_enter Try.func36, Try.ntmps36
  go_wp2_with (go_at_call 38; refine (rotl _ _ _ (by omega) (by omega)).mono ?_; rintro e w' ⟨rfl, rfl⟩)
  go_ret
  exact ⟨rfl, rfl⟩
theorem d_rot_s (x k : Int) (w : World) (h1 : 1 ≤ k) (h2 : k ≤ 31) :
    Calls Try.prog 36 #[.int .u32 x, .int .i64 k] w fun e w' => e = .returned (.int .u32 (rotr x k.toNat)) ∧ w' = w :=
  (d_rot x k w h1 h2).mono fun _ _ ⟨a, b⟩ => ⟨a, b.symm⟩
set_option maxHeartbeats 400000 in
theorem r_rot (x k : Int) (w : World) (h1 : 1 ≤ k) (h2 : k ≤ 31) :
    Calls Try.prog 33 #[.int .u32 x, .int .i64 k] w fun e w' => e = .returned (.int .u32 (rotr x k.toNat)) ∧ ∃ n, w' = w.drewN n := by
  obtain ⟨n, rfl⟩ := Int.eq_ofNat_of_zero_le (show 0 ≤ k by omega)
  rw [Int.toNat_natCast]
  go_enter Try.func33, Try.ntmps33
  go_wp2
  go_quiet (fail)
  go_wp2
  go_ret
  refine ⟨?_, _, rfl⟩
  show Ending.returned (Value.int IntKind.u32 (bits BinOp.or IntKind.u32 (x / 2 ^ n) (x * 2 ^ (32 - n) % 4294967296))) = _
  rw [bits_or_comm]; rfl
theorem size_k64 : (Try.prog.info? 38).map (·.size) = some 64 := by kernel_rfl
set_option maxHeartbeats 1000000 in
set_option maxRecDepth 100000 in
theorem d_sched (s : ByteArray) (w : World) (hs : s.size = 64) :
    Calls Try.prog 30 #[.string s] w fun e w' => e = .returned (.agg (ints .u32 (sched s)).toArray) ∧ Below w.heap.size w w' := by
  have hsz : 64 ≤ s.size := by omega
  clear hs
  go_enter Try.func30, Try.ntmps30
  go_wp2
  generalize hw2 : World.alloc (World.alloc w _) _ = w2
  have hb2 : Below w.heap.size w w2 := by rw [← hw2]; exact ((Below.refl _ _).alloc (Nat.le_refl _) _).alloc (by simp) _
  have hk0 : Blk w2 w.heap.size 38 (ints .u32 (zer 64)) := by
    rw [← hw2]; exact Blk.alloc (Blk.new' _ _ _ rfl) _
  have hk1 : Blk w2 (w.heap.size + 1) 38 (ints .u32 (zer 64)) := by
    rw [← hw2]
    exact Blk.new2 _ _ _ _ rfl
  clear hw2
  go_loopw [9] (fun i wr => ∃ k : Nat, k ≤ 16 ∧ i = .int .i64 k ∧ Blk wr w.heap.size 38 (ints .u32 (zer 64)) ∧ Blk wr (w.heap.size + 1) 38 (ints .u32 (first16 s k)) ∧ Below w.heap.size w wr) (fun i _ => 16 - (intOf i).toNat)
  case atStart => exact ⟨0, by omega, rfl, hk0, hk1, hb2⟩
  case round =>
    obtain ⟨k, hk, rfl, hz, hf, hb⟩ := hrel
    clear hk0 hk1 hb2
    by_cases hlt : k < 16
    · go_wp2
      obtain ⟨wo, rfl⟩ : ∃ wo : World, wo = wr := ⟨_, rfl⟩
      go_loopw [12] (fun i wq => ∃ j : Nat, j ≤ 4 ∧ i = .int .i64 j ∧ Blk wq w.heap.size 38 (ints .u32 (zer 64)) ∧ Blk wq (w.heap.size + 1) 38 (ints .u32 ((first16 s k).set k (pre s k j))) ∧ Below w.heap.size w wq) (fun i _ => 4 - (intOf i).toNat)
      case atStart => exact ⟨0, by omega, rfl, hz, by rw [first16_set0 _ _ (by omega)]; exact hf, hb⟩
      case round =>
        obtain ⟨j, hj, rfl, hz', hf', hb'⟩ := hrel
        clear hz hf hb
        by_cases hlj : j < 4
        · have hc := hf'.int (j := k) (by simp [first16_len _ _ (show k ≤ 64 by omega)]; omega)
          have hg : ((first16 s k).set k (pre s k j)).getD k 0 = pre s k j := by
            simp [first16_len _ _ (show k ≤ 64 by omega), show k < 64 by omega]
          rw [hg] at hc
          clear hg
          have hfr := hf'.free k
          have h4 : (4 : Int) * (k : Int) + (j : Int) < (s.size : Int) := by omega
          have hk64 : (k : Int) < 64 := by omega
          have e1 : IntKind.i64.wrap (4 * (k : Int)) = 4 * (k : Int) := IntWalk.i64_in _ (by omega)
          have e2 : IntKind.i64.wrap (4 * (k : Int) + (j : Int)) = 4 * (k : Int) + (j : Int) := IntWalk.i64_in _ (by omega)
          have e3 : (0 : Int) ≤ 4 * (k : Int) + (j : Int) := by omega
          have e4 : (4 * (k : Int) + (j : Int)).toNat = 4 * k + j := by omega
          have e5 : 4 * k + j < s.size := by omega
          go_wp2
          go_region
          go_wp2
          go_roundw
          case rel =>
            refine ⟨j + 1, by omega, by go_num, ?_, ?_, ?_⟩
            · exact (hz'.drew).other (by simp) _
            · have := (hf'.drew).setInt k (pre s k (j + 1))
              rw [List.set_set] at this
              rw [byteN_at, Int.emod_eq_of_lt (byteN_lt s _).1 (by have := (byteN_lt s (4 * k + j)).2; omega)]
              exact this
            · exact (hb'.drew).setCell (by simp) _
          case measure => simp [intOf]; omega
        · obtain rfl : j = 4 := by omega
          rw [first16_set _ _ (by omega)] at hf'
          go_wp2
          go_roundw
          case rel => exact ⟨k + 1, by omega, by go_num, hz', hf', hb'⟩
          case measure => simp [intOf]; omega
    · obtain rfl : k = 16 := by omega
      go_wp2
      obtain ⟨wo, rfl⟩ : ∃ wo : World, wo = wr := ⟨_, rfl⟩
      go_loopw [6] (fun i wq => ∃ n : Nat, 16 ≤ n ∧ n ≤ 64 ∧ i = .int .i64 (n : Int) ∧ Blk wq w.heap.size 38 (ints .u32 (zer 64)) ∧ Blk wq (w.heap.size + 1) 38 (ints .u32 (schedN (first16 s 16) (n - 16))) ∧ Below w.heap.size w wq) (fun i _ => 64 - (intOf i).toNat)
      case atStart => exact ⟨16, by omega, by omega, rfl, hz, hf, hb⟩
      case round =>
        obtain ⟨n, hn16, hn64, rfl, hz', hf', hb'⟩ := hrel
        clear hz hf hb
        by_cases hln : n < 64
        · have hsucc : schedN (first16 s 16) (n + 1 - 16) = (schedN (first16 s 16) (n - 16)).set n (nextW (schedN (first16 s 16) (n - 16)) n) := by
            rw [show n + 1 - 16 = (n - 16) + 1 by omega]
            show (schedN _ (n - 16)).set (16 + (n - 16)) _ = _
            rw [show 16 + (n - 16) = n by omega]
          have hll : (schedN (first16 s 16) (n - 16)).length = 64 := by rw [schedN_len, first16_len _ _ (by omega)]
          have Hs := Lib.hid hsucc
          clear hsucc
          generalize schedN (first16 s 16) (n - 16) = l at *
          have c16 := hf'.int (j := n - 16) (by omega)
          have c7 := hf'.int (j := n - 7) (by omega)
          have c15 := hf'.int (j := n - 15) (by omega)
          have c2 := hf'.int (j := n - 2) (by omega)
          have c0 := hf'.int (j := n) (by omega)
          have hfr := hf'.free n
          have b1 : (0 : Int) ≤ (n : Int) - 15 ∧ (n : Int) - 15 < 64 := by omega
          have b2 : (0 : Int) ≤ (n : Int) - 2 ∧ (n : Int) - 2 < 64 := by omega
          have b3 : (0 : Int) ≤ (n : Int) - 16 ∧ (n : Int) - 16 < 64 := by omega
          have b4 : (0 : Int) ≤ (n : Int) - 7 ∧ (n : Int) - 7 < 64 := by omega
          have b5 : (n : Int) < 64 := by omega
          have x1 : ((n : Int) - 15).toNat = n - 15 := by omega
          have x2 : ((n : Int) - 2).toNat = n - 2 := by omega
          have x3 : ((n : Int) - 16).toNat = n - 16 := by omega
          have x4 : ((n : Int) - 7).toNat = n - 7 := by omega
          have Hll := Lib.hid hll
          clear hll
          go_wp2
          go_quiet (fail)
          go_wp2_with fail
          have e16 : IntKind.i64.wrap ((n : Int) - 16) = (n : Int) - 16 := IntWalk.i64_in _ (by omega)
          have e7 : IntKind.i64.wrap ((n : Int) - 7) = (n : Int) - 7 := IntWalk.i64_in _ (by omega)
          have b30 : (0 : Int) ≤ (n : Int) - 16 := b3.1
          have b31 : (n : Int) - 16 < 64 := b3.2
          have b40 : (0 : Int) ≤ (n : Int) - 7 := b4.1
          have b41 : (n : Int) - 7 < 64 := b4.2
          have b50 : (0 : Int) ≤ (n : Int) := by omega
          have b32 : (16 : Int) ≤ (n : Int) := by omega
          have b42 : (7 : Int) ≤ (n : Int) := by omega
          refine wp_region_still_tail 29 mixed (by kernel_rfl) ?_
          simp only [List.take_succ_cons, List.take_zero, List.drop_succ_cons, List.drop_zero]
          change wpStill _ _ (World.drew _) _ _ _
          repeat (first | still_step | still_call (d_rot_s _ _ _ (by omega) (by omega)))
          refine wpStill_nil ?_
          change wpList _ _ _ _ _ (World.drew _)
          clear e16 e7
          go_wp2
          go_roundw
          case rel =>
            repeat apply Exists.intro
            refine ⟨?_, rfl⟩
            refine ⟨n + 1, by omega, by omega, by go_num, ?_, ?_, ?_⟩
            · exact ((hz'.drewN nq).drew).other (by simp) _
            · rw [Hs.out]
              have := ((hf'.drewN nq).drew).setInt n (nextW l n)
              simp only [nextW, sg0, sg1, List.getD_eq_getElem?_getD] at this ⊢
              exact this
            · exact ((below_drewN hb' nq).drew).setCell (by simp) _
          case measure => simp [intOf]; omega
        · obtain rfl : n = 64 := by omega
          have hS : Blk wr (w.heap.size + 1) 38 (ints .u32 (sched s)) := hf'
          clear hf'
          go_wp2_with (first | (refine wpList_load_blk rfl 38 _ rfl _ rfl hS Try.underlying38 rfl (by rw [size_k64, ints_length, sched_len]) ?_) | (refine wpList_store_blk rfl 38 _ _ rfl _ _ rfl rfl hz' (by rw [size_k64, ints_length, sched_len]) (by simp only [ints_length, sched_len]; rfl) (ints_one _ _) ?_))
          refine bodyPost_ret (v := .agg (ints .u32 (sched s)).toArray) (results_cell_blk rfl _ _ _ rfl (hz'.row (ints .u32 (sched s)) (by simp only [ints_length, sched_len]; rfl)) Try.underlying38 rfl (by rw [size_k64, ints_length, sched_len])) rfl ⟨rfl, below_setRow hb' (Nat.le_refl _) _⟩

theorem size_h8 : (Try.prog.info? 40).map (·.size) = some 8 := by kernel_rfl
set_option maxHeartbeats 1000000 in
set_option maxRecDepth 100000 in
theorem d_step (a b c d e f g h m : Int) (w : World) :
    Calls Try.prog 31 #[.agg (ints .u32 [a, b, c, d, e, f, g, h]).toArray, .int .u32 m] w fun e' w' => e' = .returned (.agg (ints .u32 (shaStep [a, b, c, d, e, f, g, h] m)).toArray) ∧ Below w.heap.size w w' := by
  have hsg : IntKind.u32.signed = false := rfl
  simp only [ints, List.map]
  go_enter Try.func31, Try.ntmps31
  go_wp2
  go_quiet (fail)
  have hB : Blk (((w.alloc (.cells (ints .u32 [a, b, c, d, e, f, g, h]).toArray 40)).alloc (.cells (ints .u32 (zer 8)).toArray 40)).drewN nq) (w.heap.size + 1) 40 (ints .u32 (zer 8)) := (Blk.new2 _ _ _ _ rfl).drewN nq
  have hbel : Below w.heap.size w (((w.alloc (.cells (ints .u32 [a, b, c, d, e, f, g, h]).toArray 40)).alloc (.cells (ints .u32 (zer 8)).toArray 40)).drewN nq) := below_drewN (((Below.refl _ _).alloc (Nat.le_refl _) _).alloc (by simp) _) nq
  have ez : (World.alloc (World.alloc w (.cells #[.int .u32 a, .int .u32 b, .int .u32 c, .int .u32 d, .int .u32 e, .int .u32 f, .int .u32 g, .int .u32 h] 40)) (.cells #[.int .u32 0, .int .u32 0, .int .u32 0, .int .u32 0, .int .u32 0, .int .u32 0, .int .u32 0, .int .u32 0] 40)).drewN nq = (((w.alloc (.cells (ints .u32 [a, b, c, d, e, f, g, h]).toArray 40)).alloc (.cells (ints .u32 (zer 8)).toArray 40)).drewN nq) := rfl
  rw [ez]
  generalize (((w.alloc (.cells (ints .u32 [a, b, c, d, e, f, g, h]).toArray 40)).alloc (.cells (ints .u32 (zer 8)).toArray 40)).drewN nq) = w2 at *
  clear ez
  go_wp2_with (first | (go_at_call 36; refine (d_rot _ _ _ (by omega) (by omega)).mono ?_; rintro e w' ⟨rfl, rfl⟩) | (refine wpList_store_blk rfl 40 _ _ rfl _ (ints .u32 (shaStep [a, b, c, d, e, f, g, h] m)) rfl rfl hB (by rw [size_h8]; rfl) rfl (ints_one _ _) ?_))
  refine bodyPost_ret (v := .agg (ints .u32 (shaStep [a, b, c, d, e, f, g, h] m)).toArray) (results_cell_blk rfl _ _ _ rfl (hB.row (ints .u32 (shaStep [a, b, c, d, e, f, g, h] m)) rfl) Try.underlying40 rfl (by rw [size_h8]; rfl)) rfl ⟨rfl, below_setRow hbel (by omega) _⟩
theorem d_step_v (v : List Int) (m : Int) (w : World) (hv : v.length = 8) :
    Calls Try.prog 31 #[.agg (ints .u32 v).toArray, .int .u32 m] w fun e' w' => e' = .returned (.agg (ints .u32 (shaStep v m)).toArray) ∧ Below w.heap.size w w' := by
  match v, hv with
  | [a, b, c, d, e, f, g, h], _ => exact d_step a b c d e f g h m w
end Go.Proofs.Ytadppbjchacjiaa
