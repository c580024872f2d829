/- The walk of digest's take: a block is gone through. -/
import Derived.Test.YtbobdbdknapdcaaD1
import Derived.Test.YtbobdbdknapdcaaG1
import Derived.Deep.MidRow
namespace Go.Proofs.Ytbobdbdknapdcaa
open Go.RowKit
set_option linter.unusedVariables false

set_option maxHeartbeats 1000000 in
set_option maxRecDepth 100000 in
theorem d_take (b : Nat) (s : ByteArray) (K v : List Int) (w : World) (hK : K.length = 64) (hv : v.length = 8) (hr : Blk w b 85 (ints .u32 (K ++ v))) (hs : s.size = 64) :
    Calls Try.prog 36 #[.pointer (some ⟨b, 0, none⟩), .string s] w fun e w' => e = .returned (.tuple #[]) ∧ Blk w' b 85 (ints .u32 (K ++ shaBlock K v s)) ∧ Below b w w' := by
  have hlt := hr.lt
  have hrg : w.rangeAt b 64 (ints .u32 v) := by
    have := Blk.range (x := ints .u32 K) (y := ints .u32 v) (z := []) (w := w) (b := b) (t := 85) (by rw [← ints_app, List.append_nil]; exact hr)
    rwa [ints_length, hK] at this
  have HK := Lib.hid hK
  have HV := Lib.hid hv
  have HS := Lib.hid hs
  clear hK hv hs
  go_enter Try.func36, Try.ntmps36
  go_wp2_with (first | (refine wpList_load_mid rfl 70 _ rfl b 64 rfl (ints .u32 v) _ hrg Try.underlying70 rfl (by rw [size_h8, ints_length, HV.out]) ?_) | (refine wpList_store_blk rfl 70 _ _ rfl w.heap.size (ints .u32 v) rfl rfl (Blk.new' w 70 (ints .u32 (zer 8)) rfl) (by rw [size_h8, ints_length, HV.out]) (by rw [ints_length, ints_length, HV.out]; rfl) (ints_one _ _) ?_))
  have hb1 : Below w.heap.size w ((w.alloc (.cells #[.int .u32 0, .int .u32 0, .int .u32 0, .int .u32 0, .int .u32 0, .int .u32 0, .int .u32 0, .int .u32 0] 70)).setRow w.heap.size (ints .u32 v).toArray) := below_setRow ((Below.refl _ _).alloc (Nat.le_refl _) _) (Nat.le_refl _) _
  have hv1 : Blk ((w.alloc (.cells #[.int .u32 0, .int .u32 0, .int .u32 0, .int .u32 0, .int .u32 0, .int .u32 0, .int .u32 0, .int .u32 0] 70)).setRow w.heap.size (ints .u32 v).toArray) w.heap.size 70 (ints .u32 v) := (Blk.new' w 70 (ints .u32 (zer 8)) rfl).row _ (by rw [ints_length, ints_length, HV.out]; rfl)
  generalize hw1 : World.setRow _ _ _ = w1 at *
  clear hw1
  go_wp2_with (go_at_call 53; refine (d_sched _ _ HS.out).mono ?_; rintro e w2 ⟨rfl, hb2⟩)
  have hv2 := hv1.below hb2 hv1.lt
  have hb2' := hb1.trans (hb2.mono hb1.size)
  have hr2 := hr.below hb2' hlt
  clear hv1 hb1 hb2 hr2 hrg
  go_loopw [5, 6, 15] (fun _ _ i wr => ∃ k : Nat, k ≤ 64 ∧ i = .int .i64 k ∧ Blk wr w.heap.size 70 (ints .u32 (shaRounds K (sched s) v k)) ∧ Below w.heap.size w wr) (fun _ _ i _ => 64 - (intOf i).toNat)
  case atStart => exact ⟨0, by omega, rfl, hv2, hb2'⟩
  case round =>
    obtain ⟨k, hk, rfl, hz, hb⟩ := hrel
    have hrr := hr.below hb hlt
    by_cases hl64 : k < 64
    · have hix := fun w => run_index_ints (P := Try.prog) 81 69 64 .u32 .i64 (sched s) k Try.underlying81 ⟨_, Try.underlying69, rfl⟩ size_u32 (sched_len s) hl64 w
      have hkey : wr.cell? ⟨b, k, none⟩ = some (.int .u32 (K.getD k 0)) := by
        rw [hrr.int (by rw [List.length_append, HK.out]; omega)]
        rw [List.getD_eq_getElem?_getD, List.getD_eq_getElem?_getD, List.getElem?_append_left (by rw [HK.out]; omega)]
      have hrow : wr.rangeAt w.heap.size 0 (ints .u32 (shaRounds K (sched s) v k)) := by
        have := Blk.range (x := []) (y := ints .u32 (shaRounds K (sched s) v k)) (z := []) (w := wr) (b := w.heap.size) (t := 70) (by simpa using hz)
        simpa using this
      have hl8 := shaRounds_len K (sched s) v HV.out k
      generalize hl : shaRounds K (sched s) v k = l at *
      have Hl := Lib.hid hl
      clear hl
      have Hl8 := Lib.hid hl8
      clear hl8
      have hk64 : (k : Int) < 64 := by omega
      go_wp2
      refine region_drew_tail 9 mixed (by kernel_rfl) ?_
      simp only [List.take_succ_cons, List.take_zero, List.drop_succ_cons, List.drop_zero]
      refine wpQuiet_load_mid rfl 70 _ rfl w.heap.size 0 rfl (ints .u32 l) (fun w' ⟨m, hm⟩ => by subst hm; exact hrow) Try.underlying70 rfl (by rw [size_h8, ints_length, Hl8.out]) ?_
      repeat (first | go_big_quiet_step (fail) | quiet_step (fail))
      refine wpQuiet_nil ?_
      rintro _ ⟨nq, rfl⟩
      have Hs8 : Hid (∀ m, (shaStep l m).length = 8) := Lib.hid (fun m => shaStep_len l m Hl8.out)
      go_wp2_with (first | (go_at_call 54; refine (d_step_v _ _ _ Hl8.out).mono ?_; rintro e w3 ⟨rfl, hb3⟩; have hz3 : Blk w3 w.heap.size 70 (ints .u32 l) := Blk.below (hz.drewN nq) hb3 hz.lt) | (refine wpList_store_blk rfl 70 _ _ rfl w.heap.size (ints .u32 (shaStep l _)) rfl rfl hz3 (by rw [size_h8, ints_length, Hs8.out]) (by rw [ints_length, ints_length, Hl8.out, Hs8.out]) (ints_one _ _) ?_))
      have hb3' : Below w.heap.size w w3 := (below_drewN hb nq).trans (hb3.mono (below_drewN hb nq).size)
      go_roundw
      case rel =>
        refine ⟨k + 1, by omega, by go_num, ?_, below_setRow hb3' (Nat.le_refl _) _⟩
        show Blk _ _ _ (ints .u32 (shaStep (shaRounds K (sched s) v k) _))
        rw [Hl.out]
        exact hz3.row _ (by rw [ints_length, ints_length, Hl8.out, Hs8.out])
      case measure => simp [intOf]; omega
    · obtain rfl : k = 64 := by omega
      have hv8 := shaRounds_len K (sched s) v HV.out 64
      generalize hx : shaRounds K (sched s) v 64 = x at *
      have Hx := Lib.hid hx
      have HX := Lib.hid hv8
      clear hx hv8
      go_wp2_with (first | (refine wpList_load_blk rfl 70 _ rfl _ rfl hz Try.underlying70 rfl (by rw [size_h8, ints_length, HX.out]) ?_))
      obtain ⟨wo, rfl⟩ : ∃ wo : World, wo = wr := ⟨_, rfl⟩
      go_loopw [7, 8, 31] (fun _ _ i wq => ∃ k : Nat, k ≤ 8 ∧ i = .int .i64 k ∧ Blk wq b 85 (ints .u32 (K ++ addN v x k)) ∧ Below b w wq) (fun _ _ i _ => 8 - (intOf i).toNat)
      case atStart => exact ⟨0, by omega, rfl, hrr, hb.mono (by omega)⟩
      case round =>
        obtain ⟨k, hk, rfl, hq, hbq⟩ := hrel
        clear hz hb hrr
        have hl8 := addN_len v x k
        rw [HV.out] at hl8
        have e1 : (K ++ addN v x (k + 1)) = (K ++ addN v x k).set (64 + k) (((addN v x k).getD k 0 + x.getD k 0) % 4294967296) := by
          rw [List.set_append_right _ _ (by rw [HK.out]; omega), HK.out, show 64 + k - 64 = k by omega]; rfl
        have E1 := Lib.hid e1
        clear e1
        generalize hy : addN v x k = y at *
        have Hy := Lib.hid hy
        clear hy
        have HY := Lib.hid hl8
        clear hl8
        by_cases hl64 : k < 8
        · have hix := fun w => run_index_ints (P := Try.prog) 70 69 8 .u32 .i64 x k Try.underlying70 ⟨_, Try.underlying69, rfl⟩ size_u32 HX.out hl64 w
          have hcell : wr.cell? ⟨b, 64 + k, none⟩ = some (.int .u32 (y.getD k 0)) := by
            rw [hq.int (by rw [List.length_append, HK.out, HY.out]; omega)]
            rw [List.getD_eq_getElem?_getD, List.getD_eq_getElem?_getD, List.getElem?_append_right (by rw [HK.out]; omega), HK.out, show 64 + k - 64 = k by omega]
          have hfree := hq.free (64 + k)
          have hk64 : (k : Int) < 8 := by omega
          go_wp2
          refine wp_region_still_tail 11 mixed (by kernel_rfl) ?_
          simp only [List.take_succ_cons, List.take_zero, List.drop_succ_cons, List.drop_zero]
          change wpStill _ _ (World.drew _) _ _ _
          repeat still_step
          refine wpStill_nil ?_
          change wpList _ _ _ _ _ (World.drew _)
          go_wp2
          go_roundw
          case rel =>
            refine ⟨k + 1, by omega, by go_num, ?_, (hbq.drew).setCell (Nat.le_refl _) _⟩
            rw [E1.out]
            exact (hq.drew).setInt (64 + k) _
          case measure => simp [intOf]; omega
        · obtain rfl : k = 8 := by omega
          go_wp2
          go_end0
          refine ⟨rfl, ?_, hbq⟩
          show Blk _ _ _ (ints .u32 (K ++ addN v (shaRounds K (sched s) v 64) 8))
          rw [Hx.out, Hy.out]
          exact hq
end Go.Proofs.Ytbobdbdknapdcaa
