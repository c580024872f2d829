/- Walk of seal's takenApart. -/
import Derived.Test.YtleofmeejjikmaaLKeys
import Derived.IntWalk
namespace Go.Proofs.Ytleofmeejjikmaa
open Go.RowKit
set_option linter.unusedVariables false

def row0 : List Value := prow (zerN 16) ⟨#[]⟩ (zerN 32)
theorem row0_len : row0.length = 49 := prow_len _ rfl rfl
theorem alloc_parts (w : World) : (Instr.alloc 47 true (.tuple #[])).run Try.prog w = .ok (.pointer (some ⟨w.heap.size, 0, none⟩)) (w.alloc (.cells row0.toArray 47)) := by kernel_rfl
theorem build_parts0 (w : World) : (Instr.build 47 #[]).run Try.prog w = .ok (.agg row0.toArray) w := by kernel_rfl

set_option maxRecDepth 100000 in
set_option maxHeartbeats 400000 in
theorem l_taken_no (s : ByteArray) (w : World) (h : s.size < 48) :
    Calls Try.prog 19 #[.string s] w fun e w' => e = .returned (.tuple #[.agg row0.toArray, .bool false]) ∧ Below w.heap.size w w' := by
  have g1 : (s.size : Int) < 48 := by omega
  have K0 : Blk ((w.alloc (.cells row0.toArray 47)).alloc (.cells row0.toArray 47)) w.heap.size 47 row0 := (Blk.new w _ _).alloc _
  have Kb : Below w.heap.size w ((w.alloc (.cells row0.toArray 47)).alloc (.cells row0.toArray 47)) := ((Below.refl _ _).alloc (Nat.le_refl _) _).alloc (by simp) _
  have hone : row0.toArray.all (·.oneCell') = true := prow_one _ _ _
  have hz := row0_len
  have hal := alloc_parts
  have hbu := build_parts0
  generalize row0 = r0 at *
  have K0 := Lib.hid K0
  have Kb := Lib.hid Kb
  have HAL := Lib.hid hal
  have HBU := Lib.hid hbu
  have HZ := Lib.hid hz
  have HO := Lib.hid hone
  clear hal hbu hz hone
  go_enter Try.func19, Try.ntmps19
  go_wp2_with (first | (refine wpList_alloc_at rfl 47 rfl _ _ (HAL.out _) ?_) | (refine wpList_build_at rfl 47 _ rfl (.agg r0.toArray) (by simp only [List.map_toArray, List.map_nil]; exact HBU.out _) ?_) | (refine wpList_store_blk rfl 47 _ _ rfl w.heap.size r0 rfl rfl K0.out (by rw [size_parts, HZ.out]) rfl HO.out ?_))
  refine bodyPost_ret (v := .tuple #[.agg r0.toArray, .bool false]) (results_cell_tmp rfl _ _ _ rfl (.bool false) rfl (K0.out.row r0 rfl) Try.underlying47 rfl (by rw [size_parts, HZ.out])) rfl ⟨rfl, below_setRow Kb.out (by omega) _⟩

set_option maxRecDepth 100000 in
set_option maxHeartbeats 1000000 in
theorem l_taken (s : ByteArray) (w : World) (hs : s.size ≤ 65536) (h : 48 ≤ s.size) :
    Calls Try.prog 19 #[.string s] w fun e w' => e = .returned (.tuple #[.agg (prow (ptN s) (ptM s) (ptH s)).toArray, .bool true]) ∧ Below w.heap.size w w' := by
  obtain ⟨n, hn⟩ : ∃ n, s.size = n + 32 := ⟨s.size - 32, by omega⟩
  have eM : ptM s = s.extract 16 n := by unfold ptM; rw [hn]; rfl
  have eN : (is s).take 16 = nn (ptN s) := by rw [is_sl]; simp [nn, ptN]
  have eH : (is (s.extract n s.size)).take 32 = nn (ptH s) := by
    rw [is_sl, sl_tail]
    unfold ptH nn
    rw [show s.size - 32 = n by omega, List.take_of_length_le (by simp [sl_len]; omega)]
  have lN := ptN_len (s := s) (by omega)
  have lH := ptH_len h
  generalize ptN s = N at *
  generalize ptM s = M at *
  generalize ptH s = H at *
  have n1 : row0 = [] ++ (ints .u8 (nn (zerN 16)) ++ (Value.string ⟨#[]⟩ :: ints .u8 (nn (zerN 32)))) := rfl
  have n2 : prow N ⟨#[]⟩ (zerN 32) = [] ++ (ints .u8 ((is s).take 16) ++ (Value.string ⟨#[]⟩ :: ints .u8 (nn (zerN 32)))) := by rw [eN]; rfl
  have n3 : prow N M (zerN 32) = (ints .u8 (nn N) ++ [Value.string M]) ++ (ints .u8 (nn (zerN 32)) ++ []) := by simp [prow]
  have n4 : prow N M H = (ints .u8 (nn N) ++ [Value.string M]) ++ (ints .u8 ((is (s.extract n s.size)).take 32) ++ []) := by rw [eH]; simp [prow]
  have n5 : 17 = (ints .u8 (nn N) ++ [Value.string M]).length := by rw [List.length_append, nc_len lN]; rfl
  have K0 : Blk ((w.alloc (.cells row0.toArray 47)).alloc (.cells row0.toArray 47)) w.heap.size 47 row0 := (Blk.new w _ _).alloc _
  have K1 : Blk ((w.alloc (.cells row0.toArray 47)).alloc (.cells row0.toArray 47)) (w.heap.size + 1) 47 row0 := Blk.newAt _ _ (by simp) _ _ rfl
  have Kb : Below w.heap.size w ((w.alloc (.cells row0.toArray 47)).alloc (.cells row0.toArray 47)) := ((Below.refl _ _).alloc (Nat.le_refl _) _).alloc (by simp) _
  have r1 := prow_len ⟨#[]⟩ lN (zerN_len 32)
  have r2 := prow_len M lN (zerN_len 32)
  have r3 := prow_len M lN lH
  have o3 := prow_one N M H
  have J0 := K0.rowOther (g := w.heap.size + 1) (by omega) (prow N ⟨#[]⟩ (zerN 32)).toArray
  have J1 := K1.row (prow N ⟨#[]⟩ (zerN 32)) (by rw [r1, row0_len])
  have Jb := below_setRow Kb (b := w.heap.size + 1) (by omega) (prow N ⟨#[]⟩ (zerN 32)).toArray
  have c1 := J1.one (x := ints .u8 (nn N)) 16 (nc_len lN).symm
  have f1 := J1.free 16
  have I0 := J0.other (a := ⟨w.heap.size + 1, 16, none⟩) (show w.heap.size + 1 ≠ w.heap.size by omega) (.string M)
  have I1 := (J1.set 16 (.string M)).cast (vs' := prow N M (zerN 32)) (by unfold prow; rw [List.set_append_right _ _ (by rw [nc_len lN]; exact Nat.le_refl _), nc_len lN]; rfl)
  have Ib := Jb.setCell (p := ⟨w.heap.size + 1, 16, none⟩) (show w.heap.size ≤ w.heap.size + 1 by omega) (.string M)
  have e1 : IntKind.i64.wrap ((s.size : Int) - 32) = (n : Int) := by rw [IntWalk.i64_in _ (by omega)]; omega
  have e2 : (n : Int).toNat = n := by omega
  have e3 : (16 : Int) ≤ (n : Int) := by omega
  have e4 : (n : Int) ≤ (s.size : Int) := by omega
  have g1 : ¬ (s.size : Int) < 48 := by omega
  have xs : 32 ≤ (s.extract n s.size).size := by rw [ByteArray.size_extract]; omega
  have e5 : s.extract 16 n = M := eM.symm
  have hal := alloc_parts
  have hzl := row0_len
  generalize row0 = r0 at *
  generalize prow N ⟨#[]⟩ (zerN 32) = ra at *
  generalize prow N M (zerN 32) = rb at *
  generalize prow N M H = rc at *
  have N1 := Lib.hid n1
  have N2 := Lib.hid n2
  have N3 := Lib.hid n3
  have N4 := Lib.hid n4
  have N5 := Lib.hid n5
  have K1 := Lib.hid K1
  have R2 := Lib.hid r2
  have R3 := Lib.hid r3
  have O3 := Lib.hid o3
  have I0 := Lib.hid I0
  have I1 := Lib.hid I1
  have Ib := Lib.hid Ib
  have XS := Lib.hid xs
  have HAL := Lib.hid hal
  have HZL := Lib.hid hzl
  clear n1 n2 n3 n4 n5 K0 Kb r1 r2 r3 o3 J0 J1 Jb eN eH lN lH xs hal hzl eM hn
  go_enter Try.func19, Try.ntmps19
  go_wp2_with (first | (refine wpList_alloc_at rfl 47 rfl _ _ (HAL.out _) ?_) | (refine wpList_copy_part rfl _ _ 53 9 5 rfl (w.heap.size + 1) 0 16 16 rfl s rfl K1.out ra [] (ints .u8 (nn (zerN 16))) _ N1.out N2.out Try.underlying53 size_u8 (by omega) rfl rfl ?_))
  generalize World.setCell _ _ _ = w4 at *
  refine region_drew_tail 5 mixed (by kernel_rfl) ?_
  simp only [List.take_succ_cons, List.take_zero, List.drop_succ_cons, List.drop_zero]
  repeat (first | go_big_quiet_step (fail) | quiet_step (fail))
  refine wpQuiet_nil ?_
  rintro _ ⟨nq, rfl⟩
  have M0 := I0.out.drewN nq
  have M1 := I1.out.drewN nq
  have Mb := below_drewN Ib.out nq
  generalize World.drewN w4 nq = w5 at *
  have L0 := M0.rowOther (g := w.heap.size + 1) (by omega) rc.toArray
  have L1 := M1.row rc (by rw [R3.out, R2.out])
  have Lb := below_setRow Mb (b := w.heap.size + 1) (by omega) rc.toArray
  go_wp2_with (first | (refine wpList_copy_part rfl _ _ 53 9 5 rfl (w.heap.size + 1) 17 32 32 rfl (s.extract n s.size) rfl M1 rc _ (ints .u8 (nn (zerN 32))) [] N3.out N4.out Try.underlying53 size_u8 XS.out N5.out rfl ?_) | (refine wpList_load_blk rfl 47 _ rfl _ rfl L1 Try.underlying47 rfl (by rw [size_parts, R3.out]) ?_) | (refine wpList_store_blk rfl 47 _ _ rfl w.heap.size rc rfl rfl L0 (by rw [size_parts, R3.out]) (by rw [R3.out, HZL.out]) O3.out ?_))
  refine bodyPost_ret (v := .tuple #[.agg rc.toArray, .bool true]) (results_cell_tmp rfl _ _ _ rfl (.bool true) rfl (L0.row rc (by rw [R3.out, HZL.out])) Try.underlying47 rfl (by rw [size_parts, R3.out])) rfl ⟨rfl, below_setRow Lb (by omega) _⟩
end Go.Proofs.Ytleofmeejjikmaa
