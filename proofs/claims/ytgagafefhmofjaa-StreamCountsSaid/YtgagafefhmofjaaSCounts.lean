/-
  For all blocks and all pairs of numbers: added one behind the other they are added at once; 0 changes nothing; the greatest block and 1 are the block of zeros. No condition.
-/
import Derived.Test.YtgagafefhmofjaaRows
import Derived.Test.YtgagafefhmofjaaSShown
import Derived.Test.YtgagafefhmofjaaQTail
import Derived.ShutString
import Derived.ChangeOld
namespace Go.Proofs.Ytgagafefhmofjaa.streamCounts
open Go.ChangeShapes Go.WideShapes Go.ChangeAt Go.RowKit
open Go.ChangeMaps (open_string shut_string)
set_option linter.unusedVariables false

def f255 (_ : Nat) : Nat := 255
def all255 : List Nat := (List.range 16).map f255
theorem next_all : nextL all255 1 = zerN 16 := by decide +kernel
theorem all_bys : Bys all255 := by
  intro j
  have h : ∀ j, j < 16 → all255.getD j 0 < 256 := by decide
  by_cases hj : j < 16
  · exact h j hj
  · rw [List.getD_eq_getElem?_getD, List.getElem?_eq_none (by show 16 ≤ j; omega)]; decide

set_option maxHeartbeats 2000000 in
set_option maxRecDepth 100000 in
theorem walk (c : List Nat) (x y : Int) (n0 : c.length = 16) (o0 : Bys c) (n1 : (Lit.int .u32 x).wf = true) (n2 : (Lit.int .u32 y).wf = true) (w : World) :
    Calls Try.prog 7 #[.agg (ints .u8 (nn c)).toArray, .int .u32 x, .int .u32 y] w fun e w' => e = .returned (.bool true) ∧ Below w.heap.size w w' := by
  obtain ⟨a, rfl, ha⟩ := nat_u32 x n1
  obtain ⟨b, rfl, hb⟩ := nat_u32 y n2
  clear n1 n2
  have hS := fun w => l3_shown w
  have hA := fun w => s_Next c a w n0 o0 (by omega)
  have hB := fun w => s_Next (nextL c a) b w (nextL_len _ _) (nextL_bys _ _) (by omega)
  have hC := fun w => s_Next c (a + b) w n0 o0 (by omega)
  have hD := fun w => s_Next c 0 w n0 o0 (by omega)
  have hE := fun w => s_Next all255 1 w rfl all_bys (by decide)
  rw [nextL_nextL] at hB
  rw [nextL_zero n0 o0] at hD
  rw [next_all] at hE
  have lB := nextL_len c (a + b)
  have e1 := fun w => eql_same (nextL c (a + b)) lB w
  have e2 := fun w => eql_same c n0 w
  have e3 : ∀ w, (binOp .eql 28 (.agg (ints .u8 (nn (zerN 16))).toArray) (.agg #[.int .u8 0, .int .u8 0, .int .u8 0, .int .u8 0, .int .u8 0, .int .u8 0, .int .u8 0, .int .u8 0, .int .u8 0, .int .u8 0, .int .u8 0, .int .u8 0, .int .u8 0, .int .u8 0, .int .u8 0, .int .u8 0])).run Try.prog w = .ok (.bool true) w := fun w => eql_same (zerN 16) rfl w
  generalize nextL c (a + b) = X2 at *
  generalize nextL c a = X1 at *
  have ea : IntKind.u64.wrap (a : Int) = (a : Int) := wraps_u64 _ (by omega) (by omega)
  have eb : IntKind.u64.wrap (b : Int) = (b : Int) := wraps_u64 _ (by omega) (by omega)
  have ec : IntKind.u64.wrap ((a : Int) + (b : Int)) = ((a + b : Nat) : Int) := by rw [wraps_u64 _ (by omega) (by omega)]; omega
  have HS := Lib.hid hS
  have HA := Lib.hid hA
  have HB := Lib.hid hB
  have HC := Lib.hid hC
  have HD := Lib.hid hD
  have HE := Lib.hid hE
  have HL := Lib.hid n0
  have HLB := Lib.hid lB
  have k0 : Blk (w.alloc (.cells (ints .u8 (nn c)).toArray 28)) w.heap.size 28 (ints .u8 (nn c)) := Blk.new _ _ _
  have kb : Below w.heap.size w (w.alloc (.cells (ints .u8 (nn c)).toArray 28)) := (Below.refl _ _).alloc (Nat.le_refl _) _
  clear hS hA hB hC hD hE n0 lB
  go_enter Try.func7, Try.ntmps7
  go_wp2_with (refine wpList_load_blk rfl 28 _ rfl _ rfl k0 Try.underlying28 rfl (by rw [size_b16, ints_length, nn_length, HL.out]) ?_)
  refine (HA.out _).mono ?_
  rintro e w1 ⟨rfl, hb1⟩
  have i0 := k0.below hb1 k0.lt
  have ib := kb.trans (hb1.mono kb.size)
  clear k0 kb hb1
  go_wp2_with fail
  refine (HB.out _).mono ?_
  rintro e w2 ⟨rfl, hb2⟩
  have j0 := i0.below hb2 i0.lt
  have jb := ib.trans (hb2.mono ib.size)
  clear i0 ib hb2
  have hz := Blk.new' w2 28 (ints .u8 (nn (zerN 16))) rfl
  have hlz : (ints .u8 (nn X2)).length = (ints .u8 (nn (zerN 16))).length := by rw [ints_length, ints_length, nn_length, nn_length, HLB.out, zerN_len]
  go_wp2_with (first | (refine wpList_alloc_at rfl 28 rfl _ _ (alloc_b16 w2) ?_) | (refine wpList_store_blk rfl 28 _ _ rfl w2.heap.size (ints .u8 (nn X2)) rfl rfl hz (by rw [size_b16, ints_length, nn_length, HLB.out]) hlz.symm (ints_one _ _) ?_))
  have q2 : Blk (((w2.alloc (.cells (ints .u8 (nn (zerN 16))).toArray 28)).setRow w2.heap.size (ints .u8 (nn X2)).toArray).alloc (.cells #[.int .u8 0, .int .u8 0, .int .u8 0, .int .u8 0, .int .u8 0, .int .u8 0, .int .u8 0, .int .u8 0, .int .u8 0, .int .u8 0, .int .u8 0, .int .u8 0, .int .u8 0, .int .u8 0, .int .u8 0, .int .u8 0] 28)) (w2.heap.size + 1) 28 (ints .u8 (nn (fillF f255 16 0))) := by
    have := Blk.new' ((w2.alloc (.cells (ints .u8 (nn (zerN 16))).toArray 28)).setRow w2.heap.size (ints .u8 (nn X2)).toArray) 28 (c := #[.int .u8 0, .int .u8 0, .int .u8 0, .int .u8 0, .int .u8 0, .int .u8 0, .int .u8 0, .int .u8 0, .int .u8 0, .int .u8 0, .int .u8 0, .int .u8 0, .int .u8 0, .int .u8 0, .int .u8 0, .int .u8 0]) (ints .u8 (nn (zerN 16))) rfl
    rw [show ((w2.alloc (.cells (ints .u8 (nn (zerN 16))).toArray 28)).setRow w2.heap.size (ints .u8 (nn X2)).toArray).heap.size = w2.heap.size + 1 by simp] at this
    exact this
  have q1 : Blk (((w2.alloc (.cells (ints .u8 (nn (zerN 16))).toArray 28)).setRow w2.heap.size (ints .u8 (nn X2)).toArray).alloc (.cells #[.int .u8 0, .int .u8 0, .int .u8 0, .int .u8 0, .int .u8 0, .int .u8 0, .int .u8 0, .int .u8 0, .int .u8 0, .int .u8 0, .int .u8 0, .int .u8 0, .int .u8 0, .int .u8 0, .int .u8 0, .int .u8 0] 28)) w2.heap.size 28 (ints .u8 (nn X2)) := (hz.row (ints .u8 (nn X2)) hlz).alloc _
  have l0 := j0.lt
  have q0 : Blk (((w2.alloc (.cells (ints .u8 (nn (zerN 16))).toArray 28)).setRow w2.heap.size (ints .u8 (nn X2)).toArray).alloc (.cells #[.int .u8 0, .int .u8 0, .int .u8 0, .int .u8 0, .int .u8 0, .int .u8 0, .int .u8 0, .int .u8 0, .int .u8 0, .int .u8 0, .int .u8 0, .int .u8 0, .int .u8 0, .int .u8 0, .int .u8 0, .int .u8 0] 28)) w.heap.size 28 (ints .u8 (nn c)) := ((j0.alloc _).rowOther (by omega) _).alloc _
  have qb : Below w.heap.size w (((w2.alloc (.cells (ints .u8 (nn (zerN 16))).toArray 28)).setRow w2.heap.size (ints .u8 (nn X2)).toArray).alloc (.cells #[.int .u8 0, .int .u8 0, .int .u8 0, .int .u8 0, .int .u8 0, .int .u8 0, .int .u8 0, .int .u8 0, .int .u8 0, .int .u8 0, .int .u8 0, .int .u8 0, .int .u8 0, .int .u8 0, .int .u8 0, .int .u8 0] 28)) := (below_setRow (jb.alloc jb.size _) jb.size _).alloc (by have := jb.size; simp; omega) _
  have l1 : w.heap.size ≤ w2.heap.size + 1 := by omega
  clear hz hlz j0 jb
  generalize World.alloc _ _ = w5 at *
  generalize w2.heap.size = B at *
  go_loopw [9] (fun i wr => ∃ k : Nat, k ≤ 16 ∧ i = .int .i64 (k : Int) ∧ Blk wr w.heap.size 28 (ints .u8 (nn c)) ∧ Blk wr B 28 (ints .u8 (nn X2)) ∧ Blk wr (B + 1) 28 (ints .u8 (nn (fillF f255 16 k))) ∧ Below w.heap.size w wr) (fun i _ => 16 - (intOf i).toNat)
  case atStart => exact ⟨0, by omega, rfl, q0, q1, q2, qb⟩
  case round =>
    obtain ⟨k, hk, rfl, g0, g1, g2, gb⟩ := hrel
    clear q0 q1 q2 qb
    by_cases hlt : k < 16
    · have hs := fillF_set f255 16 k hlt
      have Hs := Lib.hid hs
      have hfl := fillF_len f255 16 k (by omega)
      have hc := g2.nat (j := k) (by rw [hfl]; exact hlt)
      have hf := g2.free k
      have hg := g2.setNat k 255
      have d1 : (k : Int) < 16 := by omega
      clear hs
      generalize (fillF f255 16 k).getD k 0 = y at *
      go_wp2
      go_roundw
      case rel =>
        refine ⟨k + 1, by omega, by go_num, g0.other (by simp <;> omega) _, g1.other (by simp <;> omega) _, ?_, gb.setCell (by simp <;> omega) _⟩
        rw [← Hs.out]
        exact hg
      case measure => simp [intOf]; omega
    · obtain rfl : k = 16 := by omega
      rw [fillF_full] at g2
      have hC1 : ∀ wx, NewBut wr wx → Calls Try.prog 18 #[.agg (ints .u8 (nn c)).toArray, .int .u64 ((a : Int) + (b : Int))] wx fun e w' => e = .returned (.agg (ints .u8 (nn X2)).toArray) ∧ NewBut wr w' := fun wx h => by
        have hh := HC.out wx
        rw [Int.natCast_add] at hh
        exact hh.mono fun _ _ ⟨q1, q2⟩ => ⟨q1, h.trans (q2.mono h.size)⟩
      have hD1 : ∀ wx, NewBut wr wx → Calls Try.prog 18 #[.agg (ints .u8 (nn c)).toArray, .int .u64 0] wx fun e w' => e = .returned (.agg (ints .u8 (nn c)).toArray) ∧ NewBut wr w' := fun wx h =>
        (HD.out wx).mono fun _ _ ⟨q1, q2⟩ => ⟨q1, h.trans (q2.mono h.size)⟩
      have hE1 : ∀ wx, NewBut wr wx → Calls Try.prog 18 #[.agg (ints .u8 (nn all255)).toArray, .int .u64 1] wx fun e w' => e = .returned (.agg (ints .u8 (nn (zerN 16))).toArray) ∧ NewBut wr w' := fun wx h =>
        (HE.out wx).mono fun _ _ ⟨q1, q2⟩ => ⟨q1, h.trans (q2.mono h.size)⟩
      have hB0 : ∀ wx, NewBut wr wx → wx.rangeAt w.heap.size 0 (ints .u8 (nn c)) := fun wx h => (g0.below h g0.lt).whole
      have hB1 : ∀ wx, NewBut wr wx → wx.rangeAt B 0 (ints .u8 (nn X2)) := fun wx h => (g1.below h g1.lt).whole
      have hB2 : ∀ wx, NewBut wr wx → wx.rangeAt (B + 1) 0 (ints .u8 (nn all255)) := fun wx h => (g2.below h g2.lt).whole
      have la : all255.length = 16 := rfl
      have HLA := Lib.hid la
      have HC1 := Lib.hid hC1
      have HD1 := Lib.hid hD1
      have HE1 := Lib.hid hE1
      have HB0 := Lib.hid hB0
      have HB1 := Lib.hid hB1
      have HB2 := Lib.hid hB2
      clear hC1 hD1 hE1 hB0 hB1 hB2 g0 g1 g2 HA HB HC HD HE la
      generalize all255 = A255 at *
      go_wp2_with fail
      refine region_quiet_tail (C := NewBut wr) 22 mixed (by kernel_rfl) (show Below _ _ _ from (Below.refl _ _).drew) ?_
      simp only [List.take_succ_cons, List.take_zero, List.drop_succ_cons, List.drop_zero]
      repeat (first | (refine wpQuiet_load_row rfl 28 _ rfl w.heap.size 0 rfl (ints .u8 (nn c)) (fun wx h => HB0.out wx h) Try.underlying28 rfl (by rw [size_b16, ints_length, nn_length, HL.out]) ?_) | (refine wpQuiet_load_row rfl 28 _ rfl B 0 rfl (ints .u8 (nn X2)) (fun wx h => HB1.out wx h) Try.underlying28 rfl (by rw [size_b16, ints_length, nn_length, HLB.out]) ?_) | (refine wpQuiet_load_row rfl 28 _ rfl (B + 1) 0 rfl (ints .u8 (nn A255)) (fun wx h => HB2.out wx h) Try.underlying28 rfl (by rw [size_b16, ints_length, nn_length, HLA.out]) ?_) | (refine wpQuiet_step (fun K' hK' => ?_); go_simp; first | (refine ⟨_, fun _ _ => rfl, hK' _ ?_⟩; clear hK' K') | ((with_reducible refine ⟨_, fun wx hx => HC1.out wx hx, hK' _ ?_⟩); clear hK' K') | ((with_reducible refine ⟨_, fun wx hx => HD1.out wx hx, hK' _ ?_⟩); clear hK' K') | ((with_reducible refine ⟨_, fun wx hx => HE1.out wx hx, hK' _ ?_⟩); clear hK' K')))
      refine wpQuiet_nil ?_
      intro w7 hb7
      go_wp2_with (go_at_call 17; (with_reducible refine (HS.out _).mono ?_); rintro e w8 ⟨rfl, hb8⟩)
      go_ret
      exact ⟨rfl, (gb.trans (hb7.mono gb.size)).trans (hb8.mono (by have := gb.size; have := hb7.size; omega))⟩

set_option maxRecDepth 100000 in
theorem lifted (os : Os) (started : os.Started) (H : Type) (enc : TypeId × Value → H) :
    ReturnsInHanded {} Try.checked os 7 .any (Rows.streamCountsSpec.pre6 enc Try.prog Try.f7 Rows.streamCountsRow.domain false) (Rows.streamCountsSpec.post enc Try.prog Try.f7 false true false false) := by
  refine returnsInHanded_of_change (C := Try.checked) own started (by kernel_rfl) Try.func7
    (ChangeSpec.witness6 (enc := enc) (C := Try.checked) false ⟨#[], #[.agg (ints .u8 (List.replicate 16 0)).toArray, .int .u32 0, .int .u32 0], []⟩ 8 (by kernel_rfl) (by kernel_rfl) (by kernel_rfl) (by kernel_rfl)) ?_
  intro W base args ds gs before hval0 hW hcnd _
  have hval : ∀ (j : Nat) t v, Try.f7.params[j]? = some t → args[j]? = some v → Value.okWide Try.prog W .any base t v := hval0
  have hW' := hW
  obtain ⟨p, q, hA0, hV, rfl, hfz, hnd⟩ := hW
  have hA : DataW.TrodAll enc Try.prog W 0 (fun _ => true) true Try.f7.params.toList args.toList ds p := hA0
  rw [Try.params7] at hA hval
  obtain ⟨v0, vs0, d0, ds0, p0, q0, hargs, rfl, rfl, h0, r0⟩ := trodAll_cons hA
  obtain ⟨v1, vs1, d1, ds1, p1, q1, rfl, rfl, rfl, h1, r1⟩ := trodAll_cons r0
  obtain ⟨v2, vs2, d2, ds2, p2, q2, rfl, rfl, rfl, h2, r2⟩ := trodAll_cons r1
  obtain ⟨rfl, rfl, rfl⟩ := trodAll_nil r2
  obtain rfl : args = #[v0, v1, v2] := by cases args; simp_all
  obtain ⟨rfl, rfl⟩ := trodVars_none hV
  have k0 := h0
  have lt0 : ∀ x ∈ p0, x.block < W.heap.size := by obtain ⟨m, hm⟩ := k0; exact DataW.trod_lt m _ _ _ hm
  obtain ⟨cs0, hcs0, _, _⟩ : ∃ cs, v0 = .agg cs ∧ cs.size = Try.prog.cellsOf 28 ∧ Row.okWide Try.prog W .any base 28 cs := by
    have := hval 0 28 v0 rfl rfl
    simpa [Value.okWide, Try.underlying28] using this
  obtain ⟨l0, hl0, n0, o0⟩ := open_bys Try.underlying28 Try.underlying5 cells_u8 cells_b16 cs0 hcs0 h0
  obtain ⟨l1, rfl, rfl, rfl, n1⟩ := open_int Try.underlying24 (hval 1 24 v1 rfl rfl) h1
  obtain ⟨l2, rfl, rfl, rfl, n2⟩ := open_int Try.underlying24 (hval 2 24 v2 rfl rfl) h2
  clear hcs0
  subst hl0
  clear hA0 hval0
  simp only [List.append_nil] at hW'
  refine (walk l0 l1 l2 n0 o0 n1 n2 W).mono fun e W' ⟨he, bel⟩ => ?_
  subst he
  exact ⟨_, rfl, _, _, _, [], _, [], hW', trodAll_mk1 (shut_bool Try.underlying4 _), (trodAll_cons_mk (Below.trod laidOut (by kernel_rfl) (of_decide_eq_true (by kernel_rfl)) k0 bel lt0) (trodAll_cons_mk (shut_int Try.underlying24 n1) (trodAll_cons_mk (shut_int Try.underlying24 n2) trodAll_mk0))), rfl, bel.frame _, fun h => by cases h⟩

theorem over : Rows.streamCountsRow.holds Try.pinned (OpenSpec.ofChange Rows.streamCountsSpec) :=
  OpenClaim.holds_of_wide 7 Try.f7 rfl rfl rfl rfl rfl rfl rfl ⟨rfl, rfl, rfl, rfl, rfl⟩ rfl rfl rfl rfl rfl (by kernel_rfl) Try.func7 (by kernel_rfl)
    (of_decide_eq_true (by kernel_rfl)) (by unfold Func.isWrapper; first | (rw [if_pos (by decide +kernel)]; kernel_rfl) | (rw [if_neg (by decide +kernel)]; exact ⟨rfl, rfl⟩))
    (fun os started H enc _ => lifted os started H enc)

theorem proved : Rows.StreamCountsSaid :=
  over
#print axioms proved
end Go.Proofs.Ytgagafefhmofjaa.streamCounts
