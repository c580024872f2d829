/-
  For all keys, nonces and texts: what is applied twice is as it was, and as long; longer texts than the bound are answered by the anchor alone. No condition.
-/
import Derived.Test.YtgagafefhmofjaaRows
import Derived.Test.YtgagafefhmofjaaSShown
import Derived.Test.YtgagafefhmofjaaQTail
import Derived.ShutString
import Derived.ChangeOld
namespace Go.Proofs.Ytgagafefhmofjaa.streamBack
open Go.ChangeShapes Go.WideShapes Go.ChangeAt Go.RowKit
open Go.ChangeMaps (open_string shut_string)
set_option linter.unusedVariables false

set_option maxHeartbeats 1000000 in
set_option maxRecDepth 100000 in
theorem walk (l0 l1 : List Nat) (s : ByteArray) (n0 : l0.length = 32) (o0 : Bys l0) (n1 : l1.length = 16) (o1 : Bys l1) (n2 : s.size ≤ maxLen) (w : World) :
    Calls Try.prog 5 #[.agg (ints .u8 (nn l0)).toArray, .agg (ints .u8 (nn l1)).toArray, .string s] w fun e w' => e = .returned (.bool true) ∧ Below w.heap.size w w' := by
  have hS := fun w => l3_shown w
  have HS := Lib.hid hS
  have k0 : Blk ((w.alloc (.cells (ints .u8 (nn l0)).toArray 23)).alloc (.cells (ints .u8 (nn l1)).toArray 28)) w.heap.size 23 (ints .u8 (nn l0)) := (Blk.new _ _ _).alloc _
  have k1 : Blk ((w.alloc (.cells (ints .u8 (nn l0)).toArray 23)).alloc (.cells (ints .u8 (nn l1)).toArray 28)) (w.heap.size + 1) 28 (ints .u8 (nn l1)) := Blk.new2 _ _ _ _ rfl
  have kb : Below w.heap.size w ((w.alloc (.cells (ints .u8 (nn l0)).toArray 23)).alloc (.cells (ints .u8 (nn l1)).toArray 28)) := ((Below.refl _ _).alloc (Nat.le_refl _) _).alloc (by simp) _
  by_cases h1 : 600 < s.size
  · have g1 : decide ((600 : Int) < (s.size : Int)) = true := by simp; omega
    clear hS
    go_enter Try.func5, Try.ntmps5
    go_wp2_with (go_at_call 17; (with_reducible refine (HS.out _).mono ?_); rintro e w1 ⟨rfl, hb1⟩)
    go_ret
    exact ⟨rfl, kb.trans (hb1.mono kb.size)⟩
  · have g1 : decide ((600 : Int) < (s.size : Int)) = false := by simp; omega
    have hA := fun w => s_Apply l0 l1 s w n0 o0 n1 o1 (by omega)
    have hsz : (bs (nn (xrL (sl s) (padF l0 l1)))).size = s.size := by rw [bs_size, nn_length, xrL_len, sl_len]
    have hB := fun w => s_Apply l0 l1 (bs (nn (xrL (sl s) (padF l0 l1)))) w n0 o0 n1 o1 (by rw [hsz]; omega)
    rw [sl_bs (xrL_bys (sl_bys s) (padF_lt l0 l1)), xrL_twice, bs_sl] at hB
    generalize bs (nn (xrL (sl s) (padF l0 l1))) = T at *
    have HA := Lib.hid hA
    have HB := Lib.hid hB
    have HL0 := Lib.hid n0
    have HL1 := Lib.hid n1
    clear hS hA hB n0 n1
    go_enter Try.func5, Try.ntmps5
    go_wp2_with (first | (go_at_call 17; (with_reducible refine (HS.out _).mono ?_); rintro e w1 ⟨rfl, hb1⟩; have i0 := k0.below hb1 k0.lt; have i1 := k1.below hb1 k1.lt) | (refine wpList_load_blk rfl 23 _ rfl _ rfl i0 Try.underlying23 rfl (by rw [size_hash, ints_length, nn_length, HL0.out]) ?_) | (refine wpList_load_blk rfl 28 _ rfl _ rfl i1 Try.underlying28 rfl (by rw [size_b16, ints_length, nn_length, HL1.out]) ?_) | (go_at_call 20; (with_reducible refine (HA.out _).mono ?_); rintro e w2 ⟨rfl, hb2⟩; have j0 := i0.below hb2 i0.lt; have j1 := i1.below hb2 i1.lt) | (go_at_call 20; (with_reducible refine (HB.out _).mono ?_); rintro e w3 ⟨rfl, hb3⟩) | (refine wpList_load_blkG rfl 23 _ rfl _ rfl j0 Try.underlying23 rfl (by rw [size_hash, ints_length, nn_length, HL0.out]) ?_) | (refine wpList_load_blkG rfl 28 _ rfl _ rfl j1 Try.underlying28 rfl (by rw [size_b16, ints_length, nn_length, HL1.out]) ?_))
    go_ret
    exact ⟨rfl, ((kb.trans (hb1.mono kb.size)).trans (hb2.mono (by have := kb.size; have := hb1.size; omega))).trans (hb3.mono (by have := kb.size; have := hb1.size; have := hb2.size; omega))⟩

set_option maxRecDepth 100000 in
theorem lifted (os : Os) (started : os.Started) (H : Type) (enc : TypeId × Value → H) :
    ReturnsInHanded {} Try.checked os 5 .any (Rows.streamBackSpec.pre6 enc Try.prog Try.f5 Rows.streamBackRow.domain false) (Rows.streamBackSpec.post enc Try.prog Try.f5 false true false false) := by
  refine returnsInHanded_of_change (C := Try.checked) own started (by kernel_rfl) Try.func5
    (ChangeSpec.witness6 (enc := enc) (C := Try.checked) false ⟨#[], #[.agg (ints .u8 (List.replicate 32 0)).toArray, .agg (ints .u8 (List.replicate 16 0)).toArray, .string ByteArray.empty], []⟩ 8 (by kernel_rfl) (by kernel_rfl) (by kernel_rfl) (by kernel_rfl)) ?_
  intro W base args ds gs before hval0 hW hcnd _
  have hval : ∀ (j : Nat) t v, Try.f5.params[j]? = some t → args[j]? = some v → Value.okWide Try.prog W .any base t v := hval0
  have hW' := hW
  obtain ⟨p, q, hA0, hV, rfl, hfz, hnd⟩ := hW
  have hA : DataW.TrodAll enc Try.prog W 0 (fun _ => true) true Try.f5.params.toList args.toList ds p := hA0
  rw [Try.params5] at hA hval
  obtain ⟨v0, vs0, d0, ds0, p0, q0, hargs, rfl, rfl, h0, r0⟩ := trodAll_cons hA
  obtain ⟨v1, vs1, d1, ds1, p1, q1, rfl, rfl, rfl, h1, r1⟩ := trodAll_cons r0
  obtain ⟨v2, vs2, d2, ds2, p2, q2, rfl, rfl, rfl, h2, r2⟩ := trodAll_cons r1
  obtain ⟨rfl, rfl, rfl⟩ := trodAll_nil r2
  obtain rfl : args = #[v0, v1, v2] := by cases args; simp_all
  obtain ⟨rfl, rfl⟩ := trodVars_none hV
  have k0 := h0
  have lt0 : ∀ x ∈ p0, x.block < W.heap.size := by obtain ⟨m, hm⟩ := k0; exact DataW.trod_lt m _ _ _ hm
  obtain ⟨cs0, hcs0, _, _⟩ : ∃ cs, v0 = .agg cs ∧ cs.size = Try.prog.cellsOf 23 ∧ Row.okWide Try.prog W .any base 23 cs := by
    have := hval 0 23 v0 rfl rfl
    simpa [Value.okWide, Try.underlying23] using this
  obtain ⟨l0, hl0, n0, o0⟩ := open_bys Try.underlying23 Try.underlying5 cells_u8 cells_h32 cs0 hcs0 h0
  have k1 := h1
  have lt1 : ∀ x ∈ p1, x.block < W.heap.size := by obtain ⟨m, hm⟩ := k1; exact DataW.trod_lt m _ _ _ hm
  obtain ⟨cs1, hcs1, _, _⟩ : ∃ cs, v1 = .agg cs ∧ cs.size = Try.prog.cellsOf 28 ∧ Row.okWide Try.prog W .any base 28 cs := by
    have := hval 1 28 v1 rfl rfl
    simpa [Value.okWide, Try.underlying28] using this
  obtain ⟨l1, hl1, n1, o1⟩ := open_bys Try.underlying28 Try.underlying5 cells_u8 cells_b16 cs1 hcs1 h1
  obtain ⟨l2, rfl, rfl, rfl, n2⟩ := open_string Try.underlying9 (hval 2 9 v2 rfl rfl) h2
  clear hcs0
  subst hl0
  clear hcs1
  subst hl1
  clear hA0 hval0
  simp only [List.append_nil] at hW'
  refine (walk l0 l1 l2 n0 o0 n1 o1 n2 W).mono fun e W' ⟨he, bel⟩ => ?_
  subst he
  exact ⟨_, rfl, _, _, _, [], _, [], hW', trodAll_mk1 (shut_bool Try.underlying4 _), (trodAll_cons_mk (Below.trod laidOut (by kernel_rfl) (of_decide_eq_true (by kernel_rfl)) k0 bel lt0) (trodAll_cons_mk (Below.trod laidOut (by kernel_rfl) (of_decide_eq_true (by kernel_rfl)) k1 bel lt1) (trodAll_cons_mk (shut_string Try.underlying9 n2) trodAll_mk0))), rfl, bel.frame _, fun h => by cases h⟩

theorem over : Rows.streamBackRow.holds Try.pinned (OpenSpec.ofChange Rows.streamBackSpec) :=
  OpenClaim.holds_of_wide 5 Try.f5 rfl rfl rfl rfl rfl rfl rfl ⟨rfl, rfl, rfl, rfl, rfl⟩ rfl rfl rfl rfl rfl (by kernel_rfl) Try.func5 (by kernel_rfl)
    (of_decide_eq_true (by kernel_rfl)) (by unfold Func.isWrapper; first | (rw [if_pos (by decide +kernel)]; kernel_rfl) | (rw [if_neg (by decide +kernel)]; exact ⟨rfl, rfl⟩))
    (fun os started H enc _ => lifted os started H enc)

theorem proved : Rows.StreamBackSaid :=
  over
#print axioms proved
end Go.Proofs.Ytgagafefhmofjaa.streamBack
