/-
  For all 32 bytes a and b, and every byte i: the words of a and b are the same only if a and b are, the word i % 8 of a is the four bytes there; and the box has what it should. No condition.
-/
import Derived.Test.YthnmkniimokdiaaRows
import Derived.Test.YthnmkniimokdiaaCipF
import Derived.Test.YthnmkniimokdiaaOpen
import Derived.Test.YthnmkniimokdiaaEql
import Derived.Test.YthnmkniimokdiaaQTail
namespace Go.Proofs.Ythnmkniimokdiaa.cipherKeys
open Go.ChangeShapes Go.WideShapes Go.ChangeAt Go.RowKit
set_option linter.unusedVariables false

theorem ksN_low (key : List Nat) (k : Nat) (hk : k < 8) : ∀ n, (ksN key n).getD k 0 = kw key k
  | 0 => by
    show (fillF (kw key) 60 8).getD k 0 = _
    unfold fillF
    rw [List.getD_eq_getElem?_getD, List.getElem?_append_left (by simpa using hk), List.getElem?_map, List.getElem?_range hk]
    rfl
  | n + 1 => by
    show ((ksN key n).set (8 + n) _).getD k 0 = _
    rw [List.getD_eq_getElem?_getD, List.getElem?_set_ne (by omega), ← List.getD_eq_getElem?_getD, ksN_low key k hk n]
theorem kw_eq (key : List Nat) (k : Nat) : kw key k = ((key.getD (4 * k) 0 * 256 + key.getD (4 * k + 1) 0) * 256 + key.getD (4 * k + 2) 0) * 256 + key.getD (4 * k + 3) 0 := by
  unfold kw
  simp only [wpre]
  rw [four_getD _ _ _ (by omega), four_getD _ _ _ (by omega), four_getD _ _ _ (by omega), four_getD _ _ _ (by omega)]
  simp
theorem expandL_inj {a b : List Nat} (la : a.length = 32) (lb : b.length = 32) (ha : Bys a) (hb : Bys b) (h : expandL a = expandL b) : a = b := by
  apply List.ext_getElem (la.trans lb.symm)
  intro j h1 h2
  have hq : (j / 4) < 8 := by omega
  have e : kw a (j / 4) = kw b (j / 4) := by
    rw [← ksN_low a _ hq 52, ← ksN_low b _ hq 52]
    show (expandL a).getD _ 0 = (expandL b).getD _ 0
    rw [h]
  rw [kw_eq, kw_eq] at e
  have a0 := ha (4 * (j / 4)); have a1 := ha (4 * (j / 4) + 1); have a2 := ha (4 * (j / 4) + 2); have a3 := ha (4 * (j / 4) + 3)
  have b0 := hb (4 * (j / 4)); have b1 := hb (4 * (j / 4) + 1); have b2 := hb (4 * (j / 4) + 2); have b3 := hb (4 * (j / 4) + 3)
  have main : a.getD j 0 = b.getD j 0 := by
    have hj : j = 4 * (j / 4) ∨ j = 4 * (j / 4) + 1 ∨ j = 4 * (j / 4) + 2 ∨ j = 4 * (j / 4) + 3 := by omega
    rcases hj with hj | hj | hj | hj <;> rw [hj] <;> omega
  simpa [h1, h2] using main
theorem nn_inj {a b : List Nat} (h : nn a = nn b) : a = b := by
  unfold nn at h
  exact (List.map_inj_right (f := fun (n : Nat) => (n : Int)) (fun x y e => by have e' : (x : Int) = (y : Int) := e; omega)).1 h
theorem sizeOf_u8 (w : World) : (sizeOf 5).run Try.prog w = .ok 1 w := by kernel_rfl
theorem sizeOf_u32 (w : World) : (sizeOf 24).run Try.prog w = .ok 1 w := by kernel_rfl

/-- four bytes put together -/
theorem or_bytes (y0 y1 y2 y3 x : Nat) (v0 : y0 < 256) (v1 : y1 < 256) (v2 : y2 < 256) (v3 : y3 < 256) (hkw : x = ((y0 * 256 + y1) * 256 + y2) * 256 + y3) :
    ∃ A0 A1 A2 S1 S2 : Nat, IntKind.u32.wrap (y0 : Int) = (y0 : Int) ∧ IntKind.u32.wrap (y1 : Int) = (y1 : Int) ∧ IntKind.u32.wrap (y2 : Int) = (y2 : Int) ∧ IntKind.u32.wrap (y3 : Int) = (y3 : Int) ∧
      IntKind.u32.wrap ((y0 : Int) * 16777216) = (A0 : Int) ∧ IntKind.u32.wrap ((y1 : Int) * 65536) = (A1 : Int) ∧ IntKind.u32.wrap ((y2 : Int) * 256) = (A2 : Int) ∧
      bits .or .u32 (A0 : Int) (A1 : Int) = (S1 : Int) ∧ bits .or .u32 (S1 : Int) (A2 : Int) = (S2 : Int) ∧ bits .or .u32 (S2 : Int) (y3 : Int) = (x : Int) := by
  refine ⟨y0 * 16777216, y1 * 65536, y2 * 256, y0 * 16777216 + y1 * 65536, y0 * 16777216 + y1 * 65536 + y2 * 256, wraps_u32 _ (by omega) (by omega), wraps_u32 _ (by omega) (by omega), wraps_u32 _ (by omega) (by omega), wraps_u32 _ (by omega) (by omega), ?_, ?_, ?_, ?_, ?_, ?_⟩
  · rw [wraps_u32 _ (by omega) (by omega)]; omega
  · rw [wraps_u32 _ (by omega) (by omega)]; omega
  · rw [wraps_u32 _ (by omega) (by omega)]; omega
  · rw [or_word _ _ (by omega) (by omega), Nat.or_comm, show y0 * 16777216 = y0 * 2 ^ 24 by omega, or_add _ _ _ (by omega), Nat.add_comm]
  · rw [or_word _ _ (by omega) (by omega), Nat.or_comm, show y0 * 16777216 + y1 * 65536 = (y0 * 256 + y1) * 2 ^ 16 by omega, or_add _ _ _ (by omega), Nat.add_comm]
  · rw [or_word _ _ (by omega) (by omega), Nat.or_comm, show y0 * 16777216 + y1 * 65536 + y2 * 256 = (y0 * 65536 + y1 * 256 + y2) * 2 ^ 8 by omega, or_add _ _ _ (by omega)]
    omega

set_option maxHeartbeats 2000000 in
set_option maxRecDepth 100000 in
theorem walk (a b : List Nat) (la : a.length = 32) (lb : b.length = 32) (ha : Bys a) (hb : Bys b) (i : Int) (wi : (Lit.int .u8 i).wf = true) (w : World) :
    Calls Try.prog 7 #[.agg (ints .u8 (nn a)).toArray, .agg (ints .u8 (nn b)).toArray, .int .u8 i] w fun e w' => e = .returned (.bool true) ∧ Below w.heap.size w w' := by
  obtain ⟨i0, i1⟩ := bounds_u8 wi
  obtain ⟨k, hk, hk8⟩ : ∃ k : Nat, i % 8 = (k : Int) ∧ k < 8 := ⟨(i % 8).toNat, by omega, by omega⟩
  clear wi
  -- the keys
  have hXa := fun w => c_Expand a w la ha
  have hXb := fun w => c_Expand b w lb hb
  have hkw : (expandL a).getD k 0 = kw a k := ksN_low a k hk8 52
  rw [kw_eq] at hkw
  have lXa := expandL_len a
  have lXb := expandL_len b
  obtain ⟨c, g1, g2⟩ : ∃ c : Bool, (nn (expandL a) == nn (expandL b)) = c ∧ (nn a == nn b) = c := by
    by_cases e : a = b
    · subst e
      exact ⟨true, by simp, by simp⟩
    · refine ⟨false, ?_, ?_⟩
      · rw [beq_eq_false_iff_ne]
        intro h
        exact e (expandL_inj la lb ha hb (nn_inj h))
      · rw [beq_eq_false_iff_ne]
        intro h
        exact e (nn_inj h)
  generalize expandL a = XA at *
  generalize expandL b = XB at *
  have v0 := ha (4 * k)
  have v1 := ha (4 * k + 1)
  have v2 := ha (4 * k + 2)
  have v3 := ha (4 * k + 3)
  have G0 : Hid (a.getD (4 * k) 0 = a.getD (4 * k) 0) := Lib.hid rfl
  obtain ⟨y0, hy0⟩ : ∃ y, a.getD (4 * k) 0 = y := ⟨_, rfl⟩
  obtain ⟨y1, hy1⟩ : ∃ y, a.getD (4 * k + 1) 0 = y := ⟨_, rfl⟩
  obtain ⟨y2, hy2⟩ : ∃ y, a.getD (4 * k + 2) 0 = y := ⟨_, rfl⟩
  obtain ⟨y3, hy3⟩ : ∃ y, a.getD (4 * k + 3) 0 = y := ⟨_, rfl⟩
  rw [hy0, hy1, hy2, hy3] at hkw
  rw [hy0] at v0
  rw [hy1] at v1
  rw [hy2] at v2
  rw [hy3] at v3
  clear G0
  have eqX := fun w => run_eql_ints (P := Try.prog) w 26 24 60 .u32 Try.underlying26 Try.underlying24 sizeOf_u32 (nn XA) (nn XB) (by rw [nn_length, lXa]) (by rw [nn_length, lXb])
  have eqA := fun w => run_eql_ints (P := Try.prog) w 23 5 32 .u8 Try.underlying23 Try.underlying5 sizeOf_u8 (nn a) (nn b) (by rw [nn_length, la]) (by rw [nn_length, lb])
  rw [g1] at eqX
  rw [g2] at eqA
  have HXa := Lib.hid hXa
  have HXb := Lib.hid hXb
  have LXa := Lib.hid lXa
  have LXb := Lib.hid lXb
  have LA := Lib.hid la
  have LB := Lib.hid lb
  have HKW := Lib.hid hkw
  have Y0 := Lib.hid hy0
  have Y1 := Lib.hid hy1
  have Y2 := Lib.hid hy2
  have Y3 := Lib.hid hy3
  clear hXa hXb lXa lXb la lb hkw hy0 hy1 hy2 hy3 ha hb g1 g2
  have hA2 : Blk ((w.alloc (.cells (ints .u8 (nn a)).toArray 23)).alloc (.cells (ints .u8 (nn b)).toArray 23)) w.heap.size 23 (ints .u8 (nn a)) := (Blk.new _ _ _).alloc _
  have hB2 : Blk ((w.alloc (.cells (ints .u8 (nn a)).toArray 23)).alloc (.cells (ints .u8 (nn b)).toArray 23)) (w.heap.size + 1) 23 (ints .u8 (nn b)) := Blk.new2 _ _ _ _ rfl
  have hb2 : Below w.heap.size w ((w.alloc (.cells (ints .u8 (nn a)).toArray 23)).alloc (.cells (ints .u8 (nn b)).toArray 23)) := ((Below.refl _ _).alloc (Nat.le_refl _) _).alloc (by simp) _
  go_enter Try.func7, Try.ntmps7
  go_wp2_with (refine wpList_load_blk rfl 23 _ rfl _ rfl hA2 Try.underlying23 rfl (by rw [size_hash, ints_length, nn_length, LA.out]) ?_)
  generalize World.alloc (World.alloc w _) _ = w2 at *
  refine (HXa.out _).mono ?_
  rintro e w3 ⟨rfl, hb3⟩
  have hB3 := hB2.below hb3 hB2.lt
  have hA3 := hA2.below hb3 hA2.lt
  have hw3 : Below w.heap.size w w3 := hb2.trans (hb3.mono hb2.size)
  have hlt3 : w.heap.size + 1 < w3.heap.size := hB3.lt
  have hZ : (ints .u32 (nn XA)).length = (ints .u32 (nn (zerN 60))).length := by rw [ints_length, ints_length, nn_length, nn_length, LXa.out, zerN_len]
  have hZ' : (ints .u32 (nn XB)).length = (ints .u32 (nn (zerN 60))).length := by rw [ints_length, ints_length, nn_length, nn_length, LXb.out, zerN_len]
  have HZ := Lib.hid hZ
  have HZ' := Lib.hid hZ'
  clear hZ hZ'
  go_wp2_with (first | (refine wpList_alloc_at rfl 26 rfl _ _ (alloc_k60 _) ?_) | (refine wpList_store_blk rfl 26 _ _ rfl w3.heap.size (ints .u32 (nn XA)) rfl rfl (Blk.new' w3 26 (ints .u32 (nn (zerN 60))) rfl) (by rw [size_k60]; exact congrArg some (by rw [ints_length, nn_length, LXa.out])) HZ.out.symm (ints_one _ _) ?_) | (refine wpList_load_blk rfl 23 _ rfl _ rfl ((hB3.alloc _).rowOther (show w.heap.size + 1 ≠ w3.heap.size by omega) _) Try.underlying23 rfl (by rw [size_hash, ints_length, nn_length, LB.out]) ?_))
  have hX4 := (Blk.new' w3 26 (ints .u32 (nn (zerN 60))) rfl).row (ints .u32 (nn XA)) HZ.out
  have hA4 := (hA3.alloc (.cells (ints .u32 (nn (zerN 60))).toArray 26)).rowOther (show w.heap.size ≠ w3.heap.size by omega) (ints .u32 (nn XA)).toArray
  have hB4 := (hB3.alloc (.cells (ints .u32 (nn (zerN 60))).toArray 26)).rowOther (show w.heap.size + 1 ≠ w3.heap.size by omega) (ints .u32 (nn XA)).toArray
  have hw4 := below_setRow (hw3.alloc (by omega) (.cells (ints .u32 (nn (zerN 60))).toArray 26)) (show w.heap.size ≤ w3.heap.size by omega) (ints .u32 (nn XA)).toArray
  generalize World.setRow _ _ _ = w4 at *
  generalize w3.heap.size = bx at *
  refine (HXb.out _).mono ?_
  rintro e w5 ⟨rfl, hb5⟩
  have hA5 := hA4.below hb5 hA4.lt
  have hB5 := hB4.below hb5 hB4.lt
  have hX5 := hX4.below hb5 hX4.lt
  have hw5 : Below w.heap.size w w5 := hw4.trans (hb5.mono hw4.size)
  have hlt5 : bx < w5.heap.size := hX5.lt
  clear hA4 hB4 hX4 hw4 hb5 hA3 hB3 hA2 hB2 hb2 hb3 hw3
  go_wp2_with (first | (refine wpList_alloc_at rfl 26 rfl _ _ (alloc_k60 _) ?_) | (refine wpList_store_blk rfl 26 _ _ rfl w5.heap.size (ints .u32 (nn XB)) rfl rfl (Blk.new' w5 26 (ints .u32 (nn (zerN 60))) rfl) (by rw [size_k60]; exact congrArg some (by rw [ints_length, nn_length, LXb.out])) HZ'.out.symm (ints_one _ _) ?_))
  have hY6 := (Blk.new' w5 26 (ints .u32 (nn (zerN 60))) rfl).row (ints .u32 (nn XB)) HZ'.out
  have hA6 := (hA5.alloc (.cells (ints .u32 (nn (zerN 60))).toArray 26)).rowOther (show w.heap.size ≠ w5.heap.size by omega) (ints .u32 (nn XB)).toArray
  have hB6 := (hB5.alloc (.cells (ints .u32 (nn (zerN 60))).toArray 26)).rowOther (show w.heap.size + 1 ≠ w5.heap.size by omega) (ints .u32 (nn XB)).toArray
  have hX6 := (hX5.alloc (.cells (ints .u32 (nn (zerN 60))).toArray 26)).rowOther (show bx ≠ w5.heap.size by omega) (ints .u32 (nn XB)).toArray
  have hw6 := below_setRow (hw5.alloc (by omega) (.cells (ints .u32 (nn (zerN 60))).toArray 26)) (show w.heap.size ≤ w5.heap.size by omega) (ints .u32 (nn XB)).toArray
  generalize World.setRow _ _ _ = w6 at *
  generalize w5.heap.size = by' at *
  clear hA5 hB5 hX5 hw5
  have hX : ∀ wx, NewBut w6 wx → Blk wx bx 26 (ints .u32 (nn XA)) := fun wx hx => hX6.below hx hX6.lt
  have hY : ∀ wx, NewBut w6 wx → Blk wx by' 26 (ints .u32 (nn XB)) := fun wx hx => hY6.below hx hY6.lt
  have hA : ∀ wx, NewBut w6 wx → Blk wx w.heap.size 23 (ints .u8 (nn a)) := fun wx hx => hA6.below hx hA6.lt
  have hB : ∀ wx, NewBut w6 wx → Blk wx (w.heap.size + 1) 23 (ints .u8 (nn b)) := fun wx hx => hB6.below hx hB6.lt
  obtain ⟨x, hx⟩ : ∃ x, XA.getD k 0 = x := ⟨_, rfl⟩
  have hkw := HKW.out
  rw [hx] at hkw
  have cX : ∀ wx, NewBut w6 wx → wx.cell? ⟨bx, k, none⟩ = some (.int .u32 (x : Int)) := fun wx h => by rw [(hX wx h).nat (by rw [LXa.out]; omega), hx]
  have c0 : ∀ wx, NewBut w6 wx → wx.cell? ⟨w.heap.size, 4 * k, none⟩ = some (.int .u8 (y0 : Int)) := fun wx h => by rw [(hA wx h).nat (by rw [LA.out]; omega), Y0.out]
  have c1 : ∀ wx, NewBut w6 wx → wx.cell? ⟨w.heap.size, 4 * k + 1, none⟩ = some (.int .u8 (y1 : Int)) := fun wx h => by rw [(hA wx h).nat (by rw [LA.out]; omega), Y1.out]
  have c2 : ∀ wx, NewBut w6 wx → wx.cell? ⟨w.heap.size, 4 * k + 2, none⟩ = some (.int .u8 (y2 : Int)) := fun wx h => by rw [(hA wx h).nat (by rw [LA.out]; omega), Y2.out]
  have c3 : ∀ wx, NewBut w6 wx → wx.cell? ⟨w.heap.size, 4 * k + 3, none⟩ = some (.int .u8 (y3 : Int)) := fun wx h => by rw [(hA wx h).nat (by rw [LA.out]; omega), Y3.out]
  obtain ⟨A0, A1, A2, S1, S2, z0, z1, z2, z3, s0, s1, s2, o1, o2, o3⟩ := or_bytes y0 y1 y2 y3 x v0 v1 v2 v3 hkw
  clear hkw
  have HX := Lib.hid hX
  have HY := Lib.hid hY
  have HA := Lib.hid hA
  have HB := Lib.hid hB
  have CX := Lib.hid cX
  have C0 := Lib.hid c0
  have C1 := Lib.hid c1
  have C2 := Lib.hid c2
  have C3 := Lib.hid c3
  clear hX hY hA hB cX c0 c1 c2 c3 hx
  have e0 : IntKind.i64.wrap (4 * (k : Int)) = 4 * (k : Int) := IntWalk.i64_in _ (by omega)
  have e1 : IntKind.i64.wrap (4 * (k : Int) + 1) = 4 * (k : Int) + 1 := IntWalk.i64_in _ (by omega)
  have e2 : IntKind.i64.wrap (4 * (k : Int) + 2) = 4 * (k : Int) + 2 := IntWalk.i64_in _ (by omega)
  have e3 : IntKind.i64.wrap (4 * (k : Int) + 3) = 4 * (k : Int) + 3 := IntWalk.i64_in _ (by omega)
  have f0 : (4 * (k : Int)).toNat = 4 * k := by omega
  have f1 : (4 * (k : Int) + 1).toNat = 4 * k + 1 := by omega
  have f2 : (4 * (k : Int) + 2).toNat = 4 * k + 2 := by omega
  have f3 : (4 * (k : Int) + 3).toNat = 4 * k + 3 := by omega
  have p0 : (0 : Int) ≤ 4 * (k : Int) := by omega
  have p1 : (0 : Int) ≤ 4 * (k : Int) + 1 := by omega
  have p2 : (0 : Int) ≤ 4 * (k : Int) + 2 := by omega
  have p3 : (0 : Int) ≤ 4 * (k : Int) + 3 := by omega
  have q0 : 4 * (k : Int) < 32 := by omega
  have q1 : 4 * (k : Int) + 1 < 32 := by omega
  have q2 : 4 * (k : Int) + 2 < 32 := by omega
  have q3 : 4 * (k : Int) + 3 < 32 := by omega
  have k0 : (k : Int) < 60 := by omega
  refine region_quiet_tail (C := NewBut w6) 43 mixed (by kernel_rfl) (show Below _ _ _ from (Below.refl _ _).drew) ?_
  simp only [List.take_succ_cons, List.take_zero, List.drop_succ_cons, List.drop_zero]
  refine wpQuiet_load_row rfl 26 _ rfl bx 0 rfl (ints .u32 (nn XA)) (fun wx h => (HX.out wx h).whole) Try.underlying26 rfl (by rw [size_k60, ints_length, nn_length, LXa.out]) ?_
  refine wpQuiet_load_row rfl 26 _ rfl by' 0 rfl (ints .u32 (nn XB)) (fun wx h => (HY.out wx h).whole) Try.underlying26 rfl (by rw [size_k60, ints_length, nn_length, LXb.out]) ?_
  (refine wpQuiet_step (fun K' hK' => ?_); go_simp; (refine ⟨_, fun _ _ => rfl, hK' _ ?_⟩; clear hK' K'))
  refine wpQuiet_load_row rfl 23 _ rfl w.heap.size 0 rfl (ints .u8 (nn a)) (fun wx h => (HA.out wx h).whole) Try.underlying23 rfl (by rw [size_hash, ints_length, nn_length, LA.out]) ?_
  refine wpQuiet_load_row rfl 23 _ rfl (w.heap.size + 1) 0 rfl (ints .u8 (nn b)) (fun wx h => (HB.out wx h).whole) Try.underlying23 rfl (by rw [size_hash, ints_length, nn_length, LB.out]) ?_
  repeat (refine wpQuiet_step (fun K' hK' => ?_); go_simp; first | (refine ⟨_, fun _ _ => rfl, hK' _ ?_⟩; clear hK' K') | (refine ⟨.int .u32 (x : Int), ?_, hK' _ ?_⟩; (focus (intro wx hx; have hc := CX.out wx hx; go_simp; done)); clear hK' K') | (refine ⟨.int .u8 (y0 : Int), ?_, hK' _ ?_⟩; (focus (intro wx hx; have hc := C0.out wx hx; go_simp; done)); clear hK' K') | (refine ⟨.int .u8 (y1 : Int), ?_, hK' _ ?_⟩; (focus (intro wx hx; have hc := C1.out wx hx; go_simp; done)); clear hK' K') | (refine ⟨.int .u8 (y2 : Int), ?_, hK' _ ?_⟩; (focus (intro wx hx; have hc := C2.out wx hx; go_simp; done)); clear hK' K') | (refine ⟨.int .u8 (y3 : Int), ?_, hK' _ ?_⟩; (focus (intro wx hx; have hc := C3.out wx hx; go_simp; done)); clear hK' K'))
  refine wpQuiet_nil ?_
  intro w7 hb7
  go_wp2_with (go_at_call 16; (with_reducible refine (l_shown _).mono ?_); rintro e w8 ⟨rfl, hb8⟩)
  go_ret
  exact ⟨rfl, (hw6.trans (hb7.mono hw6.size)).trans (hb8.mono (by have := hw6.size; have := hb7.size; omega))⟩

theorem cells_hash : Try.prog.cellsOf 23 = 32 := by kernel_rfl
set_option maxRecDepth 100000 in
theorem lifted (os : Os) (started : os.Started) (H : Type) (enc : TypeId × Value → H) :
    ReturnsInHanded {} Try.checked os 7 .any (Rows.cipherKeysSpec.pre6 enc Try.prog Try.f7 Rows.cipherKeysRow.domain false) (Rows.cipherKeysSpec.post enc Try.prog Try.f7 false true false false) := by
  refine returnsInHanded_of_change (C := Try.checked) own started (by kernel_rfl) Try.func7
    (ChangeSpec.witness6 (enc := enc) (C := Try.checked) false ⟨#[], #[.agg (ints .u8 (List.replicate 32 0)).toArray, .agg (ints .u8 (List.replicate 32 0)).toArray, .int .u8 0], []⟩ 8 (by kernel_rfl) (by kernel_rfl) (by kernel_rfl) (by kernel_rfl)) ?_
  intro W base args ds gs before hval0 hW hcnd _
  have hval : ∀ (j : Nat) t v, Try.f7.params[j]? = some t → args[j]? = some v → Value.okWide Try.prog W .any base t v := hval0
  have hW' := hW
  obtain ⟨p, q, hA0, hV, rfl, hfz, hnd⟩ := hW
  have hA : DataW.TrodAll enc Try.prog W 0 (fun _ => true) true Try.f7.params.toList args.toList ds p := hA0
  rw [Try.params7] at hA hval
  obtain ⟨v0, vs0, d0, ds0, p0, q0, hargs, rfl, rfl, h0, r0⟩ := trodAll_cons hA
  obtain ⟨v1, vs1, d1, ds1, p1, q1, rfl, rfl, rfl, h1, r1⟩ := trodAll_cons r0
  obtain ⟨v2, vs2, d2, ds2, p2, q2, rfl, rfl, rfl, h2, r2⟩ := trodAll_cons r1
  obtain ⟨rfl, rfl, rfl⟩ := trodAll_nil r2
  obtain rfl : args = #[v0, v1, v2] := by cases args; simp_all
  obtain ⟨rfl, rfl⟩ := trodVars_none hV
  have k0 := h0
  have k1 := h1
  have lt0 : ∀ x ∈ p0, x.block < W.heap.size := by obtain ⟨m, hm⟩ := k0; exact DataW.trod_lt m _ _ _ hm
  have lt1 : ∀ x ∈ p1, x.block < W.heap.size := by obtain ⟨m, hm⟩ := k1; exact DataW.trod_lt m _ _ _ hm
  obtain ⟨cs, hcs, _, _⟩ : ∃ cs, v0 = .agg cs ∧ cs.size = Try.prog.cellsOf 23 ∧ Row.okWide Try.prog W .any base 23 cs := by
    have := hval 0 23 v0 rfl rfl
    simpa [Value.okWide, Try.underlying23] using this
  obtain ⟨cs', hcs', _, _⟩ : ∃ cs, v1 = .agg cs ∧ cs.size = Try.prog.cellsOf 23 ∧ Row.okWide Try.prog W .any base 23 cs := by
    have := hval 1 23 v1 rfl rfl
    simpa [Value.okWide, Try.underlying23] using this
  obtain ⟨l, hl, hlen, hoct⟩ := open_bys Try.underlying23 Try.underlying5 cells_u8 cells_hash cs hcs h0
  obtain ⟨l', hl', hlen', hoct'⟩ := open_bys Try.underlying23 Try.underlying5 cells_u8 cells_hash cs' hcs' h1
  clear hcs hcs'
  subst hl
  subst hl'
  obtain ⟨a2, rfl, rfl, rfl, w2⟩ := open_int Try.underlying5 (hval 2 5 v2 rfl rfl) h2
  clear hA0 hval0
  refine (walk l l' hlen hlen' hoct hoct' a2 w2 W).mono fun e W' ⟨he, bel⟩ => ?_
  subst he
  exact ⟨_, rfl, _, _, _, [], _, [], hW', trodAll_mk1 (shut_bool Try.underlying4 _), (trodAll_cons_mk (Below.trod laidOut (by kernel_rfl) (of_decide_eq_true (by kernel_rfl)) k0 bel lt0) (trodAll_cons_mk (Below.trod laidOut (by kernel_rfl) (of_decide_eq_true (by kernel_rfl)) k1 bel lt1) (trodAll_cons_mk (shut_int Try.underlying5 w2) trodAll_mk0))), rfl, bel.frame _, fun h => by cases h⟩

theorem over : Rows.cipherKeysRow.holds Try.pinned (OpenSpec.ofChange Rows.cipherKeysSpec) :=
  OpenClaim.holds_of_wide 7 Try.f7 rfl rfl rfl rfl rfl rfl rfl ⟨rfl, rfl, rfl, rfl, rfl⟩ rfl rfl rfl rfl rfl (by kernel_rfl) Try.func7 (by kernel_rfl)
    (of_decide_eq_true (by kernel_rfl)) (by unfold Func.isWrapper; first | (rw [if_pos (by decide +kernel)]; kernel_rfl) | (rw [if_neg (by decide +kernel)]; exact ⟨rfl, rfl⟩))
    (fun os started H enc _ => lifted os started H enc)

theorem proved : Rows.CipherKeysSaid :=
  over
#print axioms proved
end Go.Proofs.Ythnmkniimokdiaa.cipherKeys
