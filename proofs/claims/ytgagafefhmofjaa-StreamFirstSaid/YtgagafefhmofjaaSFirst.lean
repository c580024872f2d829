/-
  For all keys, nonces and places: the first bytes of a pad are the nonce's block, made unreadable; the next ones that of the next block. No condition.
-/
import Derived.Test.YtgagafefhmofjaaRows
import Derived.Test.YtgagafefhmofjaaSStr
import Derived.Test.YtgagafefhmofjaaQTail
import Derived.Test.YtgagafefhmofjaaInv
import Derived.ShutString
import Derived.ChangeOld
namespace Go.Proofs.Ytgagafefhmofjaa.streamFirst
open Go.ChangeShapes Go.WideShapes Go.ChangeAt Go.RowKit
open Go.ChangeMaps (open_string shut_string)
set_option linter.unusedVariables false

theorem padL_bys (key nc : List Nat) (n : Nat) : Bys (padL key nc n) := by
  intro j
  by_cases h : j < n
  · unfold padL; rw [map_range_getD _ _ _ h]; exact padF_lt _ _ _
  · rw [List.getD_eq_getElem?_getD, List.getElem?_eq_none (by rw [padL_len]; omega)]; decide
set_option maxRecDepth 100000 in
def R4 (w : World) (l0 l1 X EA : List Nat) (P : ByteArray) (z : Nat) (x0 x1 x2 x3 x4 x5 : Bool) (a : Act) (W : World) : Prop :=
  ∃ u21 u22 u23 u24 u8 : Value, a = ⟨((Value.agg (ints .u8 (nn l0)).toArray) :: (Value.agg (ints .u8 (nn l1)).toArray) :: (Value.int .u8 (z : Int)) :: (Value.pointer (some ⟨w.heap.size, 0, none⟩)) :: (Value.pointer (some ⟨w.heap.size + 1, 0, none⟩)) :: undef :: (Value.bool false) :: (Value.string P) :: u8 :: undef :: undef :: (Value.agg (ints .u8 (nn l0)).toArray) :: (Value.agg (ints .u8 (nn l1)).toArray) :: (Value.string P) :: (Value.string P) :: (Value.int .i64 32) :: (Value.bool false) :: (Value.bool false) :: (Value.bool true) :: (Value.bool false) :: (Value.bool false) :: u21 :: u22 :: u23 :: u24 :: undef :: undef :: undef :: undef :: undef :: undef :: undef :: undef :: undef :: undef :: undef :: undef :: undef :: undef :: undef :: undef :: undef :: undef :: undef :: undef :: undef :: undef :: undef :: undef :: undef :: []).toArray, []⟩ ∧ Below w.heap.size w W ∧ Blk W (w.heap.size) 23 (ints .u8 (nn l0)) ∧ Blk W (w.heap.size + 1) 28 (ints .u8 (nn l1)) ∧ (x0 = true → u21 = .agg (ints .u8 (nn l0)).toArray) ∧ (x1 = true → u22 = .agg (ints .u32 (nn X)).toArray) ∧ (x2 = true → u23 = .agg (ints .u8 (nn l1)).toArray) ∧ (x3 = true → u24 = .agg (ints .u8 (nn EA)).toArray) ∧ (x5 = true → x4 = true) ∧ (x4 = true → ∃ b, (w.heap.size + 1 < b) ∧ u8 = .pointer (some ⟨b, 0, none⟩) ∧ Blk W b 28 (if x5 = true then (ints .u8 (nn EA)) else (ints .u8 (nn (zerN 16)))))
set_option maxRecDepth 100000 in
def R5 (w : World) (bA : Nat) (l0 l1 X EA NX EB : List Nat) (P : ByteArray) (z : Nat) (x0 x1 x2 x3 x4 x5 x6 : Bool) (a : Act) (W : World) : Prop :=
  ∃ u25 u26 u27 u28 u29 u9 : Value, a = ⟨((Value.agg (ints .u8 (nn l0)).toArray) :: (Value.agg (ints .u8 (nn l1)).toArray) :: (Value.int .u8 (z : Int)) :: (Value.pointer (some ⟨w.heap.size, 0, none⟩)) :: (Value.pointer (some ⟨w.heap.size + 1, 0, none⟩)) :: undef :: (Value.bool false) :: (Value.string P) :: (Value.pointer (some ⟨bA, 0, none⟩)) :: u9 :: undef :: (Value.agg (ints .u8 (nn l0)).toArray) :: (Value.agg (ints .u8 (nn l1)).toArray) :: (Value.string P) :: (Value.string P) :: (Value.int .i64 32) :: (Value.bool false) :: (Value.bool false) :: (Value.bool true) :: (Value.bool false) :: (Value.bool false) :: (Value.agg (ints .u8 (nn l0)).toArray) :: (Value.agg (ints .u32 (nn X)).toArray) :: (Value.agg (ints .u8 (nn l1)).toArray) :: (Value.agg (ints .u8 (nn EA)).toArray) :: u25 :: u26 :: u27 :: u28 :: u29 :: undef :: undef :: undef :: undef :: undef :: undef :: undef :: undef :: undef :: undef :: undef :: undef :: undef :: undef :: undef :: undef :: undef :: undef :: undef :: undef :: []).toArray, []⟩ ∧ Below w.heap.size w W ∧ Blk W (w.heap.size) 23 (ints .u8 (nn l0)) ∧ Blk W (w.heap.size + 1) 28 (ints .u8 (nn l1)) ∧ Blk W (bA) 28 (ints .u8 (nn EA)) ∧ (x0 = true → u25 = .agg (ints .u8 (nn l0)).toArray) ∧ (x1 = true → u26 = .agg (ints .u32 (nn X)).toArray) ∧ (x2 = true → u27 = .agg (ints .u8 (nn l1)).toArray) ∧ (x3 = true → u28 = .agg (ints .u8 (nn NX)).toArray) ∧ (x4 = true → u29 = .agg (ints .u8 (nn EB)).toArray) ∧ (x6 = true → x5 = true) ∧ (x5 = true → ∃ b, (w.heap.size + 1 < b ∧ bA < b) ∧ u9 = .pointer (some ⟨b, 0, none⟩) ∧ Blk W b 28 (if x6 = true then (ints .u8 (nn EB)) else (ints .u8 (nn (zerN 16)))))
set_option maxHeartbeats 2000000 in
set_option maxRecDepth 100000 in
theorem walk (l0 l1 : List Nat) (z0 : Int) (n0 : l0.length = 32) (o0 : Bys l0) (n1 : l1.length = 16) (o1 : Bys l1) (n2 : (Lit.int .u8 z0).wf = true) (w : World) :
    Calls Try.prog 9 #[.agg (ints .u8 (nn l0)).toArray, .agg (ints .u8 (nn l1)).toArray, .int .u8 z0] w fun e w' => e = .returned (.bool true) ∧ Below w.heap.size w w' := by
  obtain ⟨z, rfl, hz⟩ := nat_u8 z0 n2
  clear n2
  have hS := fun w => l3_shown w
  have HS := Lib.hid hS
  have k0 : Blk ((w.alloc (.cells (ints .u8 (nn l0)).toArray 23)).alloc (.cells (ints .u8 (nn l1)).toArray 28)) w.heap.size 23 (ints .u8 (nn l0)) := (Blk.new _ _ _).alloc _
  have k1 : Blk ((w.alloc (.cells (ints .u8 (nn l0)).toArray 23)).alloc (.cells (ints .u8 (nn l1)).toArray 28)) (w.heap.size + 1) 28 (ints .u8 (nn l1)) := Blk.new2 _ _ _ _ rfl
  have kb : Below w.heap.size w ((w.alloc (.cells (ints .u8 (nn l0)).toArray 23)).alloc (.cells (ints .u8 (nn l1)).toArray 28)) := ((Below.refl _ _).alloc (Nat.le_refl _) _).alloc (by simp) _
  clear hS
  have lE : (expandL l0).length = 60 := expandL_len _
  have wE : Words (expandL l0) := ksN_words o0 52 (by omega)
  have hX := fun w => c_Expand l0 w n0 o0
  have hN : ∀ w, Calls Try.prog 18 #[.agg (ints .u8 (nn l1)).toArray, .int .u64 1] w fun e w' => e = .returned (.agg (ints .u8 (nn (nextL l1 1))).toArray) ∧ Below w.heap.size w w' := fun w => s_Next l1 1 w n1 o1 (by omega)
  have hA := fun w => c_Encrypt (expandL l0) l1 w lE wE n1 o1
  have hB := fun w => c_Encrypt (expandL l0) (nextL l1 1) w lE wE (nextL_len _ _) (nextL_bys _ _)
  have hP : ∀ w, Calls Try.prog 22 #[.agg (ints .u8 (nn l0)).toArray, .agg (ints .u8 (nn l1)).toArray, .int .i64 32] w fun e w' => e = .returned (.string (bs (nn (padL l0 l1 32)))) ∧ Below w.heap.size w w' := fun w => s_Pad l0 l1 32 w n0 o0 n1 o1 (by omega)
  have hps : (bs (nn (padL l0 l1 32))).size = 32 := by rw [bs_size, nn_length, padL_len]
  have lA : (encL (expandL l0) l1).length = 16 := (encN_len _ _ _).trans n1
  have lB : (encL (expandL l0) (nextL l1 1)).length = 16 := (encN_len _ _ _).trans (nextL_len _ _)
  have lN := nextL_len l1 1
  have hp1 : ∀ j, j < 16 → (sl (bs (nn (padL l0 l1 32)))).getD j 0 = (encL (expandL l0) l1).getD j 0 := fun j hj => by
    rw [sl_bs (padL_bys _ _ _)]
    unfold padL
    rw [map_range_getD _ _ _ (by omega)]
    unfold padF padB
    rw [show j / 16 = 0 by omega, show j % 16 = j by omega, nextL_zero n1 o1]
  have hp2 : ∀ j, j < 16 → (sl (bs (nn (padL l0 l1 32)))).getD (16 + j) 0 = (encL (expandL l0) (nextL l1 1)).getD j 0 := fun j hj => by
    rw [sl_bs (padL_bys _ _ _)]
    unfold padL
    rw [map_range_getD _ _ _ (by omega)]
    unfold padF padB
    rw [show (16 + j) / 16 = 1 by omega, show (16 + j) % 16 = j by omega]
  generalize bs (nn (padL l0 l1 32)) = P at *
  generalize encL (expandL l0) (nextL l1 1) = EB at *
  generalize encL (expandL l0) l1 = EA at *
  generalize expandL l0 = X at *
  generalize nextL l1 1 = NX at *
  have HX := Lib.hid hX
  have HN := Lib.hid hN
  have HA := Lib.hid hA
  have HB := Lib.hid hB
  have HP := Lib.hid hP
  have HP1 := Lib.hid hp1
  have HP2 := Lib.hid hp2
  have HL0 := Lib.hid n0
  have HL1 := Lib.hid n1
  have HLA := Lib.hid lA
  have HLB := Lib.hid lB
  clear hX hN hA hB hP hp1 hp2 n0 n1 lA lB lE wE lN o0 o1
  go_enter Try.func9, Try.ntmps9
  go_wp2_with (first | (refine wpList_load_blk rfl 23 _ rfl _ rfl k0 Try.underlying23 rfl (by rw [size_hash, ints_length, nn_length, HL0.out]) ?_) | (refine wpList_load_blk rfl 28 _ rfl _ rfl k1 Try.underlying28 rfl (by rw [size_b16, ints_length, nn_length, HL1.out]) ?_))
  refine (HP.out _).mono ?_
  rintro e w4 ⟨rfl, hb4⟩
  have i0 := k0.below hb4 k0.lt
  have i1 := k1.below hb4 k1.lt
  have ib := kb.trans (hb4.mono kb.size)
  clear k0 k1 kb hb4 HP
  go_wp2_with (go_at_call 17; (with_reducible refine (HS.out _).mono ?_); rintro e w5 ⟨rfl, hb5⟩)
  have j0 := i0.below hb5 i0.lt
  have j1 := i1.below hb5 i1.lt
  have jb := ib.trans (hb5.mono ib.size)
  clear i0 i1 ib hb5 HS
  refine region_inv mixed (by kernel_rfl) (fun L a W => R4 w l0 l1 X EA P z (L 0) (L 1) (L 2) (L 3) (L 4) (L 5) a W) ?start ?ext ?step ?end_
  case start =>
    exact ⟨undef, undef, undef, undef, undef, rfl, jb.drew, j0.drew, j1.drew, (fun h => by cases h), (fun h => by cases h), (fun h => by cases h), (fun h => by cases h), (fun h => by cases h), (fun h => by cases h)⟩
  case ext =>
    intro L L' a W hE hI
    have e0 := hE 0 (by decide)
    have e1 := hE 1 (by decide)
    have e2 := hE 2 (by decide)
    have e3 := hE 3 (by decide)
    have e4 := hE 4 (by decide)
    have e5 := hE 5 (by decide)
    rw [e0, e1, e2, e3, e4, e5] at hI
    exact hI
  case step =>
    intro L a W i o hI ho hL hdep
    obtain ⟨u21, u22, u23, u24, u8, rfl, hb, g0, g1, h0, h1, h2, h3, hsa, hal⟩ := hI
    rcases i with _ | _ | _ | _ | _ | _ | i
    · simp only [List.getElem?_cons_zero, Option.some.injEq] at ho
      subst ho
      refine wpList_load_blk rfl 23 _ rfl _ rfl g0 Try.underlying23 rfl (by rw [size_hash, ints_length, nn_length, HL0.out]) ?_
      refine wpList_nil ?_
      refine ⟨_, _, _, _, _, rfl, hb, g0, g1, fun _ => rfl, fun h => h1 (by simpa using h), fun h => h2 (by simpa using h), fun h => h3 (by simpa using h), fun h => by simpa using hsa (by simpa using h), ?_⟩
      intro h
      have hx := hal (by simpa using h)
      simpa using hx
    · simp only [List.getElem?_cons_zero, List.getElem?_cons_succ, Option.some.injEq] at ho
      subst ho
      have dp0 := hdep ⟨0, .data⟩ (by simp) rfl
      obtain rfl := h0 dp0
      go_wp2_with (go_at_call 10; (with_reducible refine (HX.out _).mono ?_); rintro e W' ⟨rfl, hb'⟩)
      refine ⟨_, _, _, _, _, rfl, hb.trans (hb'.mono hb.size), g0.below hb' g0.lt, g1.below hb' g1.lt, fun _ => rfl, fun _ => rfl, fun h => h2 (by simpa using h), fun h => h3 (by simpa using h), fun h => by simpa using hsa (by simpa using h), ?_⟩
      intro h
      obtain ⟨b, q1, q2, q3⟩ := hal (by simpa using h)
      exact ⟨b, q1, q2, by simpa using q3.below hb' q3.lt⟩
    · simp only [List.getElem?_cons_zero, List.getElem?_cons_succ, Option.some.injEq] at ho
      subst ho
      refine wpList_load_blk rfl 28 _ rfl _ rfl g1 Try.underlying28 rfl (by rw [size_b16, ints_length, nn_length, HL1.out]) ?_
      refine wpList_nil ?_
      refine ⟨_, _, _, _, _, rfl, hb, g0, g1, fun h => h0 (by simpa using h), fun h => h1 (by simpa using h), fun _ => rfl, fun h => h3 (by simpa using h), fun h => by simpa using hsa (by simpa using h), ?_⟩
      intro h
      have hx := hal (by simpa using h)
      simpa using hx
    · simp only [List.getElem?_cons_zero, List.getElem?_cons_succ, Option.some.injEq] at ho
      subst ho
      have dp1 := hdep ⟨1, .data⟩ (by simp) rfl
      obtain rfl := h1 dp1
      have dp2 := hdep ⟨2, .data⟩ (by simp) rfl
      obtain rfl := h2 dp2
      go_wp2_with (go_at_call 12; (with_reducible refine (HA.out _).mono ?_); rintro e W' ⟨rfl, hb'⟩)
      refine ⟨_, _, _, _, _, rfl, hb.trans (hb'.mono hb.size), g0.below hb' g0.lt, g1.below hb' g1.lt, fun h => h0 (by simpa using h), fun _ => rfl, fun _ => rfl, fun _ => rfl, fun h => by simpa using hsa (by simpa using h), ?_⟩
      intro h
      obtain ⟨b, q1, q2, q3⟩ := hal (by simpa using h)
      exact ⟨b, q1, q2, by simpa using q3.below hb' q3.lt⟩
    · simp only [List.getElem?_cons_zero, List.getElem?_cons_succ, Option.some.injEq] at ho
      subst ho
      refine wpList_alloc_at rfl 28 rfl _ _ (alloc_b16 _) ?_
      refine wpList_nil ?_
      have hsf : L 5 = false := by cases hh : L 5 with | false => rfl | true => exact absurd (hsa hh) (by rw [hL]; decide)
      have hbs := hb.size
      have hlt0 := g0.lt
      have hlt1 := g1.lt
      refine ⟨_, _, _, _, _, rfl, hb.alloc hb.size _, g0.alloc _, g1.alloc _, fun h => h0 (by simpa using h), fun h => h1 (by simpa using h), fun h => h2 (by simpa using h), fun h => h3 (by simpa using h), fun _ => by simp, ?_⟩
      intro h
      refine ⟨W.heap.size, by omega, rfl, ?_⟩
      have hz := Blk.new' W 28 (ints .u8 (nn (zerN 16))) rfl
      simpa [hsf] using hz
    · simp only [List.getElem?_cons_zero, List.getElem?_cons_succ, Option.some.injEq] at ho
      subst ho
      have dp3 := hdep ⟨3, .data⟩ (by simp) rfl
      obtain rfl := h3 dp3
      have hdA := hdep ⟨4, .data⟩ (by simp) rfl
      obtain ⟨b, q1, rfl, q3⟩ := hal hdA
      rw [if_neg (by rw [hL]; decide)] at q3
      refine wpList_store_blk rfl 28 _ _ rfl b (ints .u8 (nn EA)) rfl rfl q3 (by rw [size_b16, ints_length, nn_length, HLA.out]) (by rw [ints_length, ints_length, nn_length, nn_length, HLA.out, zerN_len]) (ints_one _ _) ?_
      refine wpList_nil ?_
      refine ⟨_, _, _, _, _, rfl, below_setRow hb (by omega) _, g0.rowOther (by omega) _, g1.rowOther (by omega) _, fun h => h0 (by simpa using h), fun h => h1 (by simpa using h), fun h => h2 (by simpa using h), fun h => h3 (by simpa using h), fun _ => by simpa using hdA, ?_⟩
      intro h
      refine ⟨b, q1, rfl, ?_⟩
      have hz := q3.row (ints .u8 (nn EA)) (by rw [ints_length, ints_length, nn_length, nn_length, HLA.out, zerN_len])
      simpa using hz
    · simp at ho
  case end_ =>
    rintro a W ⟨u21, u22, u23, u24, u8, rfl, hb, g0, g1, h0, h1, h2, h3, hsa, hal⟩
    obtain rfl := h0 rfl
    obtain rfl := h1 rfl
    obtain rfl := h2 rfl
    obtain rfl := h3 rfl
    obtain ⟨bA, hbA, rfl, hBA⟩ := hal rfl
    rw [if_pos rfl] at hBA
    clear hsa hal
    have j0 := g0
    have j1 := g1
    have j2 := hBA
    have jb := hb
    clear g0 g1 hBA hb
    change wpList Try.prog #[] (Exit.then _ _) [] _ _
    go_wp2_with fail
    refine region_inv mixed (by kernel_rfl) (fun L a W => R5 w bA l0 l1 X EA NX EB P z (L 0) (L 1) (L 2) (L 3) (L 4) (L 5) (L 6) a W) ?start ?ext ?step ?end_
    case start =>
      exact ⟨undef, undef, undef, undef, undef, undef, rfl, jb.drew, j0.drew, j1.drew, j2.drew, (fun h => by cases h), (fun h => by cases h), (fun h => by cases h), (fun h => by cases h), (fun h => by cases h), (fun h => by cases h), (fun h => by cases h)⟩
    case ext =>
      intro L L' a W hE hI
      have e0 := hE 0 (by decide)
      have e1 := hE 1 (by decide)
      have e2 := hE 2 (by decide)
      have e3 := hE 3 (by decide)
      have e4 := hE 4 (by decide)
      have e5 := hE 5 (by decide)
      have e6 := hE 6 (by decide)
      rw [e0, e1, e2, e3, e4, e5, e6] at hI
      exact hI
    case step =>
      intro L a W i o hI ho hL hdep
      obtain ⟨u25, u26, u27, u28, u29, u9, rfl, hb, g0, g1, g2, h0, h1, h2, h3, h4, hsa, hal⟩ := hI
      rcases i with _ | _ | _ | _ | _ | _ | _ | i
      · simp only [List.getElem?_cons_zero, Option.some.injEq] at ho
        subst ho
        refine wpList_load_blk rfl 23 _ rfl _ rfl g0 Try.underlying23 rfl (by rw [size_hash, ints_length, nn_length, HL0.out]) ?_
        refine wpList_nil ?_
        refine ⟨_, _, _, _, _, _, rfl, hb, g0, g1, g2, fun _ => rfl, fun h => h1 (by simpa using h), fun h => h2 (by simpa using h), fun h => h3 (by simpa using h), fun h => h4 (by simpa using h), fun h => by simpa using hsa (by simpa using h), ?_⟩
        intro h
        have hx := hal (by simpa using h)
        simpa using hx
      · simp only [List.getElem?_cons_zero, List.getElem?_cons_succ, Option.some.injEq] at ho
        subst ho
        have dp0 := hdep ⟨0, .data⟩ (by simp) rfl
        obtain rfl := h0 dp0
        go_wp2_with (go_at_call 10; (with_reducible refine (HX.out _).mono ?_); rintro e W' ⟨rfl, hb'⟩)
        refine ⟨_, _, _, _, _, _, rfl, hb.trans (hb'.mono hb.size), g0.below hb' g0.lt, g1.below hb' g1.lt, g2.below hb' g2.lt, fun _ => rfl, fun _ => rfl, fun h => h2 (by simpa using h), fun h => h3 (by simpa using h), fun h => h4 (by simpa using h), fun h => by simpa using hsa (by simpa using h), ?_⟩
        intro h
        obtain ⟨b, q1, q2, q3⟩ := hal (by simpa using h)
        exact ⟨b, q1, q2, by simpa using q3.below hb' q3.lt⟩
      · simp only [List.getElem?_cons_zero, List.getElem?_cons_succ, Option.some.injEq] at ho
        subst ho
        refine wpList_load_blk rfl 28 _ rfl _ rfl g1 Try.underlying28 rfl (by rw [size_b16, ints_length, nn_length, HL1.out]) ?_
        refine wpList_nil ?_
        refine ⟨_, _, _, _, _, _, rfl, hb, g0, g1, g2, fun h => h0 (by simpa using h), fun h => h1 (by simpa using h), fun _ => rfl, fun h => h3 (by simpa using h), fun h => h4 (by simpa using h), fun h => by simpa using hsa (by simpa using h), ?_⟩
        intro h
        have hx := hal (by simpa using h)
        simpa using hx
      · simp only [List.getElem?_cons_zero, List.getElem?_cons_succ, Option.some.injEq] at ho
        subst ho
        have dp2 := hdep ⟨2, .data⟩ (by simp) rfl
        obtain rfl := h2 dp2
        go_wp2_with (go_at_call 18; (with_reducible refine (HN.out _).mono ?_); rintro e W' ⟨rfl, hb'⟩)
        refine ⟨_, _, _, _, _, _, rfl, hb.trans (hb'.mono hb.size), g0.below hb' g0.lt, g1.below hb' g1.lt, g2.below hb' g2.lt, fun h => h0 (by simpa using h), fun h => h1 (by simpa using h), fun _ => rfl, fun _ => rfl, fun h => h4 (by simpa using h), fun h => by simpa using hsa (by simpa using h), ?_⟩
        intro h
        obtain ⟨b, q1, q2, q3⟩ := hal (by simpa using h)
        exact ⟨b, q1, q2, by simpa using q3.below hb' q3.lt⟩
      · simp only [List.getElem?_cons_zero, List.getElem?_cons_succ, Option.some.injEq] at ho
        subst ho
        have dp1 := hdep ⟨1, .data⟩ (by simp) rfl
        obtain rfl := h1 dp1
        have dp3 := hdep ⟨3, .data⟩ (by simp) rfl
        obtain rfl := h3 dp3
        go_wp2_with (go_at_call 12; (with_reducible refine (HB.out _).mono ?_); rintro e W' ⟨rfl, hb'⟩)
        refine ⟨_, _, _, _, _, _, rfl, hb.trans (hb'.mono hb.size), g0.below hb' g0.lt, g1.below hb' g1.lt, g2.below hb' g2.lt, fun h => h0 (by simpa using h), fun _ => rfl, fun h => h2 (by simpa using h), fun _ => rfl, fun _ => rfl, fun h => by simpa using hsa (by simpa using h), ?_⟩
        intro h
        obtain ⟨b, q1, q2, q3⟩ := hal (by simpa using h)
        exact ⟨b, q1, q2, by simpa using q3.below hb' q3.lt⟩
      · simp only [List.getElem?_cons_zero, List.getElem?_cons_succ, Option.some.injEq] at ho
        subst ho
        refine wpList_alloc_at rfl 28 rfl _ _ (alloc_b16 _) ?_
        refine wpList_nil ?_
        have hsf : L 6 = false := by cases hh : L 6 with | false => rfl | true => exact absurd (hsa hh) (by rw [hL]; decide)
        have hbs := hb.size
        have hlt0 := g0.lt
        have hlt1 := g1.lt
        have hlt2 := g2.lt
        refine ⟨_, _, _, _, _, _, rfl, hb.alloc hb.size _, g0.alloc _, g1.alloc _, g2.alloc _, fun h => h0 (by simpa using h), fun h => h1 (by simpa using h), fun h => h2 (by simpa using h), fun h => h3 (by simpa using h), fun h => h4 (by simpa using h), fun _ => by simp, ?_⟩
        intro h
        refine ⟨W.heap.size, by omega, rfl, ?_⟩
        have hz := Blk.new' W 28 (ints .u8 (nn (zerN 16))) rfl
        simpa [hsf] using hz
      · simp only [List.getElem?_cons_zero, List.getElem?_cons_succ, Option.some.injEq] at ho
        subst ho
        have dp4 := hdep ⟨4, .data⟩ (by simp) rfl
        obtain rfl := h4 dp4
        have hdA := hdep ⟨5, .data⟩ (by simp) rfl
        obtain ⟨b, q1, rfl, q3⟩ := hal hdA
        rw [if_neg (by rw [hL]; decide)] at q3
        refine wpList_store_blk rfl 28 _ _ rfl b (ints .u8 (nn EB)) rfl rfl q3 (by rw [size_b16, ints_length, nn_length, HLB.out]) (by rw [ints_length, ints_length, nn_length, nn_length, HLB.out, zerN_len]) (ints_one _ _) ?_
        refine wpList_nil ?_
        refine ⟨_, _, _, _, _, _, rfl, below_setRow hb (by omega) _, g0.rowOther (by omega) _, g1.rowOther (by omega) _, g2.rowOther (by omega) _, fun h => h0 (by simpa using h), fun h => h1 (by simpa using h), fun h => h2 (by simpa using h), fun h => h3 (by simpa using h), fun h => h4 (by simpa using h), fun _ => by simpa using hdA, ?_⟩
        intro h
        refine ⟨b, q1, rfl, ?_⟩
        have hz := q3.row (ints .u8 (nn EB)) (by rw [ints_length, ints_length, nn_length, nn_length, HLB.out, zerN_len])
        simpa using hz
      · simp at ho
    case end_ =>
      rintro a W ⟨u25, u26, u27, u28, u29, u9, rfl, hb, g0, g1, g2, h0, h1, h2, h3, h4, hsa, hal⟩
      obtain rfl := h0 rfl
      obtain rfl := h1 rfl
      obtain rfl := h2 rfl
      obtain rfl := h3 rfl
      obtain rfl := h4 rfl
      obtain ⟨bB, hbA, rfl, hBA⟩ := hal rfl
      rw [if_pos rfl] at hBA
      clear hsa hal
      have hAB : bA ≠ bB := by omega
      change wpList Try.prog #[] (Exit.then _ _) [] _ _
      obtain ⟨k, hk⟩ : ∃ k, z % 16 = k := ⟨_, rfl⟩
      have hk16 : k < 16 := by omega
      have x1 := fun w => index_sl P .i64 k (by omega) w
      have x2 : ∀ w, (Instr.index 9 (.string P) (.int .i64 (16 + (k : Int)))).run Try.prog w = .ok (.int .u8 ((EB.getD k 0 : Nat) : Int)) w := fun w => by
        have h := index_sl P .i64 (16 + k) (by omega) w
        rw [HP2.out k hk16, show ((16 + k : Nat) : Int) = 16 + (k : Int) by omega] at h
        exact h
      rw [HP1.out k hk16] at x1
      have c1 := g2.nat (j := k) (by rw [HLA.out]; exact hk16)
      have c2 := hBA.nat (j := k) (by rw [HLB.out]; exact hk16)
      have d1 : (z : Int) % 16 = (k : Int) := by omega
      have d2 : (0 : Int) ≤ (k : Int) := by omega
      have d3 : (k : Int) < 16 := by omega
      have d4 : IntKind.i64.wrap (16 + (k : Int)) = 16 + (k : Int) := IntWalk.i64_in _ (by omega)
      have d5 : (z : Int) < 256 := by omega
      generalize EA.getD k 0 = va at *
      generalize EB.getD k 0 = vb at *
      clear hk
      go_wp2_with fail
      refine wp_region_still_tail 17 mixed (by kernel_rfl) ?_
      simp only [List.take_succ_cons, List.take_zero, List.drop_succ_cons, List.drop_zero]
      change wpStill _ _ (World.drew _) _ _ _
      repeat still_step
      refine wpStill_nil ?_
      change wpList _ _ _ _ _ (World.drew _)
      go_wp2
      go_ret
      exact ⟨rfl, below_drewN hb 1⟩

set_option maxRecDepth 100000 in
theorem lifted (os : Os) (started : os.Started) (H : Type) (enc : TypeId × Value → H) :
    ReturnsInHanded {} Try.checked os 9 .any (Rows.streamFirstSpec.pre6 enc Try.prog Try.f9 Rows.streamFirstRow.domain false) (Rows.streamFirstSpec.post enc Try.prog Try.f9 false true false false) := by
  refine returnsInHanded_of_change (C := Try.checked) own started (by kernel_rfl) Try.func9
    (ChangeSpec.witness6 (enc := enc) (C := Try.checked) false ⟨#[], #[.agg (ints .u8 (List.replicate 32 0)).toArray, .agg (ints .u8 (List.replicate 16 0)).toArray, .int .u8 0], []⟩ 8 (by kernel_rfl) (by kernel_rfl) (by kernel_rfl) (by kernel_rfl)) ?_
  intro W base args ds gs before hval0 hW hcnd _
  have hval : ∀ (j : Nat) t v, Try.f9.params[j]? = some t → args[j]? = some v → Value.okWide Try.prog W .any base t v := hval0
  have hW' := hW
  obtain ⟨p, q, hA0, hV, rfl, hfz, hnd⟩ := hW
  have hA : DataW.TrodAll enc Try.prog W 0 (fun _ => true) true Try.f9.params.toList args.toList ds p := hA0
  rw [Try.params9] at hA hval
  obtain ⟨v0, vs0, d0, ds0, p0, q0, hargs, rfl, rfl, h0, r0⟩ := trodAll_cons hA
  obtain ⟨v1, vs1, d1, ds1, p1, q1, rfl, rfl, rfl, h1, r1⟩ := trodAll_cons r0
  obtain ⟨v2, vs2, d2, ds2, p2, q2, rfl, rfl, rfl, h2, r2⟩ := trodAll_cons r1
  obtain ⟨rfl, rfl, rfl⟩ := trodAll_nil r2
  obtain rfl : args = #[v0, v1, v2] := by cases args; simp_all
  obtain ⟨rfl, rfl⟩ := trodVars_none hV
  have k0 := h0
  have lt0 : ∀ x ∈ p0, x.block < W.heap.size := by obtain ⟨m, hm⟩ := k0; exact DataW.trod_lt m _ _ _ hm
  obtain ⟨cs0, hcs0, _, _⟩ : ∃ cs, v0 = .agg cs ∧ cs.size = Try.prog.cellsOf 23 ∧ Row.okWide Try.prog W .any base 23 cs := by
    have := hval 0 23 v0 rfl rfl
    simpa [Value.okWide, Try.underlying23] using this
  obtain ⟨l0, hl0, n0, o0⟩ := open_bys Try.underlying23 Try.underlying5 cells_u8 cells_h32 cs0 hcs0 h0
  have k1 := h1
  have lt1 : ∀ x ∈ p1, x.block < W.heap.size := by obtain ⟨m, hm⟩ := k1; exact DataW.trod_lt m _ _ _ hm
  obtain ⟨cs1, hcs1, _, _⟩ : ∃ cs, v1 = .agg cs ∧ cs.size = Try.prog.cellsOf 28 ∧ Row.okWide Try.prog W .any base 28 cs := by
    have := hval 1 28 v1 rfl rfl
    simpa [Value.okWide, Try.underlying28] using this
  obtain ⟨l1, hl1, n1, o1⟩ := open_bys Try.underlying28 Try.underlying5 cells_u8 cells_b16 cs1 hcs1 h1
  obtain ⟨l2, rfl, rfl, rfl, n2⟩ := open_int Try.underlying5 (hval 2 5 v2 rfl rfl) h2
  clear hcs0
  subst hl0
  clear hcs1
  subst hl1
  clear hA0 hval0
  simp only [List.append_nil] at hW'
  refine (walk l0 l1 l2 n0 o0 n1 o1 n2 W).mono fun e W' ⟨he, bel⟩ => ?_
  subst he
  exact ⟨_, rfl, _, _, _, [], _, [], hW', trodAll_mk1 (shut_bool Try.underlying4 _), (trodAll_cons_mk (Below.trod laidOut (by kernel_rfl) (of_decide_eq_true (by kernel_rfl)) k0 bel lt0) (trodAll_cons_mk (Below.trod laidOut (by kernel_rfl) (of_decide_eq_true (by kernel_rfl)) k1 bel lt1) (trodAll_cons_mk (shut_int Try.underlying5 n2) trodAll_mk0))), rfl, bel.frame _, fun h => by cases h⟩

theorem over : Rows.streamFirstRow.holds Try.pinned (OpenSpec.ofChange Rows.streamFirstSpec) :=
  OpenClaim.holds_of_wide 9 Try.f9 rfl rfl rfl rfl rfl rfl rfl ⟨rfl, rfl, rfl, rfl, rfl⟩ rfl rfl rfl rfl rfl (by kernel_rfl) Try.func9 (by kernel_rfl)
    (of_decide_eq_true (by kernel_rfl)) (by unfold Func.isWrapper; first | (rw [if_pos (by decide +kernel)]; kernel_rfl) | (rw [if_neg (by decide +kernel)]; exact ⟨rfl, rfl⟩))
    (fun os started H enc _ => lifted os started H enc)

theorem proved : Rows.StreamFirstSaid :=
  over
#print axioms proved
end Go.Proofs.Ytgagafefhmofjaa.streamFirst
