/- Walk of cipher's mixed. -/
import Derived.Test.YtgagafefhmofjaaCipI
import Derived.Laws.EntriesVeiled
namespace Go.Proofs.Ytgagafefhmofjaa
open Go.RowKit Go.Shelf
set_option linter.unusedVariables false

attribute [local go_sem] Oper.semAt_some

def two (v : Nat) : Nat := eachN (fun x => mul x 2) v
def three (v : Nat) : Nat := eachN (fun x => mul x 3) v
/-- what is made of a column -/
def mixG (c v : Nat) : Nat := two v ^^^ three (rotl32 v 8) ^^^ rotl32 v 16 ^^^ rotl32 v 24
theorem two_lt (v : Nat) : two v < 4294967296 := eachN_lt (mul_byte 2) v
theorem three_lt (v : Nat) : three v < 4294967296 := eachN_lt (mul_byte 3) v

set_option maxRecDepth 100000 in
set_option maxHeartbeats 2000000 in
theorem c_mixed (bl : List Nat) (w : World) (hbl : bl.length = 16) (hby : Bys bl) :
    Calls Try.prog 34 #[.agg (ints .u8 (nn bl)).toArray] w fun e w' => e = .returned (.agg (ints .u8 (nn (chAll mixG bl))).toArray) ∧ Below w.heap.size w w' := by
  have H1 : Blk (w.alloc (.cells (ints .u8 (nn bl)).toArray 28)) w.heap.size 28 (ints .u8 (nn bl)) := Blk.new _ _ _
  refine (callsIn_wide (n := 9)).1 (callsIn_of_wp_marks Try.func34 rfl trivial ?_ rfl)
  simp only [Try.ntmps34, List.size_toArray, List.length_cons, List.length_nil, Nat.reduceAdd, Nat.reduceSub, Array.replicate_succ, Array.replicate_zero, List.push_toArray, List.append_toArray, List.nil_append, List.cons_append]
  refine wpIn_wide.2 ?_
  have HBL := Lib.hid hbl
  clear hbl
  go_wp2_with (first | (refine wpList_alloc_at rfl 28 rfl _ _ (alloc_b16 _) ?_) | (refine wpList_load_blk rfl 28 _ rfl _ rfl (((H1.alloc _).alloc _).alloc _) Try.underlying28 rfl (by rw [size_b16, ints_length, nn_length, HBL.out]) ?_) | (go_at_call 41; (refine (c_columns _ _).mono ?_); rintro e w9 ⟨rfl, rfl⟩))
  have K0 : Blk (((((w.alloc (.cells (ints .u8 (nn bl)).toArray 28)).alloc (.cells (ints .u8 (nn (zerN 16))).toArray 28)).alloc (.cells #[.func (.func 43) #[] #[]] 53)).alloc (.cells #[.func (.func 44) #[] #[]] 53)).alloc (.cells (ints .u8 (nn bl)).toArray 28)) w.heap.size 28 (ints .u8 (nn bl)) := (((H1.alloc _).alloc _).alloc _).alloc _
  have K1 : Blk (((((w.alloc (.cells (ints .u8 (nn bl)).toArray 28)).alloc (.cells (ints .u8 (nn (zerN 16))).toArray 28)).alloc (.cells #[.func (.func 43) #[] #[]] 53)).alloc (.cells #[.func (.func 44) #[] #[]] 53)).alloc (.cells (ints .u8 (nn bl)).toArray 28)) (w.heap.size + 1) 28 (ints .u8 (nn (zerN 16))) := (((Blk.new2 _ _ _ _ rfl).alloc _).alloc _).alloc _
  have K2 : Blk (((((w.alloc (.cells (ints .u8 (nn bl)).toArray 28)).alloc (.cells (ints .u8 (nn (zerN 16))).toArray 28)).alloc (.cells #[.func (.func 43) #[] #[]] 53)).alloc (.cells #[.func (.func 44) #[] #[]] 53)).alloc (.cells (ints .u8 (nn bl)).toArray 28)) (w.heap.size + 1 + 1) 53 [.func (.func 43) #[] #[]] := by
    have := Blk.new2 (w.alloc (.cells (ints .u8 (nn bl)).toArray 28)) (.cells (ints .u8 (nn (zerN 16))).toArray 28) 53 [.func (.func 43) #[] #[]] rfl
    rw [World.size_alloc] at this
    exact (this.alloc _).alloc _
  have K3 : Blk (((((w.alloc (.cells (ints .u8 (nn bl)).toArray 28)).alloc (.cells (ints .u8 (nn (zerN 16))).toArray 28)).alloc (.cells #[.func (.func 43) #[] #[]] 53)).alloc (.cells #[.func (.func 44) #[] #[]] 53)).alloc (.cells (ints .u8 (nn bl)).toArray 28)) (w.heap.size + 1 + 1 + 1) 53 [.func (.func 44) #[] #[]] := by
    have := Blk.new2 ((w.alloc (.cells (ints .u8 (nn bl)).toArray 28)).alloc (.cells (ints .u8 (nn (zerN 16))).toArray 28)) (.cells #[.func (.func 43) #[] #[]] 53) 53 [.func (.func 44) #[] #[]] rfl
    simp only [World.size_alloc] at this
    exact this.alloc _
  have K4 : Blk (((((w.alloc (.cells (ints .u8 (nn bl)).toArray 28)).alloc (.cells (ints .u8 (nn (zerN 16))).toArray 28)).alloc (.cells #[.func (.func 43) #[] #[]] 53)).alloc (.cells #[.func (.func 44) #[] #[]] 53)).alloc (.cells (ints .u8 (nn bl)).toArray 28)) (w.heap.size + 1 + 1 + 1 + 1) 28 (ints .u8 (nn bl)) := by
    have := Blk.new2 (((w.alloc (.cells (ints .u8 (nn bl)).toArray 28)).alloc (.cells (ints .u8 (nn (zerN 16))).toArray 28)).alloc (.cells #[.func (.func 43) #[] #[]] 53)) (.cells #[.func (.func 44) #[] #[]] 53) 28 (ints .u8 (nn bl)) rfl
    simp only [World.size_alloc] at this
    exact this
  have Kb : Below w.heap.size w (((((w.alloc (.cells (ints .u8 (nn bl)).toArray 28)).alloc (.cells (ints .u8 (nn (zerN 16))).toArray 28)).alloc (.cells #[.func (.func 43) #[] #[]] 53)).alloc (.cells #[.func (.func 44) #[] #[]] 53)).alloc (.cells (ints .u8 (nn bl)).toArray 28)) := (((((Below.refl _ _).alloc (Nat.le_refl _) _).alloc (by simp) _).alloc (by simp; omega) _).alloc (by simp; omega) _).alloc (by simp; omega) _
  have Kn : (((((w.alloc (.cells (ints .u8 (nn bl)).toArray 28)).alloc (.cells (ints .u8 (nn (zerN 16))).toArray 28)).alloc (.cells #[.func (.func 43) #[] #[]] 53)).alloc (.cells #[.func (.func 44) #[] #[]] 53)).alloc (.cells (ints .u8 (nn bl)).toArray 28)).heap.size = w.heap.size + 5 := by simp
  generalize World.alloc (World.alloc (World.alloc (World.alloc (World.alloc w _) _) _) _) _ = w4 at *
  have hKb : ∀ (W : World) (l : Nat) (o o' : Obj), w4.heap.size ≤ l → W.heap[l]? = some o → o.isCells = false → o.isWalk = false → ∀ o2, W.heap[w.heap.size + 1 + 1 + 1 + 1]? = some o2 → (W.putObj l o').heap[w.heap.size + 1 + 1 + 1 + 1]? = some o2 := fun W l o o' hl _ _ _ o2 ho2 =>
    (World.putObj_heap_other (by omega)).trans ho2
  refine (wpIn_wide (n := 9)).1 ?_
  refine wpIn_rangeFunc_ownF (F := Fence.wide) (n := 9) rfl (by omega) (gf := 46) (lb := #[.pointer (some ⟨w.heap.size + 1 + 1 + 1 + 1, 0, none⟩)]) rfl trivial (enters_of Try.func46 (by kernel_rfl) rfl)
    (c_stops 8 (w.heap.size + 1 + 1 + 1 + 1) bl HBL.out hby (by omega) w4 K4) (fun h k o ho => k o (h o ho)) hKb (Below.refl _ _) (fun _ => rfl)
    (fun pre W => (Blk W w.heap.size 28 (ints .u8 (nn (chL mixG bl pre))) ∧ Blk W (w.heap.size + 1) 28 (ints .u8 (nn (zerN 16))) ∧ Blk W (w.heap.size + 1 + 1) 53 [.func (.func 43) #[] #[]] ∧ Blk W (w.heap.size + 1 + 1 + 1) 53 [.func (.func 44) #[] #[]]) ∧ Below w.heap.size w W)
    (fun _ _ _ => False)
    (OwnFrom.and (Own.from (fun s A B row hs hg hr => ⟨hs.1.kept hg hr, hs.2.1.kept hg hr, hs.2.2.1.kept hg hr, hs.2.2.2.kept hg hr⟩) _) (ownFrom_below (Nat.le_refl _) (by omega)))
    (fun _ _ _ _ _ hs _ _ => hs)
    ⟨⟨K0, K1, K2, K3⟩, Kb⟩
    (fun x => { tmps := #[.agg (ints .u8 (nn bl)).toArray, .pointer (some ⟨w.heap.size, 0, none⟩), .pointer (some ⟨w.heap.size + 1, 0, none⟩), .pointer (some ⟨w.heap.size + 1 + 1, 0, none⟩), .pointer (some ⟨w.heap.size + 1 + 1 + 1, 0, none⟩), .int .i64 (x.val : Int), .int .u32 ((kw bl x.val : Nat) : Int), .agg (ints .u8 (nn bl)).toArray, .func (.func 46) #[] #[.pointer (some ⟨w.heap.size + 1 + 1 + 1 + 1, 0, none⟩)], .int .i64 (x.val : Int), .int .u32 ((kw bl x.val : Nat) : Int), undef, undef, undef, undef, undef, undef, undef, undef, undef, undef, undef, undef, undef, undef, undef, undef, undef, undef], defers := [] }) ?assign ?body ?done ?stop
  case assign =>
    intro l x W K hK
    gi_wp2
    exact hK
  case body =>
    rintro l pre x W ⟨⟨h1, h2, h3, h4⟩, hb⟩ _
    have hlen : (chL mixG bl pre).length = 16 := by rw [chL_len, HBL.out]
    have hsn := chL_snoc mixG bl pre x
    have hkw := kw_lt hby x.val
    have hxl4 := x.isLt
    have r8 := rotl32_lt 8 hkw
    have r16 := rotl32_lt 16 hkw
    have r24 := rotl32_lt 24 hkw
    have x1 := xor_word (two (kw bl x.val)) (three (rotl32 (kw bl x.val) 8)) (two_lt _) (three_lt _)
    have l1 := xor32_lt (two_lt (kw bl x.val)) (three_lt (rotl32 (kw bl x.val) 8))
    have x2 := xor_word _ _ l1 r16
    have l2 := xor32_lt l1 r16
    have x3 := xor_word _ _ l2 r24
    rw [show two (kw bl x.val) ^^^ three (rotl32 (kw bl x.val) 8) ^^^ rotl32 (kw bl x.val) 16 ^^^ rotl32 (kw bl x.val) 24 = mixG x.val (kw bl x.val) from rfl] at x3
    have hP : ∀ wx, NewBut W wx → Calls Try.prog 42 #[.agg (ints .u8 (nn (chL mixG bl pre))).toArray, .int .i64 (x.val : Int), .int .u32 ((mixG x.val (kw bl x.val) : Nat) : Int)] wx fun e w' => e = .returned (.agg (ints .u8 (nn (putL (chL mixG bl pre) x.val (mixG x.val (kw bl x.val))))).toArray) ∧ NewBut W w' := fun wx h =>
      (c_put _ x.val _ wx hlen hxl4).mono fun _ _ ⟨e1, e2⟩ => ⟨e1, h.trans (e2.mono h.size)⟩
    have hE2 : ∀ wx, NewBut W wx → Calls Try.prog 27 #[.int .u32 ((kw bl x.val : Nat) : Int), .func (.func 43) #[] #[]] wx fun e w' => e = .returned (.int .u32 ((two (kw bl x.val) : Nat) : Int)) ∧ NewBut W w' := fun wx h =>
      (c_each_two (kw bl x.val) wx hkw).mono fun _ _ ⟨e1, e2⟩ => ⟨e1, e2 ▸ h⟩
    have hE3 : ∀ wx, NewBut W wx → Calls Try.prog 27 #[.int .u32 ((rotl32 (kw bl x.val) 8 : Nat) : Int), .func (.func 44) #[] #[]] wx fun e w' => e = .returned (.int .u32 ((three (rotl32 (kw bl x.val) 8) : Nat) : Int)) ∧ NewBut W w' := fun wx h =>
      (c_each_three (rotl32 (kw bl x.val) 8) wx r8).mono fun _ _ ⟨e1, e2⟩ => ⟨e1, e2 ▸ h⟩
    have hR8 : ∀ wx, NewBut W wx → Calls Try.prog 28 #[.int .u32 ((kw bl x.val : Nat) : Int), .int .i64 8] wx fun e w' => e = .returned (.int .u32 ((rotl32 (kw bl x.val) 8 : Nat) : Int)) ∧ NewBut W w' := fun wx h =>
      (b_rotl32 (kw bl x.val) 8 wx hkw (by omega) (by omega)).mono fun _ _ ⟨e1, e2⟩ => ⟨e1, e2 ▸ h⟩
    have hR16 : ∀ wx, NewBut W wx → Calls Try.prog 28 #[.int .u32 ((kw bl x.val : Nat) : Int), .int .i64 16] wx fun e w' => e = .returned (.int .u32 ((rotl32 (kw bl x.val) 16 : Nat) : Int)) ∧ NewBut W w' := fun wx h =>
      (b_rotl32 (kw bl x.val) 16 wx hkw (by omega) (by omega)).mono fun _ _ ⟨e1, e2⟩ => ⟨e1, e2 ▸ h⟩
    have hR24 : ∀ wx, NewBut W wx → Calls Try.prog 28 #[.int .u32 ((kw bl x.val : Nat) : Int), .int .i64 24] wx fun e w' => e = .returned (.int .u32 ((rotl32 (kw bl x.val) 24 : Nat) : Int)) ∧ NewBut W w' := fun wx h =>
      (b_rotl32 (kw bl x.val) 24 wx hkw (by omega) (by omega)).mono fun _ _ ⟨e1, e2⟩ => ⟨e1, e2 ▸ h⟩
    have hf1 : ∀ wx, NewBut W wx → wx.cell? ⟨w.heap.size + 1 + 1, 0, none⟩ = some (.func (.func 43) #[] #[]) := fun wx h => by rw [(h3.below h h3.lt).cell]; rfl
    have hf2 : ∀ wx, NewBut W wx → wx.cell? ⟨w.heap.size + 1 + 1 + 1, 0, none⟩ = some (.func (.func 44) #[] #[]) := fun wx h => by rw [(h4.below h h4.lt).cell]; rfl
    have hb0 : ∀ wx, NewBut W wx → Blk wx w.heap.size 28 (ints .u8 (nn (chL mixG bl pre))) := fun wx h => h1.below h h1.lt
    have hll : (putL (chL mixG bl pre) x.val (mixG x.val (kw bl x.val))).length = 16 := by rw [putL_len, hlen]
    generalize putL (chL mixG bl pre) x.val (mixG x.val (kw bl x.val)) = L' at *
    generalize hLg : chL mixG bl pre = L at *
    have HLen := Lib.hid hlen
    have HLL := Lib.hid hll
    have HSN := Lib.hid hsn
    have HP := Lib.hid hP
    have HE2 := Lib.hid hE2
    have HE3 := Lib.hid hE3
    have HR8 := Lib.hid hR8
    have HR16 := Lib.hid hR16
    have HR24 := Lib.hid hR24
    have HF1 := Lib.hid hf1
    have HF2 := Lib.hid hf2
    have HB0 := Lib.hid hb0
    clear hlen hll hsn hP hE2 hE3 hR8 hR16 hR24 hf1 hf2 hb0 hLg hKb l1 l2 r8 r16 r24
    generalize mixG x.val (kw bl x.val) = nv at *
    generalize two (kw bl x.val) ^^^ three (rotl32 (kw bl x.val) 8) ^^^ rotl32 (kw bl x.val) 16 = n2 at *
    generalize two (kw bl x.val) ^^^ three (rotl32 (kw bl x.val) 8) = n1 at *
    generalize two (kw bl x.val) = v2 at *
    generalize three (rotl32 (kw bl x.val) 8) = v3 at *
    generalize rotl32 (kw bl x.val) 8 = q8 at *
    generalize rotl32 (kw bl x.val) 16 = q16 at *
    generalize rotl32 (kw bl x.val) 24 = q24 at *
    generalize kw bl x.val = v at *
    refine wpIn_block ?_
    refine regionIn_quiet_tail (C := NewBut W) l 17 mixed (by kernel_rfl) (by kernel_rfl) (by rintro ⟨_, _, h⟩; exact h) (show Below _ _ _ from (Below.refl _ _).drew) ?_
    simp only [List.take_succ_cons, List.take_zero, List.drop_succ_cons, List.drop_zero]
    refine wpQuiet_load_row rfl 28 _ rfl w.heap.size 0 rfl (ints .u8 (nn L)) (fun wx h => (HB0.out wx h).whole) Try.underlying28 rfl (by rw [size_b16, ints_length, nn_length, HLen.out]) ?_
    repeat (refine wpQuiet_step (fun K' hK' => ?_); go_simp; first | (refine ⟨_, fun _ _ => rfl, hK' _ ?_⟩; clear hK' K') | (refine ⟨.func (.func 43) #[] #[], ?_, hK' _ ?_⟩; (focus (intro wx hx; have hc := HF1.out wx hx; go_simp; done)); clear hK' K') | (refine ⟨.func (.func 44) #[] #[], ?_, hK' _ ?_⟩; (focus (intro wx hx; have hc := HF2.out wx hx; go_simp; done)); clear hK' K') | ((with_reducible refine ⟨_, fun wx hx => HE2.out wx hx, hK' _ ?_⟩); clear hK' K') | ((with_reducible refine ⟨_, fun wx hx => HE3.out wx hx, hK' _ ?_⟩); clear hK' K') | ((with_reducible refine ⟨_, fun wx hx => HR8.out wx hx, hK' _ ?_⟩); clear hK' K') | ((with_reducible refine ⟨_, fun wx hx => HR16.out wx hx, hK' _ ?_⟩); clear hK' K') | ((with_reducible refine ⟨_, fun wx hx => HR24.out wx hx, hK' _ ?_⟩); clear hK' K') | ((with_reducible refine ⟨_, fun wx hx => HP.out wx hx, hK' _ ?_⟩); clear hK' K'))
    refine wpQuiet_nil ?_
    intro w5 hb5
    have h15 := h1.below hb5 h1.lt
    refine wpList_store_blk rfl 28 _ _ rfl w.heap.size (ints .u8 (nn L')) rfl rfl h15 (by rw [size_b16, ints_length, nn_length, HLL.out]) (by rw [ints_length, ints_length, nn_length, nn_length, HLen.out, HLL.out]) (ints_one _ _) ?_
    refine wpList_nil ?_
    have h16 := h15.row (ints .u8 (nn L')) (by rw [ints_length, ints_length, nn_length, nn_length, HLen.out, HLL.out])
    have hl2 := h2.lt
    have hl3 := h3.lt
    have hl4 := h4.lt
    refine ⟨(KeepsOthers.of_below hb5).trans (KeepsOthers.of_row h15 _), fun o ho => ?_, ⟨?_, ?_, ?_, ?_⟩, ?_⟩
    · rw [setRow_other _ _ _ _ (show w.heap.size + 1 + 1 + 1 + 1 ≠ w.heap.size by omega), hb5.block _ (Array.getElem?_eq_some_iff.1 ho).1]
      exact ho
    · rw [HSN.out]; exact h16
    · exact (h2.below hb5 hl2).rowOther (by omega) _
    · exact (h3.below hb5 hl3).rowOther (by omega) _
    · exact (h4.below hb5 hl4).rowOther (by omega) _
    · exact below_setRow (hb.trans (hb5.mono hb.size)) (Nat.le_refl _) _
  case done =>
    rintro D ys W hD rfl ⟨⟨h1, h2, h3, h4⟩, hb⟩ hK
    have hlen : (chL mixG bl (cols 4)).length = 16 := by rw [chL_len, HBL.out]
    have HCL := Lib.hid hlen
    clear hlen
    have HKD := Lib.hid hK
    clear hK hKb
    go_wp2_with (first | (refine wpList_load_blk rfl 28 _ rfl _ rfl h1 Try.underlying28 rfl (by rw [size_b16, ints_length, nn_length, HCL.out]) ?_) | (refine wpList_store_blk rfl 28 _ _ rfl _ _ rfl rfl h2 (by rw [size_b16, ints_length, nn_length, HCL.out]) (by rw [ints_length, ints_length, nn_length, nn_length, HCL.out, zerN_len]) (ints_one _ _) ?_))
    have hDn : D ≠ w.heap.size + 1 := by omega
    have HK2 := (setRow_other W (w.heap.size + 1) D (ints .u8 (nn (chL mixG bl (cols 4)))).toArray hDn).trans HKD.out
    have h5 := h2.row (ints .u8 (nn (chL mixG bl (cols 4)))) (by rw [ints_length, ints_length, nn_length, nn_length, HCL.out, zerN_len])
    have hb5 := below_setRow hb (show w.heap.size ≤ w.heap.size + 1 by omega) (ints .u8 (nn (chL mixG bl (cols 4)))).toArray
    refine ⟨by simp, .inl ⟨_, _, rfl, run_takeDeferred HK2, ?_⟩⟩
    refine ⟨_, results_cell_blk rfl _ _ _ rfl (h5.kept (grownBy_putObj' _ D _) (fun r e => by cases e; exact ⟨_, HK2, rfl⟩)) Try.underlying28 rfl (by rw [size_b16, ints_length, nn_length, HCL.out]), rfl, ?_⟩
    exact hb5.trans (belowK_b (w := w) (Nat.le_refl _) _ D _ _ (by omega) HK2 rfl rfl)
  case stop =>
    rintro D c pre W _ _ h _
    exact h.elim

end Go.Proofs.Ytgagafefhmofjaa
