/- Walks of stream's blocks: the maker, and the iterator that goes on till it is told to stop. -/
import Derived.Test.YtgagafefhmofjaaSNext
import Derived.Test.YtgagafefhmofjaaTill
namespace Go.Proofs.Ytgagafefhmofjaa
open Go.RowKit Go.Shelf
set_option linter.unusedVariables false

attribute [local go_sem] Oper.semAt_some

/-- the block number i of a pad -/
def padB (key nc : List Nat) (i : Nat) : List Nat := encL (expandL key) (nextL nc i)
theorem padB_len (key nc : List Nat) (i : Nat) : (padB key nc i).length = 16 := (encN_len _ _ _).trans (nextL_len _ _)
theorem padB_bys {key nc : List Nat} (i : Nat) : Bys (padB key nc i) := encN_bys _ (nextL_bys _ _) _
/-- what a round must keep: the nonce's block, and whatever cells were made from M on -/
def KpB (Bn M : Nat) (A B : World) : Prop := ∀ k o, (k = Bn ∨ M ≤ k) → A.heap[k]? = some o → o.isCells = true → B.heap[k]? = some o
theorem KpB.trans {Bn M : Nat} {A B C : World} (h : KpB Bn M A B) (k : KpB Bn M B C) : KpB Bn M A C := fun i o hi ho hc => k i o hi (h i o hi ho hc) hc
theorem KpB.put {Bn M : Nat} (W : World) (l : Nat) (o o' : Obj) (h : W.heap[l]? = some o) (hc : o.isCells = false) : KpB Bn M W (W.putObj l o') := fun i oi hi ho hc' => by
  by_cases e : i = l
  · subst e
    rw [h] at ho
    cases ho
    rw [hc] at hc'
    cases hc'
  · exact (World.putObj_heap_other (by omega)).trans ho

set_option maxRecDepth 100000 in
theorem s_blocks (V U : Array Value) (w : World) :
    Calls Try.prog 37 #[.agg V, .agg U] w fun e w' => e = .returned (.func (.func 45) #[] #[.pointer (some ⟨w.heap.size, 0, none⟩), .pointer (some ⟨w.heap.size + 1, 0, none⟩)]) ∧ w' = (w.alloc (.cells V 23)).alloc (.cells U 28) := by
  go_enter Try.func37, Try.ntmps37
  go_wp2
  go_ret
  exact ⟨rfl, rfl⟩

set_option maxRecDepth 100000 in
set_option maxHeartbeats 2000000 in
theorem s_blocks_in (n l Bk Bn M N : Nat) (key nc : List Nat) (hk : key.length = 32) (hkb : Bys key) (hn : nc.length = 16) (hnb : Bys nc) (hNN : N ≤ 65536) (J Jx : List Nat → World → Prop) (h2 : 2 ≤ n) (W : World) (hM : M ≤ W.heap.size)
    (hJ : AbidesFrom W.heap.size J) (hlen : ∀ pre W1, J pre W1 → pre.length < N)
    (hY : ∀ pre x W1, J pre W1 → YieldAt Fence.wide (n - 1) Try.prog l #[.agg (ints .u8 (nn (padB key nc x))).toArray] W1 fun e W' =>
      (e = .returned (.bool true) ∧ J (pre ++ [x]) W' ∧ KpB Bn M W1 W') ∨ (e = .returned (.bool false) ∧ Jx (pre ++ [x]) W'))
    (hBk : Blk W Bk 23 (ints .u8 (nn key))) (hBn : Blk W Bn 28 (ints .u8 (nn nc))) (h0 : J [] W) :
    CallsIn Fence.wide n Try.prog 45 #[.func (.yield l) #[] #[], .pointer (some ⟨Bk, 0, none⟩), .pointer (some ⟨Bn, 0, none⟩)] W fun e W' => (∃ v, e = .returned v) ∧
      ∃ pre, (∃ k, pre = List.range k) ∧ Jx pre W' := by
  have lE : (expandL key).length = 60 := expandL_len _
  have wE : Words (expandL key) := ksN_words hkb 52 (by omega)
  have hEx := fun w => c_Expand key w hk hkb
  have hNx := fun (i : Nat) w (hi : i < 2 ^ 64) => s_Next nc i w hn hnb hi
  have hEn := fun (i : Nat) w => c_Encrypt (expandL key) (nextL nc i) w lE wE (nextL_len _ _) (nextL_bys _ _)
  have hpb : ∀ i, encL (expandL key) (nextL nc i) = padB key nc i := fun _ => rfl
  have HPB := Lib.hid hpb
  have HEx := Lib.hid hEx
  have HNx := Lib.hid hNx
  have HEn := Lib.hid hEn
  have HK := Lib.hid hk
  have HN := Lib.hid hn
  have HE := Lib.hid lE
  clear hEx hNx hEn lE hk hn hpb wE
  generalize expandL key = E at *
  refine callsIn_of_wp Try.func45 rfl trivial ?_ rfl
  simp only [Try.ntmps45, List.size_toArray, List.length_cons, List.length_nil, Nat.reduceAdd, Nat.reduceSub, Array.replicate_succ, Array.replicate_zero, List.push_toArray, List.append_toArray, List.nil_append, List.cons_append]
  refine wpIn_wide.2 ?_
  go_wp2_with (refine wpList_load_blk rfl 23 _ rfl _ rfl hBk Try.underlying23 rfl (by rw [size_hash, ints_length, nn_length, HK.out]) ?_)
  refine (HEx.out _).mono ?_
  rintro e w1 ⟨rfl, hb1⟩
  go_wp2_with (first | (refine wpList_alloc_at rfl 26 rfl _ _ (alloc_k60 _) ?_) | (refine wpList_store_blk rfl 26 _ _ rfl w1.heap.size (ints .u32 (nn E)) rfl rfl (Blk.new' w1 26 (ints .u32 (nn (zerN 60))) rfl) (by rw [size_k60, ints_length, nn_length, HE.out]) (by rw [ints_length, ints_length, nn_length, nn_length, HE.out, zerN_len]) (ints_one _ _) ?_))
  have hlZ : (ints .u32 (nn E)).length = (ints .u32 (nn (zerN 60))).length := by rw [ints_length, ints_length, nn_length, nn_length, HE.out, zerN_len]
  have g4 := (Blk.new' w1 26 (ints .u32 (nn (zerN 60))) rfl).row (ints .u32 (nn E)) hlZ
  have gn := ((hBn.below hb1 hBn.lt).alloc (.cells (ints .u32 (nn (zerN 60))).toArray 26)).rowOther (show Bn ≠ w1.heap.size by have := hBn.lt; have := hb1.size; omega) (ints .u32 (nn E)).toArray
  have hbW : Below W.heap.size W ((w1.alloc (.cells (ints .u32 (nn (zerN 60))).toArray 26)).setRow w1.heap.size (ints .u32 (nn E)).toArray) := below_setRow (hb1.alloc hb1.size _) hb1.size _
  have hJ0 : J [] _ := hJ [] W _ none h0 (grown_below hbW) (fun r e => by cases e)
  have hM4 : M ≤ w1.heap.size := Nat.le_trans hM hb1.size
  have hW4 : W.heap.size ≤ w1.heap.size := hb1.size
  clear hBk hBn hb1 hbW hlZ h0 HEx
  generalize World.setRow _ _ _ = w2 at *
  generalize w1.heap.size = B4 at *
  refine (wpIn_wide (n := n)).1 ?_
  gi_loopw [5] (fun i wr => ∃ k : Nat, i = .int .u64 (k : Int) ∧ J (List.range k) wr ∧ Blk wr Bn 28 (ints .u8 (nn nc)) ∧ Blk wr B4 26 (ints .u32 (nn E))) (fun i _ => N - (intOf i).toNat)
  case atStart => exact ⟨0, rfl, hJ0, gn, g4⟩
  case round =>
    obtain ⟨k, rfl, hJk, gn', g4'⟩ := hrel
    clear gn g4 hJ0
    have hkN := hlen _ _ hJk
    rw [List.length_range] at hkN
    have hN1 : ∀ wx, NewBut wr wx → Calls Try.prog 18 #[.agg (ints .u8 (nn nc)).toArray, .int .u64 (k : Int)] wx fun e w' => e = .returned (.agg (ints .u8 (nn (nextL nc k))).toArray) ∧ NewBut wr w' := fun wx h =>
      (HNx.out k wx (by omega)).mono fun _ _ ⟨e1, e2⟩ => ⟨e1, h.trans (e2.mono h.size)⟩
    have hE1 : ∀ wx, NewBut wr wx → Calls Try.prog 12 #[.agg (ints .u32 (nn E)).toArray, .agg (ints .u8 (nn (nextL nc k))).toArray] wx fun e w' => e = .returned (.agg (ints .u8 (nn (padB key nc k))).toArray) ∧ NewBut wr w' := fun wx h =>
      (HEn.out k wx).mono fun _ _ ⟨e1, e2⟩ => ⟨by rw [← HPB.out]; exact e1, h.trans (e2.mono h.size)⟩
    have hB0 : ∀ wx, NewBut wr wx → wx.rangeAt Bn 0 (ints .u8 (nn nc)) := fun wx h => (gn'.below h gn'.lt).whole
    have hB4 : ∀ wx, NewBut wr wx → wx.rangeAt B4 0 (ints .u32 (nn E)) := fun wx h => (g4'.below h g4'.lt).whole
    have HN1 := Lib.hid hN1
    have HE1 := Lib.hid hE1
    have HB0 := Lib.hid hB0
    have HB4 := Lib.hid hB4
    clear hN1 hE1 hB0 hB4
    gi_wp2_with fail
    refine regionIn_wide_tail (C := NewBut wr) 6 mixed (by kernel_rfl) (by kernel_rfl) (show Below _ _ _ from (Below.refl _ _).drew) ?_
    simp only [List.take_succ_cons, List.take_zero, List.drop_succ_cons, List.drop_zero]
    repeat (first | (refine wpQuiet_load_row rfl 26 _ rfl B4 0 rfl (ints .u32 (nn E)) (fun wx h => HB4.out wx h) Try.underlying26 rfl (by rw [size_k60, ints_length, nn_length, HE.out]) ?_) | (refine wpQuiet_load_row rfl 28 _ rfl Bn 0 rfl (ints .u8 (nn nc)) (fun wx h => HB0.out wx h) Try.underlying28 rfl (by rw [size_b16, ints_length, nn_length, HN.out]) ?_) | (refine wpQuiet_step (fun K' hK' => ?_); go_simp; first | (refine ⟨_, fun _ _ => rfl, hK' _ ?_⟩; clear hK' K') | ((with_reducible refine ⟨_, fun wx hx => HN1.out wx hx, hK' _ ?_⟩); clear hK' K') | ((with_reducible refine ⟨_, fun wx hx => HE1.out wx hx, hK' _ ?_⟩); clear hK' K')))
    refine wpQuiet_nil ?_
    intro w5 hb5
    have hJ5 : J (List.range k) w5 := hJ _ wr _ none hJk (grown_below hb5) (fun r e => by cases e)
    have gn5 := gn'.below hb5 gn'.lt
    have g45 := g4'.below hb5 g4'.lt
    have hs5 := hb5.size
    clear hJk gn' g4' HN1 HE1 HB0 HB4 hb5
    obtain ⟨fn, tmps, assign, body, hy, hR⟩ := hY _ k w5 hJ5
    rw [← List.range_succ] at hR
    have hk1 : (k : Int) < 65536 := by omega
    have hk0 : (0 : Int) ≤ (k : Int) := by omega
    gi_wp2
    first | refine hR.mono ?_ | refine ⟨fun _ => by omega, hR.mono ?_⟩
    rintro e W3 (⟨rfl, hJ3, hk3⟩ | ⟨rfl, hJx3⟩)
    · gi_wp2
      go_roundw
      case rel => exact ⟨k + 1, by go_num, hJ3, hk3 _ _ (.inl rfl) gn5 rfl, hk3 _ _ (.inr hM4) g45 rfl⟩
      case measure => simp [intOf]; omega
    · gi_wp2
      refine bodyPost_ret (results_none rfl _ _ _) rfl ?_
      exact ⟨⟨_, rfl⟩, _, ⟨k + 1, rfl⟩, hJx3⟩
end Go.Proofs.Ytgagafefhmofjaa
