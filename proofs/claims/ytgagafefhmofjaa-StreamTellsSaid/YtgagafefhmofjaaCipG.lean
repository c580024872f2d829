/- Walks of cipher's columns, put, turned. -/
import Derived.Test.YtgagafefhmofjaaCipF
import Derived.Test.YtgagafefhmofjaaRange
namespace Go.Proofs.Ytgagafefhmofjaa
open Go.RowKit Go.Shelf
set_option linter.unusedVariables false

attribute [local go_sem] Oper.semAt_some

/-- the first k columns' numbers -/
def cols (k : Nat) : List (Fin 4) := (List.finRange 4).take k
theorem cols_succ {k : Nat} (h : k < 4) : cols (k + 1) = cols k ++ [⟨k, h⟩] := by
  have h' : ∀ m : Fin 4, cols (m.val + 1) = cols m.val ++ [m] := by decide
  exact h' ⟨k, h⟩
theorem cols_len (k : Nat) (h : k ≤ 4) : (cols k).length = k := by simp [cols]; omega
theorem size_b16 : (Try.prog.info? 28).map (·.size) = some 16 := by kernel_rfl

set_option maxRecDepth 100000 in
set_option maxHeartbeats 2000000 in
/-- the iterator, for every body that keeps its block -/
theorem c_cols_in (n l Bs : Nat) (bl : List Nat) (hbl : bl.length = 16) (hby : Bys bl) (J Jx : List (Fin 4) → World → Prop) (hn : 2 ≤ n)
    (hY : ∀ pre x W, J pre W → pre.length < 4 → YieldAt Fence.wide (n - 1) Try.prog l #[.int .i64 ((x : Fin 4).val : Int), .int .u32 ((kw bl x.val : Nat) : Int)] W fun e W' =>
      (e = .returned (.bool true) ∧ J (pre ++ [x]) W' ∧ (∀ o, W.heap[Bs]? = some o → W'.heap[Bs]? = some o)) ∨ (e = .returned (.bool false) ∧ Jx (pre ++ [x]) W'))
    (W : World) (hB : Blk W Bs 28 (ints .u8 (nn bl))) (h0 : J [] W) :
    CallsIn Fence.wide n Try.prog 46 #[.func (.yield l) #[] #[], .pointer (some ⟨Bs, 0, none⟩)] W fun e W' => (∃ v, e = .returned v) ∧
      ((∃ ys, ys = cols 4 ∧ J ys W') ∨ (∃ pre, (∃ k, k ≤ 4 ∧ pre = cols k) ∧ Jx pre W')) := by
  have HBL := Lib.hid hbl
  clear hbl
  refine callsIn_of_wp Try.func46 rfl trivial ?_ rfl
  simp only [Try.ntmps46, List.size_toArray, List.length_cons, List.length_nil, Nat.reduceAdd, Nat.reduceSub, Array.replicate_succ, Array.replicate_zero, List.push_toArray, List.append_toArray, List.nil_append, List.cons_append]
  gi_wp2
  gi_loopw [3, 4] (fun _ i wr => ∃ k : Nat, k ≤ 4 ∧ i = .int .i64 k ∧ J (cols k) wr ∧ Blk wr Bs 28 (ints .u8 (nn bl)))
    (fun _ i _ => 4 - (intOf i).toNat)
  case atStart => exact ⟨0, Nat.zero_le _, rfl, h0, hB⟩
  case round =>
    obtain ⟨k, hk, rfl, hJs, hb⟩ := hrel
    by_cases hlt : k < 4
    · have hWc : ∀ cap, Calls Try.prog 24 #[.slice (some ⟨Bs, 4 * k, none⟩) 4 cap] wr fun e w' => e = .returned (.int .u32 ((kw bl k : Nat) : Int)) ∧ wr = w' := fun cap =>
        c_word Bs (4 * k) cap (four bl k) wr (four_bys hby k) (fun j hj => by rw [four_getD _ _ _ hj]; exact hb.nat (by rw [HBL.out]; omega))
      have hsl := fun w' => run_sliceAt_cut (P := Try.prog) w' 28 5 16 Bs (4 * k) (4 * k + 4) (4 * (k : Int)) (4 * (k : Int) + 4) Try.underlying28 size_u8 (by omega) (by omega) (by omega) (by omega) (by omega)
      rw [show 4 * k + 4 - 4 * k = 4 by omega] at hsl
      have HW := Lib.hid hWc
      clear hWc
      obtain ⟨fn, tmps, assign, body, hy, hR⟩ := hY _ ⟨k, hlt⟩ wr hJs (by rw [cols_len _ (by omega)]; exact hlt)
      dsimp only at hy
      have i1 : (0 : Int) ≤ 4 * (k : Int) := by omega
      have i6 : (k : Int) < 4 := by omega
      gi_wp2_with fail
      refine ⟨trivial, fun _ => by omega, (callsIn_wide.2 (HW.out _)).mono ?_⟩
      rintro e w' ⟨rfl, rfl⟩
      have hd : (Fence.wide.depth.isSome = true) = False := by simp [Fence.wide]
      gi_wp2
      first | refine hR.mono ?_ | refine ⟨fun _ => by omega, hR.mono ?_⟩
      rintro e W3 (⟨rfl, hJ3, hk3⟩ | ⟨rfl, hJx3⟩)
      · gi_wp2
        go_roundw
        case rel => exact ⟨k + 1, by omega, by simp, by rw [cols_succ hlt]; exact hJ3, hk3 _ hb⟩
        case measure => simp [intOf]; omega
      · gi_wp2
        refine bodyPost_ret (results_none rfl _ _ _) rfl ?_
        exact ⟨⟨_, rfl⟩, .inr ⟨_, ⟨k + 1, by omega, (cols_succ hlt).symm⟩, hJx3⟩⟩
    · obtain rfl : k = 4 := by omega
      gi_wp2
      go_end0
      exact ⟨⟨_, rfl⟩, .inl ⟨_, rfl, hJs⟩⟩

set_option maxRecDepth 100000 in
theorem c_columns (V : Array Value) (w : World) :
    Calls Try.prog 41 #[.agg V] w fun e w' => e = .returned (.func (.func 46) #[] #[.pointer (some ⟨w.heap.size, 0, none⟩)]) ∧ w' = w.alloc (.cells V 28) := by
  go_enter Try.func41, Try.ntmps41
  go_wp2
  go_ret
  exact ⟨rfl, rfl⟩
theorem c_stops (n Bs : Nat) (bl : List Nat) (hbl : bl.length = 16) (hby : Bys bl) (hn : 2 ≤ n) (w : World) (hB : Blk w Bs 28 (ints .u8 (nn bl))) :
    SeqStopsK Fence.wide n Try.prog 46 #[.pointer (some ⟨Bs, 0, none⟩)] (fun x : Fin 4 => #[Value.int .i64 (x.val : Int), Value.int .u32 ((kw bl x.val : Nat) : Int)]) (fun A B => ∀ o, A.heap[Bs]? = some o → B.heap[Bs]? = some o) (fun ys => ys = cols 4) (fun pre => ∃ k, k ≤ 4 ∧ pre = cols k) 4 w := fun l J Jx W hW _ _ hY h0 =>
  c_cols_in n l Bs bl hbl hby J Jx hn hY W (hB.below hW hB.lt) h0

/-- b with w as its column c, the first i bytes of it -/
def putP (b : List Nat) (c w : Nat) : Nat → List Nat
  | 0 => b
  | i + 1 => (putP b c w i).set (4 * c + i) (w / 2 ^ (24 - 8 * i) % 256)
def putL (b : List Nat) (c w : Nat) : List Nat := putP b c w 4
theorem putP_len (b : List Nat) (c w : Nat) : ∀ i, (putP b c w i).length = b.length
  | 0 => rfl
  | i + 1 => by simp [putP, putP_len b c w i]
theorem putL_len (b : List Nat) (c w : Nat) : (putL b c w).length = b.length := putP_len _ _ _ _
theorem Bys.set {l : List Nat} (h : Bys l) (i x : Nat) (hx : x < 256) : Bys (l.set i x) := by
  intro j
  rw [List.getD_eq_getElem?_getD, List.getElem?_set]
  split
  · split
    · exact hx
    · decide
  · rw [← List.getD_eq_getElem?_getD]; exact h j
theorem putP_bys {b : List Nat} (h : Bys b) (c w : Nat) : ∀ i, Bys (putP b c w i)
  | 0 => h
  | i + 1 => (putP_bys h c w i).set _ _ (Nat.mod_lt _ (by omega))
theorem putL_bys {b : List Nat} (h : Bys b) (c w : Nat) : Bys (putL b c w) := putP_bys h c w 4

set_option maxHeartbeats 2000000 in
set_option maxRecDepth 100000 in
theorem c_put (b : List Nat) (c wd : Nat) (w : World) (hb : b.length = 16) (hc : c < 4) :
    Calls Try.prog 42 #[.agg (ints .u8 (nn b)).toArray, .int .i64 (c : Int), .int .u32 (wd : Int)] w fun e w' => e = .returned (.agg (ints .u8 (nn (putL b c wd))).toArray) ∧ Below w.heap.size w w' := by
  obtain ⟨L, hL⟩ : ∃ L, putL b c wd = L := ⟨_, rfl⟩
  have hLL : L.length = 16 := by rw [← hL, putL_len, hb]
  rw [hL]
  have HL := Lib.hid hL
  have HLL := Lib.hid hLL
  have HB := Lib.hid hb
  clear hL hLL hb
  have hk0 : Blk (w.alloc (.cells (ints .u8 (nn b)).toArray 28)) w.heap.size 28 (ints .u8 (nn b)) := Blk.new _ _ _
  generalize hBV : (ints .u8 (nn b)).toArray = BV at *
  clear hBV
  go_enter Try.func42, Try.ntmps42
  go_wp2
  have hz0 : Blk ((w.alloc (.cells BV 28)).alloc (.cells (ints .u8 (nn (List.replicate 16 0))).toArray 28)) (w.heap.size + 1) 28 (ints .u8 (nn (List.replicate 16 0))) := Blk.new2 _ _ _ _ rfl
  have hk1 := hk0.alloc (.cells (ints .u8 (nn (List.replicate 16 0))).toArray 28)
  have hb1 : Below w.heap.size w ((w.alloc (.cells BV 28)).alloc (.cells (ints .u8 (nn (List.replicate 16 0))).toArray 28)) := ((Below.refl _ _).alloc (Nat.le_refl _) _).alloc (by simp) _
  have ez : (ints .u8 (nn (List.replicate 16 0))).toArray = #[.int .u8 0, .int .u8 0, .int .u8 0, .int .u8 0, .int .u8 0, .int .u8 0, .int .u8 0, .int .u8 0, .int .u8 0, .int .u8 0, .int .u8 0, .int .u8 0, .int .u8 0, .int .u8 0, .int .u8 0, .int .u8 0] := rfl
  rw [ez] at hz0 hk1 hb1
  clear ez hk0
  generalize World.alloc (World.alloc w _) _ = w2 at *
  go_loopw [7, 8] (fun _ i wr => ∃ k : Nat, k ≤ 4 ∧ i = .int .i64 k ∧ Blk wr w.heap.size 28 (ints .u8 (nn (putP b c wd k))) ∧ Blk wr (w.heap.size + 1) 28 (ints .u8 (nn (List.replicate 16 0))) ∧ Below w.heap.size w wr) (fun _ i _ => 4 - (intOf i).toNat)
  case atStart => exact ⟨0, by omega, rfl, hk1, hz0, hb1⟩
  case round =>
    obtain ⟨k, hk4, rfl, hf, hz, hb⟩ := hrel
    clear hk1 hz0 hb1
    by_cases hlt : k < 4
    · have hs : putP b c wd (k + 1) = (putP b c wd k).set (4 * c + k) (wd / 2 ^ (24 - 8 * k) % 256) := rfl
      have hl := putP_len b c wd k
      have hcell := hf.nat (j := 4 * c + k) (by rw [hl, HB.out]; omega)
      have hfr := hf.free (4 * c + k)
      have Hs := Lib.hid hs
      clear hs hl
      generalize putP b c wd k = l at *
      have i1 : (0 : Int) ≤ 4 * (c : Int) + (k : Int) := by omega
      have i2 : (4 * (c : Int) + (k : Int)).toNat = 4 * c + k := by omega
      have i3 : 4 * (c : Int) + (k : Int) < 16 := by omega
      have i4 : (0 : Int) ≤ 24 - 8 * (k : Int) := by omega
      have i5 : (24 - 8 * (k : Int)).toNat = 24 - 8 * k := by omega
      have i6 : 8 * (k : Int) ≤ 24 := by omega
      have i7 : (c : Int) < 4 := by omega
      have i8 : (k : Int) < 4 := by omega
      have hv : (wd : Int) / 2 ^ (24 - 8 * k) % 256 = ((wd / 2 ^ (24 - 8 * k) % 256 : Nat) : Int) := by rw [Int.natCast_emod, Int.natCast_ediv, pow_cast]; rfl
      generalize wd / 2 ^ (24 - 8 * k) % 256 = y at *
      go_wp2
      go_roundw
      case rel =>
        refine ⟨k + 1, by omega, by go_num, ?_, hz.other (by simp) _, hb.setCell (by simp) _⟩
        rw [Hs.out]
        exact hf.setNat (4 * c + k) y
      case measure => simp [intOf]; omega
    · obtain rfl : k = 4 := by omega
      have hE : Blk wr w.heap.size 28 (ints .u8 (nn L)) := by rw [← HL.out]; exact hf
      clear hf
      go_wp2_with (first | (refine wpList_load_blk rfl 28 _ rfl _ rfl hE Try.underlying28 rfl (by rw [size_b16, ints_length, nn_length, HLL.out]) ?_) | (refine wpList_store_blk rfl 28 _ _ rfl _ _ rfl rfl hz (by rw [size_b16, ints_length, nn_length, HLL.out]) (by rw [ints_length, ints_length, nn_length, nn_length, HLL.out]; rfl) (ints_one _ _) ?_))
      refine bodyPost_ret (v := .agg (ints .u8 (nn L)).toArray) (results_cell_blk rfl _ _ _ rfl (hz.row (ints .u8 (nn L)) (by rw [ints_length, ints_length, nn_length, nn_length, HLL.out]; rfl)) Try.underlying28 rfl (by rw [size_b16, ints_length, nn_length, HLL.out])) rfl ⟨rfl, below_setRow hb (by omega) _⟩
end Go.Proofs.Ytgagafefhmofjaa
