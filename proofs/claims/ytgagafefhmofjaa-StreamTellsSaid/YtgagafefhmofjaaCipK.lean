/- Walk of cipher's turned. -/
import Derived.Test.YtgagafefhmofjaaCipH
namespace Go.Proofs.Ytgagafefhmofjaa
open Go.RowKit Go.Shelf
set_option linter.unusedVariables false

/-- the rows turned, each by its number of places -/
def turnAt (b : List Nat) (i : Nat) : Nat := b.getD ((i / 4 + i % 4) % 4 * 4 + i % 4) 0
def turnP (b : List Nat) : Nat → List Nat
  | 0 => b
  | i + 1 => (turnP b i).set i (turnAt b i)
def turnL (b : List Nat) : List Nat := turnP b 16
theorem turnP_len (b : List Nat) : ∀ i, (turnP b i).length = b.length
  | 0 => rfl
  | i + 1 => by simp [turnP, turnP_len b i]
theorem turnP_bys {b : List Nat} (h : Bys b) : ∀ i, Bys (turnP b i)
  | 0 => h
  | i + 1 => (turnP_bys h i).set _ _ (h _)
set_option maxHeartbeats 2000000 in
set_option maxRecDepth 100000 in
theorem c_turned (b : List Nat) (w : World) (hb : b.length = 16) :
    Calls Try.prog 32 #[.agg (ints .u8 (nn b)).toArray] w fun e w' => e = .returned (.agg (ints .u8 (nn (turnL b))).toArray) ∧ Below w.heap.size w w' := by
  obtain ⟨L, hL⟩ : ∃ L, turnL b = L := ⟨_, rfl⟩
  have hLL : L.length = 16 := by rw [← hL]; exact (turnP_len _ _).trans hb
  rw [hL]
  have HL := Lib.hid hL
  have HLL := Lib.hid hLL
  have HB := Lib.hid hb
  clear hL hLL hb
  have hk0 : Blk (w.alloc (.cells (ints .u8 (nn b)).toArray 28)) w.heap.size 28 (ints .u8 (nn b)) := Blk.new _ _ _
  have hk1 := hk0.alloc (.cells (ints .u8 (nn (zerN 16))).toArray 28)
  have hk2 : Blk ((w.alloc (.cells (ints .u8 (nn b)).toArray 28)).alloc (.cells (ints .u8 (nn (zerN 16))).toArray 28)) (w.heap.size + 1) 28 (ints .u8 (nn (zerN 16))) := Blk.new2 _ _ _ _ rfl
  have hb2 : Below w.heap.size w ((w.alloc (.cells (ints .u8 (nn b)).toArray 28)).alloc (.cells (ints .u8 (nn (zerN 16))).toArray 28)) := ((Below.refl _ _).alloc (Nat.le_refl _) _).alloc (by simp) _
  have hn2 : ((w.alloc (.cells (ints .u8 (nn b)).toArray 28)).alloc (.cells (ints .u8 (nn (zerN 16))).toArray 28)).heap.size = w.heap.size + 1 + 1 := by simp
  go_enter Try.func32, Try.ntmps32
  go_wp2_with (first | (refine wpList_alloc_at rfl 28 rfl _ _ (alloc_b16 _) ?_) | (refine wpList_load_blk rfl 28 _ rfl _ rfl hk1 Try.underlying28 rfl (by rw [size_b16, ints_length, nn_length, HB.out]) ?_) | (refine wpList_store_blk rfl 28 _ _ rfl _ (ints .u8 (nn b)) rfl rfl (Blk.new' _ 28 (ints .u8 (nn (zerN 16))) rfl) (by rw [size_b16, ints_length, nn_length, HB.out]) (by rw [ints_length, ints_length, nn_length, nn_length, HB.out, zerN_len]) (ints_one _ _) ?_))
  have h3 : Blk ((((w.alloc (.cells (ints .u8 (nn b)).toArray 28)).alloc (.cells (ints .u8 (nn (zerN 16))).toArray 28)).alloc (.cells (ints .u8 (nn (zerN 16))).toArray 28)).setRow (w.heap.size + 1 + 1) (ints .u8 (nn b)).toArray) (w.heap.size + 1 + 1) 28 (ints .u8 (nn (turnP b 0))) := by
    have := Blk.new' ((w.alloc (.cells (ints .u8 (nn b)).toArray 28)).alloc (.cells (ints .u8 (nn (zerN 16))).toArray 28)) 28 (ints .u8 (nn (zerN 16))) rfl
    rw [hn2] at this
    exact this.row (ints .u8 (nn b)) (by rw [ints_length, ints_length, nn_length, nn_length, HB.out, zerN_len])
  have h1 := (hk1.alloc (.cells (ints .u8 (nn (zerN 16))).toArray 28)).rowOther (show w.heap.size ≠ w.heap.size + 1 + 1 by omega) (ints .u8 (nn b)).toArray
  have h2 := (hk2.alloc (.cells (ints .u8 (nn (zerN 16))).toArray 28)).rowOther (show w.heap.size + 1 ≠ w.heap.size + 1 + 1 by omega) (ints .u8 (nn b)).toArray
  have hb3 := below_setRow (hb2.alloc (by rw [hn2]; omega) (.cells (ints .u8 (nn (zerN 16))).toArray 28)) (show w.heap.size ≤ w.heap.size + 1 + 1 by omega) (ints .u8 (nn b)).toArray
  generalize World.setRow _ _ _ = w4 at *
  clear hk0 hk1 hk2 hb2 hn2
  go_loopw [4, 5, 6, 8] (fun _ _ _ i wr => ∃ k : Nat, k ≤ 16 ∧ i = .int .i64 k ∧ Blk wr w.heap.size 28 (ints .u8 (nn b)) ∧ Blk wr (w.heap.size + 1) 28 (ints .u8 (nn (zerN 16))) ∧ Blk wr (w.heap.size + 1 + 1) 28 (ints .u8 (nn (turnP b k))) ∧ Below w.heap.size w wr) (fun _ _ _ i _ => 16 - (intOf i).toNat)
  case atStart => exact ⟨0, by omega, rfl, h1, h2, h3, hb3⟩
  case round =>
    obtain ⟨k, hk16, rfl, g1, g2, g3, hb⟩ := hrel
    clear h1 h2 h3 hb3
    by_cases hlt : k < 16
    · have hs : turnP b (k + 1) = (turnP b k).set k (turnAt b k) := rfl
      have hl := turnP_len b k
      have hc1 := g1.nat (j := (k / 4 + k % 4) % 4 * 4 + k % 4) (by rw [HB.out]; omega)
      rw [show b.getD ((k / 4 + k % 4) % 4 * 4 + k % 4) 0 = turnAt b k from rfl] at hc1
      have hc := g3.nat (j := k) (by rw [hl, HB.out]; omega)
      have hfr := g3.free k
      have Hs := Lib.hid hs
      clear hs hl
      generalize turnAt b k = y at *
      generalize turnP b k = l at *
      obtain ⟨c, hc4, hcI⟩ : ∃ c : Nat, c < 4 ∧ (k : Int) / 4 = (c : Int) ∧ k / 4 = c := ⟨k / 4, by omega, by omega, rfl⟩
      obtain ⟨r, hr4, hrI⟩ : ∃ r : Nat, r < 4 ∧ (k : Int) % 4 = (r : Int) ∧ k % 4 = r := ⟨k % 4, by omega, by omega, rfl⟩
      rw [hcI.2, hrI.2] at hc1
      have j1 := hcI.1
      have j2 := hrI.1
      clear hcI hrI
      have j3 : ((c : Int) + (r : Int)) % 4 * 4 + (r : Int) = (((c + r) % 4 * 4 + r : Nat) : Int) := by omega
      have j4 : (((c : Int) + (r : Int)) % 4 * 4 + (r : Int)).toNat = (c + r) % 4 * 4 + r := by omega
      have j5 : (0 : Int) ≤ ((c : Int) + (r : Int)) % 4 * 4 + (r : Int) := by omega
      have j6 : ((c : Int) + (r : Int)) % 4 * 4 + (r : Int) < 16 := by omega
      have j7 : (k : Int) < 16 := by omega
      clear j3
      go_wp2
      go_roundw
      case rel =>
        refine ⟨k + 1, by omega, by go_num, g1.other (by simp <;> omega) _, g2.other (by simp <;> omega) _, ?_, hb.setCell (by simp <;> omega) _⟩
        rw [Hs.out]
        exact g3.setNat k y
      case measure => simp [intOf]; omega
    · obtain rfl : k = 16 := by omega
      have hE : Blk wr (w.heap.size + 1 + 1) 28 (ints .u8 (nn L)) := by rw [← HL.out]; exact g3
      clear g3
      go_wp2_with (first | (refine wpList_load_blk rfl 28 _ rfl _ rfl hE Try.underlying28 rfl (by rw [size_b16, ints_length, nn_length, HLL.out]) ?_) | (refine wpList_store_blk rfl 28 _ _ rfl _ _ rfl rfl g2 (by rw [size_b16, ints_length, nn_length, HLL.out]) (by rw [ints_length, ints_length, nn_length, nn_length, HLL.out, zerN_len]) (ints_one _ _) ?_))
      refine bodyPost_ret (v := .agg (ints .u8 (nn L)).toArray) (results_cell_blk rfl _ _ _ rfl (g2.row (ints .u8 (nn L)) (by rw [ints_length, ints_length, nn_length, nn_length, HLL.out, zerN_len])) Try.underlying28 rfl (by rw [size_b16, ints_length, nn_length, HLL.out])) rfl ⟨rfl, below_setRow hb (by omega) _⟩
end Go.Proofs.Ytgagafefhmofjaa
