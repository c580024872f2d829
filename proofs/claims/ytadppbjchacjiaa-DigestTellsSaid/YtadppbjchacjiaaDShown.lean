/- The anchor: the hash of nothing. -/
import Derived.Test.YtadppbjchacjiaaDW6
namespace Go.Proofs.Ytadppbjchacjiaa
open Go.RowKit
set_option linter.unusedVariables false

theorem cell_setRow_new {w : World} (t : TypeId) (k : IntKind) (c : Array Value) (l : List Int) (j : Nat) (x : Int) (hj : j < l.length) (hx : l.getD j 0 = x) :
    ((w.alloc (.cells c t)).setRow w.heap.size (ints k l).toArray).cell? ⟨w.heap.size, j, none⟩ = some (.int k x) := by
  have h : Blk (w.alloc (.cells c t)) w.heap.size t c.toList := Blk.new' w t c.toList (by simp)
  have h2 : Blk ((w.alloc (.cells c t)).setRow w.heap.size (ints k l).toArray) w.heap.size t (ints k l) := setRow_heap _ _ _ _ _ _ h
  rw [h2.int hj, hx]
def empt : ByteArray := ⟨#[]⟩
theorem hash_empty : (shaSumOf kTable startL empt).getD 0 0 = 227 ∧ (shaSumOf kTable startL empt).getD 1 0 = 176 ∧ (shaSumOf kTable startL empt).getD 31 0 = 85 := by decide +kernel
theorem shaSumOf_len (K V : List Int) (s : ByteArray) : (shaSumOf K V s).length = 32 := hashL_len _

set_option maxHeartbeats 1000000 in
set_option maxRecDepth 100000 in
theorem l_shown (w : World) :
    Calls Try.prog 8 #[] w fun e w' => e = .returned (.bool true) ∧ Below w.heap.size w w' := by
  have hS : ∀ w, Calls Try.prog 9 #[.string ⟨#[]⟩] w fun e w' => e = .returned (.agg (ints .u8 (shaSumOf kTable startL empt)).toArray) ∧ Below w.heap.size w w' := fun w => d_Sum ⟨#[]⟩ w (by decide)
  have h := hash_empty
  have hl := shaSumOf_len kTable startL empt
  generalize shaSumOf kTable startL empt = H at *
  obtain ⟨h0, h1, h31⟩ := h
  have HS := Lib.hid hS
  have HL := Lib.hid hl
  have H0 := Lib.hid h0
  have H1 := Lib.hid h1
  have H31 := Lib.hid h31
  clear hS hl h0 h1 h31
  go_enter Try.func8, Try.ntmps8
  go_wp2_with fail
  refine (HS.out _).mono ?_
  rintro e w1 ⟨rfl, hb1⟩
  have c0 := fun c => cell_setRow_new (w := w1) 23 .u8 c H 0 227 (by rw [HL.out]; omega) H0.out
  have c1 := fun c => cell_setRow_new (w := w1) 23 .u8 c H 1 176 (by rw [HL.out]; omega) H1.out
  have c31 := fun c => cell_setRow_new (w := w1) 23 .u8 c H 31 85 (by rw [HL.out]; omega) H31.out
  go_wp2_with (first | (refine wpList_store_blk rfl 23 _ _ rfl w1.heap.size (ints .u8 H) rfl rfl (Blk.new' w1 23 (ints .u8 (zer 32)) rfl) (by rw [size_hash]; exact congrArg some (by rw [ints_length, HL.out])) (by rw [ints_length, ints_length, HL.out]; rfl) (ints_one _ _) ?_))
  go_ret
  exact ⟨rfl, below_setRow (hb1.alloc hb1.size _) hb1.size _⟩
end Go.Proofs.Ytadppbjchacjiaa
