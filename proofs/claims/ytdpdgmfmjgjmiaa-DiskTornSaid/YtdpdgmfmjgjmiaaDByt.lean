/- Hashes as values: their bytes as a text, held against one another. -/
import Derived.Test.YtdpdgmfmjgjmiaaG2
import Derived.Test.YtdpdgmfmjgjmiaaG1
import Derived.Stop.BytesEq
namespace Go.Proofs.Ytdpdgmfmjgjmiaa
open Go.RowKit
set_option linter.unusedVariables false

theorem range_new (w : World) (t : TypeId) (l : List Int) : (w.alloc (.cells (ints .u8 l).toArray t)).rangeAt w.heap.size 0 (ints .u8 l) :=
  Blk.range (x := []) (y := ints .u8 l) (z := []) (by simpa using Blk.new w t (ints .u8 l))
theorem alloc_ge (w : World) (o : Obj) {B : Nat} (h : B ≤ w.heap.size) : B ≤ (w.alloc o).heap.size := by
  simp; omega
theorem ints_cells (l : List Int) (h : Octets l) : ints .u8 l = (l.map fun n => UInt8.ofNat n.toNat).map Extern.Stop.cell := by
  unfold ints
  rw [List.map_map]
  refine List.map_congr_left fun n hn => ?_
  obtain ⟨h0, h1⟩ := h n hn
  show Value.int .u8 n = Value.int .u8 ((UInt8.ofNat n.toNat).toNat : Int)
  congr 1
  rw [UInt8.toNat_ofNat']
  omega
end Go.Proofs.Ytdpdgmfmjgjmiaa
