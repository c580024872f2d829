/- Hashes as values: their bytes as a text, held against one another. -/
import Derived.Test.YtloogjdojojehaaG2
import Derived.Test.YtloogjdojojehaaG1
import Derived.Stop.BytesEq
namespace Go.Proofs.Ytloogjdojojehaa
open Go.RowKit
set_option linter.unusedVariables false

theorem range_new (w : World) (t : TypeId) (l : List Int) : (w.alloc (.cells (ints .u8 l).toArray t)).rangeAt w.heap.size 0 (ints .u8 l) :=
  Blk.range (x := []) (y := ints .u8 l) (z := []) (by simpa using Blk.new w t (ints .u8 l))
theorem alloc_ge (w : World) (o : Obj) {B : Nat} (h : B ≤ w.heap.size) : B ≤ (w.alloc o).heap.size := by
  simp; omega
theorem ints_cells (l : List Int) (h : Octets l) : ints .u8 l = (l.map fun n => UInt8.ofNat n.toNat).map Extern.Stop.cell := by
  unfold ints
  rw [List.map_map]
  refine List.map_congr_left fun n hn => ?_
  obtain ⟨h0, h1⟩ := h n hn
  show Value.int .u8 n = Value.int .u8 ((UInt8.ofNat n.toNat).toNat : Int)
  congr 1
  rw [UInt8.toNat_ofNat']
  omega
theorem eql_hash (l : List Int) (h : Octets l) (hl : l.length = 32) (w : World) :
    (binOp .eql 34 (.agg (ints .u8 l).toArray) (.agg (ints .u8 l).toArray)).run Try.prog w = .ok (.bool true) w := by
  have := run_eql_bytes (P := Try.prog) w 34 5 32 Try.underlying34 Try.underlying5 sizeOf_u8 (l.map fun n => UInt8.ofNat n.toNat) (l.map fun n => UInt8.ofNat n.toNat) (by simpa using hl) (by simpa using hl)
  rw [← ints_cells l h] at this
  simpa using this
theorem neq_hash (x y : List Nat) (hx : x.length = 32) (hy : y.length = 32) (b : Bool) (hb : (nn x == nn y) = !b) (w : World) : (binOp .neq 34 (.agg (ints .u8 (nn x)).toArray) (.agg (ints .u8 (nn y)).toArray)).run Try.prog w = .ok (.bool b) w := by
  have h := run_eql_ints (P := Try.prog) w 34 5 32 .u8 Try.underlying34 Try.underlying5 sizeOf_u8 (nn x) (nn y) (by rw [nn_length, hx]) (by rw [nn_length, hy])
  rw [hb] at h
  simp only [binOp, Sem.run_bind] at h ⊢
  cases hr : (Op.equal 34 (.agg (ints .u8 (nn x)).toArray) (.agg (ints .u8 (nn y)).toArray)).run Try.prog w with
  | ok v w' =>
    rw [hr] at h
    simp at h
    simp [h]
  | halt v w' =>
    rw [hr] at h
    simp at h
end Go.Proofs.Ytloogjdojojehaa
