/- Hashes as values: their bytes as a text, held against one another. -/
import Derived.Test.YtahfjfhiejhddaaG2
import Derived.Test.YtahfjfhiejhddaaG1
import Derived.Stop.BytesEq
namespace Go.Proofs.Ytahfjfhiejhddaa
open Go.RowKit
set_option linter.unusedVariables false

theorem range_new (w : World) (t : TypeId) (l : List Int) : (w.alloc (.cells (ints .u8 l).toArray t)).rangeAt w.heap.size 0 (ints .u8 l) :=
  Blk.range (x := []) (y := ints .u8 l) (z := []) (by simpa using Blk.new w t (ints .u8 l))
theorem alloc_ge (w : World) (o : Obj) {B : Nat} (h : B ≤ w.heap.size) : B ≤ (w.alloc o).heap.size := by
  simp; omega
theorem ints_cells (l : List Int) (h : Octets l) : ints .u8 l = (l.map fun n => UInt8.ofNat n.toNat).map Extern.Stop.cell := by
  unfold ints
  rw [List.map_map]
  refine List.map_congr_left fun n hn => ?_
  obtain ⟨h0, h1⟩ := h n hn
  show Value.int .u8 n = Value.int .u8 ((UInt8.ofNat n.toNat).toNat : Int)
  congr 1
  rw [UInt8.toNat_ofNat']
  omega
theorem eql_hash (l : List Int) (h : Octets l) (hl : l.length = 32) (w : World) :
    (binOp .eql 44 (.agg (ints .u8 l).toArray) (.agg (ints .u8 l).toArray)).run Try.prog w = .ok (.bool true) w := by
  have := run_eql_bytes (P := Try.prog) w 44 5 32 Try.underlying44 Try.underlying5 sizeOf_u8 (l.map fun n => UInt8.ofNat n.toNat) (l.map fun n => UInt8.ofNat n.toNat) (by simpa using hl) (by simpa using hl)
  rw [← ints_cells l h] at this
  simpa using this
set_option maxHeartbeats 1000000 in
set_option maxRecDepth 100000 in
theorem r_Bytes (h : List Int) (w : World) (hh : h.length = 32) :
    Calls Try.prog 31 #[.agg (ints .u8 h).toArray] w fun e w' => e = .returned (.string (bs h)) ∧ Below w.heap.size w w' := by
  have HH := Lib.hid hh
  clear hh
  go_enter Try.func31, Try.ntmps31
  go_wp2
  have hh1 : Blk ((w.alloc (.cells (ints .u8 h).toArray 44)).alloc (.cells #[] 5)) w.heap.size 44 (ints .u8 h) := (Blk.new w 44 (ints .u8 h)).alloc _
  have hk : OwnB ((w.alloc (.cells (ints .u8 h).toArray 44)).alloc (.cells #[] 5)) (w.heap.size + 1) 5 (.slice (some ⟨w.heap.size + 1, 0, none⟩) 0 0) (h.take 0) :=
    OwnB.ofBlk (l := []) [] (Blk.new2 w _ 5 (ints .u8 []) rfl) (Nat.le_refl _) rfl (by unfold maxLen; omega)
  have hbw : Below w.heap.size w ((w.alloc (.cells (ints .u8 h).toArray 44)).alloc (.cells #[] 5)) := ((Below.refl _ _).alloc (Nat.le_refl _) _).alloc (by simp) _
  have hs2 : w.heap.size + 1 ≤ ((w.alloc (.cells (ints .u8 h).toArray 44)).alloc (.cells #[] 5)).heap.size := by simp
  generalize World.alloc (World.alloc w _) _ = w2 at *
  go_loopw [3, 4] (fun v i wr => ∃ k : Nat, k ≤ 32 ∧ i = .int .i64 k ∧ OwnB wr (w.heap.size + 1) 5 v (h.take k) ∧ Below (w.heap.size + 1) w2 wr) (fun _ i _ => 32 - (intOf i).toNat)
  case atStart => exact ⟨0, by omega, rfl, hk, Below.refl _ _⟩
  case round =>
    obtain ⟨k, hk32, rfl, hown, hbel⟩ := hrel
    have hbelw : Below w.heap.size w wr := hbw.trans (hbel.mono (by omega))
    by_cases hlt : k < 32
    · have hc := (hh1.below hbel (Nat.lt_succ_self _)).int (j := k) (by rw [HH.out]; omega)
      have hstep : h.take (k + 1) = h.take k ++ [h.getD k 0] := by
        rw [List.take_succ_eq_append_getElem (by rw [HH.out]; omega)]
        simp [HH.out, hlt]
      have hlen : (h.take k).length = k := by rw [List.length_take, HH.out]; omega
      have Hs := Lib.hid hstep
      have Hl := Lib.hid hlen
      clear hstep hlen hk
      generalize h.getD k 0 = x at *
      generalize h.take k = l at *
      have hcap : l.length + [x].length ≤ 140737488355328 := by rw [Hl.out]; simp; omega
      have hsz : w.heap.size + 1 ≤ wr.heap.size := Nat.le_trans hs2 hbel.size
      have hk64 : (k : Int) < 32 := by omega
      go_wp2_with (first | (at_builtin; refine wpList_append_bytes rfl _ _ 45 rfl (w.heap.size + 1) 5 Try.underlying45 info_u8 _ l rfl (hown.alloc _) wr.heap.size 1 1 [x] rfl rfl (range_new wr 5 [x]) hcap (alloc_ge wr _ hsz) ?_; intro v' w4 hown4 hgrow4))
      have hb4 : Below (w.heap.size + 1) w2 w4 := Below.grown (hbel.alloc hsz _) hgrow4 (alloc_ge wr _ hsz) (fun k hk => (hown.lt k hk).1)
      go_roundw
      case rel => exact ⟨k + 1, by omega, by go_num, by rw [Hs.out]; exact hown4, hb4⟩
      case measure => simp [intOf]; omega
    · obtain rfl : k = 32 := by omega
      have hfull : h.take 32 = h := List.take_of_length_le (by rw [HH.out]; exact Nat.le_refl _)
      rw [hfull] at hown
      clear hfull hk
      go_wp2_with (first | (refine wpList_string_own rfl 45 9 5 _ rfl (w.heap.size + 1) _ h rfl Try.underlying45 Try.underlying5 Try.underlying9 hown ?_))
      go_ret
      exact ⟨rfl, hbelw⟩
theorem r_BytesN (h : List Nat) (w : World) (hh : h.length = 32) :
    Calls Try.prog 31 #[.agg (ints .u8 (nn h)).toArray] w fun e w' => e = .returned (.string (tx h)) ∧ Below w.heap.size w w' := r_Bytes (nn h) w (by rw [nn_length, hh])
theorem neq_hash (x y : List Nat) (hx : x.length = 32) (hy : y.length = 32) (b : Bool) (hb : (nn x == nn y) = !b) (w : World) : (binOp .neq 44 (.agg (ints .u8 (nn x)).toArray) (.agg (ints .u8 (nn y)).toArray)).run Try.prog w = .ok (.bool b) w := by
  have h := run_eql_ints (P := Try.prog) w 44 5 32 .u8 Try.underlying44 Try.underlying5 sizeOf_u8 (nn x) (nn y) (by rw [nn_length, hx]) (by rw [nn_length, hy])
  rw [hb] at h
  simp only [binOp, Sem.run_bind] at h ⊢
  cases hr : (Op.equal 44 (.agg (ints .u8 (nn x)).toArray) (.agg (ints .u8 (nn y)).toArray)).run Try.prog w with
  | ok v w' =>
    rw [hr] at h
    simp at h
    simp [h]
  | halt v w' =>
    rw [hr] at h
    simp at h
end Go.Proofs.Ytahfjfhiejhddaa
