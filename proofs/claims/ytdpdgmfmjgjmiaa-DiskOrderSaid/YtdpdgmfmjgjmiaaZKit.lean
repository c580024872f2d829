/- What the laws of stage 13 ask of the program's disk, as one record: a relation of a disk in memory to a disk by lists, and each call's contract. And 'full'. -/
import Derived.Test.YtdpdgmfmjgjmiaaZBln
namespace Go.Proofs.Ytdpdgmfmjgjmiaa
open Go.RowKit
set_option linter.unusedVariables false

structure DiskKit where
  Rep : Nat → World → Nat → DiskM → Prop
  keep : ∀ {base : Nat} {w w' : World} {D : Nat} {d : DiskM}, Rep base w D d → Below w.heap.size w w' → Rep base w' D d
  lt : ∀ {base : Nat} {w : World} {D : Nat} {d : DiskM}, Rep base w D d → base ≤ D ∧ D < w.heap.size
  new_no : ∀ (n : Int) (w : World), ¬ (1 ≤ n ∧ n ≤ 4096) → Calls Try.prog 9 #[.int .i64 n] w fun e w' => e = .returned (.pointer none) ∧ Below w.heap.size w w'
  new_yes : ∀ (n : Nat) (w : World) (base : Nat), 1 ≤ n → n ≤ 4096 → base ≤ w.heap.size → Calls Try.prog 9 #[.int .i64 (n : Int)] w fun e w' => ∃ D, e = .returned (ptD D) ∧ Rep base w' D (newD n) ∧ Below w.heap.size w w'
  write : ∀ {base : Nat} {w : World} {D : Nat} {d : DiskM} (h : Rep base w D d) (hb : DkB d) (hw : base ≤ w.heap.size) (i : Int) (hi : (Lit.int .i64 i).wf = true) (s : ByteArray) (hs : s.size ≤ 65536) (e : Nat) (d' : DiskM) (he : wrE d i s.size = e) (hd : wrD d i (sl s) = d'),
    Calls Try.prog 10 #[ptD D, .int .i64 i, .string s] w fun x w' => x = .returned (.int .i64 (e : Int)) ∧ Rep base w' D d' ∧ Below base w w'
  sync : ∀ {base : Nat} {w : World} {D : Nat} {d : DiskM} (h : Rep base w D d) (hb : DkB d) (hw : base ≤ w.heap.size) (e : Nat) (d' : DiskM) (he : syE d = e) (hd : syD d = d'),
    Calls Try.prog 12 #[ptD D] w fun x w' => x = .returned (.int .i64 (e : Int)) ∧ Rep base w' D d' ∧ Below base w w'
  read_ : ∀ {base : Nat} {w : World} {D : Nat} {d : DiskM} (h : Rep base w D d) (hb : DkB d) (hw : base ≤ w.heap.size) (i : Int) (hi : (Lit.int .i64 i).wf = true) (s : ByteArray) (e : Nat) (he : rdE d i = (sl s, e)),
    Calls Try.prog 16 #[ptD D, .int .i64 i] w fun x w' => x = .returned (.tuple #[.string s, .int .i64 (e : Int)]) ∧ Rep base w' D d ∧ Below base w w'
  safe : ∀ {base : Nat} {w : World} {D : Nat} {d : DiskM} (h : Rep base w D d) (hb : DkB d) (hw : base ≤ w.heap.size) (i : Int) (hi : (Lit.int .i64 i).wf = true) (s : ByteArray) (he : sfD d i = sl s),
    Calls Try.prog 15 #[ptD D, .int .i64 i] w fun x w' => x = .returned (.string s) ∧ Rep base w' D d ∧ Below base w w'
  sectors : ∀ {base : Nat} {w : World} {D : Nat} {d : DiskM} (h : Rep base w D d) (hb : DkB d) (hw : base ≤ w.heap.size), Calls Try.prog 17 #[ptD D] w fun x w' => x = .returned (.int .i64 (d.sec.length : Int)) ∧ Rep base w' D d ∧ Below base w w'
  off : ∀ {base : Nat} {w : World} {D : Nat} {d : DiskM} (h : Rep base w D d) (hb : DkB d) (hw : base ≤ w.heap.size) (after : Int) (hi : (Lit.int .i64 after).wf = true), Calls Try.prog 14 #[ptD D, .int .i64 after] w fun x w' => x = .returned (.tuple #[]) ∧ Rep base w' D (cutD d after) ∧ Below base w w'
  crash : ∀ {base : Nat} {w : World} {D : Nat} {d : DiskM} (h : Rep base w D d) (hb : DkB d) (hw : base ≤ w.heap.size) (keep : List Nat) (p : Option Addr) (c : Nat) (hk : keep.length ≤ 1000) (hy : Bys keep) (hS : Sl w 1 (.slice p keep.length c) (rowsU .u8 keep)) (hka : 0 < keep.length → ∀ a, p = some a → a.block < base ∨ ∃ vs, Blk w a.block 5 vs) (d' : DiskM) (hd : crashD d keep = d'),
    Calls Try.prog 13 #[ptD D, .slice p keep.length c] w fun x w' => x = .returned (.tuple #[]) ∧ Rep base w' D d' ∧ Below base w w'
set_option maxRecDepth 100000 in
theorem l13_full (s : ByteArray) (w : World) (hs : s.size ≤ 65536) : Calls Try.prog 11 #[.string s] w fun e w' => e = .returned (.string (fullT s)) ∧ Below w.heap.size w w' := by
  have HB := Lib.hid (r13_Blank w)
  have hz : (tx (zerN 32)).size = 32 := by rw [tx_size, zerN_len]
  have hsz : (s ++ tx (zerN 32)).size = s.size + 32 := by rw [ByteArray.size_append, hz]
  have hadd := fun w' => run_string_add_sum (P := Try.prog) w' s (tx (zerN 32)) (by rw [hz]; omega)
  have hx : (s ++ tx (zerN 32)).extract 0 32 = fullT s := by
    rw [head_tx]
    unfold fullT
    have : sl (s ++ tx (zerN 32)) = sl s ++ zerN 32 := by
      have h1 : s = tx (sl s) := (tx_sl s).symm
      conv => lhs; rw [h1, ← tx_app]
      exact sl_tx ((sl_bys s).app (Bys.of fun x hx => by rw [List.eq_of_mem_replicate hx]; decide))
    rw [this]
  have i1 : (32 : Int) ≤ ((s ++ tx (zerN 32)).size : Int) := by omega
  generalize tx (zerN 32) = Z at *
  generalize hU : s ++ Z = U at *
  have HX := Lib.hid hx
  clear hz hsz hU
  go_enter Try.func11, Try.ntmps11
  go_wp2_with fail
  refine HB.out.mono ?_
  rintro e w1 ⟨rfl, hb1⟩
  have G1 := Lib.hid hb1
  clear hb1
  go_wp2
  go_ret
  exact ⟨by first | rfl | rw [HX.out], G1.out⟩
end Go.Proofs.Ytdpdgmfmjgjmiaa
