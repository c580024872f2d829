/- Walks of varint's reader, mayBeWidth and sevens. -/
import Derived.Test.YtkpabnpdpjcmdaaSeat
import Derived.Test.YtkpabnpdpjcmdaaVNum
namespace Go.Proofs.Ytkpabnpdpjcmdaa
open Go.RowKit
set_option linter.unusedVariables false

theorem v_reader (s : ByteArray) (w : World) :
    Calls Try.prog 21 #[.string s] w fun e w' => e = .returned (.func (.func 24) #[] #[.pointer (some ⟨w.heap.size + 1, 0, none⟩), .pointer (some ⟨w.heap.size, 0, none⟩)]) ∧ w' = (w.alloc (.cells #[.string s] 9)).alloc (.cells #[.int .i64 0] 3) := by
  go_enter Try.func21, Try.ntmps21
  go_wp2
  go_ret
  exact ⟨rfl, rfl⟩
theorem v_rd_some (A S i : Nat) (s : ByteArray) (w : World) (hA : Blk w A 3 [.int .i64 (i : Int)]) (hS : Blk w S 9 [.string s]) (hAS : A ≠ S) (hi : i < s.size) (hm : i < 65536) :
    Calls Try.prog 24 #[.pointer (some ⟨A, 0, none⟩), .pointer (some ⟨S, 0, none⟩)] w fun e w' => e = .returned (.tuple #[.int .u8 (((sl s).getD i 0 : Nat) : Int), .bool true]) ∧ w' = w.setCell ⟨A, 0, none⟩ (.int .i64 ((i : Int) + 1)) := by
  have c1 := hA.cell 0
  have c2 := hS.cell 0
  have f1 := hA.free 0
  simp only [List.getElem?_cons_zero] at c1 c2
  have hx := fun w => index_sl s .i64 i hi w
  have g1 : ((i : Int) == (s.size : Int)) = false := by simp; omega
  clear hA hS
  go_enter Try.func24, Try.ntmps24
  go_wp2
  go_ret2
  exact ⟨rfl, rfl⟩
theorem v_rd_none (A S i : Nat) (s : ByteArray) (w : World) (hA : Blk w A 3 [.int .i64 (i : Int)]) (hS : Blk w S 9 [.string s]) (hi : i = s.size) :
    Calls Try.prog 24 #[.pointer (some ⟨A, 0, none⟩), .pointer (some ⟨S, 0, none⟩)] w fun e w' => e = .returned (.tuple #[.int .u8 0, .bool false]) ∧ w = w' := by
  have c1 := hA.cell 0
  have c2 := hS.cell 0
  simp only [List.getElem?_cons_zero] at c1 c2
  have g1 : ((i : Int) == (s.size : Int)) = true := by simp; omega
  clear hA hS
  have H := Lib.hid hi
  clear hi
  go_enter Try.func24, Try.ntmps24
  go_wp2
  go_ret2
  exact ⟨rfl, rfl⟩
theorem v_width_yes (k : Nat) (w : World) (h1 : 1 ≤ k) (h2 : k ≤ 8) :
    Calls Try.prog 22 #[.int .i64 (k : Int)] w fun e w' => e = .returned (.bool true) ∧ w = w' := by
  have g1 : decide ((1 : Int) ≤ (k : Int)) = true := by simp; omega
  have g2 : decide ((k : Int) ≤ 8) = true := by simp; omega
  go_enter Try.func22, Try.ntmps22
  go_wp2
  go_ret
  exact ⟨rfl, rfl⟩
theorem v_width_no (k : Int) (w : World) (h : k < 1 ∨ 8 < k) :
    Calls Try.prog 22 #[.int .i64 k] w fun e w' => e = .returned (.bool false) ∧ w = w' := by
  rcases h with h | h
  · have g1 : decide ((1 : Int) ≤ k) = false := by simp; omega
    go_enter Try.func22, Try.ntmps22
    go_wp2
    go_ret
    exact ⟨rfl, rfl⟩
  · have g1 : decide ((1 : Int) ≤ k) = true := by simp; omega
    have g2 : decide (k ≤ 8) = false := by simp; omega
    go_enter Try.func22, Try.ntmps22
    go_wp2
    go_ret
    exact ⟨rfl, rfl⟩
theorem v_sevens (n : Nat) (w : World) :
    Calls Try.prog 23 #[.int .u64 (n : Int)] w fun e w' => e = .returned (.func (.func 25) #[] #[.pointer (some ⟨w.heap.size, 0, none⟩)]) ∧ w' = w.alloc (.cells #[.int .u64 (n : Int)] 22) := by
  go_enter Try.func23, Try.ntmps23
  go_wp2
  go_ret
  exact ⟨rfl, rfl⟩
end Go.Proofs.Ytkpabnpdpjcmdaa
