/- The reference's Blank. -/
import Derived.Test.YtccplgicfbfjiaaZ0
namespace Go.Proofs.Ytccplgicfbfjiaa
open Go.RowKit
set_option linter.unusedVariables false

set_option maxRecDepth 100000 in
theorem r13_Blank (w : World) : Calls Try.prog 27 #[] w fun e w' => e = .returned (.string (tx (zerN 32))) ∧ Below w.heap.size w w' := by
  go_enter Try.func27, Try.ntmps27
  go_wp2
  go_loopw [1] (fun u wr => ∃ k : Nat, k ≤ 32 ∧ u = .string (tx (zerN k)) ∧ Below w.heap.size w wr) (fun u _ => 32 - (match u with | .string s => s.size | _ => 0))
  case atStart => exact ⟨0, by omega, rfl, Below.refl _ _⟩
  case round =>
    obtain ⟨k, hk, rfl, gb⟩ := hrel
    have hz : (tx (zerN k)).size = k := by rw [tx_size, zerN_len]
    by_cases hlt : k < 32
    · have d1 : ((tx (zerN k)).size : Int) < 32 := by omega
      have hadd := fun w' => run_string_add_sum (P := Try.prog) w' (tx (zerN k)) ⟨#[0]⟩ (by rw [hz]; show k + 1 ≤ _; omega)
      have hsn : tx (zerN k) ++ ⟨#[0]⟩ = tx (zerN (k + 1)) := by
        have : zerN (k + 1) = zerN k ++ [0] := by unfold zerN; rw [List.replicate_succ']
        rw [this, tx_app]
        rfl
      rw [hsn] at hadd
      have hz2 : (tx (zerN (k + 1))).size = k + 1 := by rw [tx_size, zerN_len]
      have HZ := Lib.hid hz
      have HZ2 := Lib.hid hz2
      have GB := Lib.hid gb
      obtain ⟨X, hX⟩ : ∃ X, tx (zerN k) = X := ⟨_, rfl⟩
      rw [hX] at HZ d1 hadd ⊢
      obtain ⟨Y, hY⟩ : ∃ Y, tx (zerN (k + 1)) = Y := ⟨_, rfl⟩
      rw [hY] at HZ2 hadd
      have HY := Lib.hid hY
      clear hz hz2 hsn gb hX hY
      go_wp2
      go_roundw
      case rel => exact ⟨k + 1, by omega, by rw [HY.out], GB.out⟩
      case measure => (have := HZ.out; have := HZ2.out; simp; omega)
    · obtain rfl : k = 32 := by omega
      have d1 : ¬ ((tx (zerN 32)).size : Int) < 32 := by omega
      obtain ⟨X, hX⟩ : ∃ X, tx (zerN 32) = X := ⟨_, rfl⟩
      rw [hX] at d1 ⊢
      have HX := Lib.hid hX
      clear hz hX
      go_wp2
      go_ret
      exact ⟨by rw [HX.out]; rfl, gb⟩
end Go.Proofs.Ytccplgicfbfjiaa
