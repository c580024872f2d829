/- The case that each law of seal asks. -/
import Derived.Test.YtleofmeejjikmaaLOpen
namespace Go.Proofs.Ytleofmeejjikmaa
open Go.RowKit
set_option linter.unusedVariables false

def n1 : List Nat := 1 :: zerN 15
theorem n1_bys : Bys n1 := Bys.of fun x hx => by
  simp only [n1, zerN, List.mem_cons, List.mem_replicate] at hx
  omega
theorem build_n1 (w : World) : (Instr.build 23 #[(0, .int .u8 1)]).run Try.prog w = .ok (.agg (ints .u8 (nn n1)).toArray) w := by kernel_rfl
set_option maxRecDepth 100000 in
set_option maxHeartbeats 1000000 in
theorem l5_shown (w : World) :
    Calls Try.prog 7 #[] w fun e w' => e = .returned (.bool true) ∧ Below w.heap.size w w' := by
  have hA := fun w => l_Seal ⟨#[107]⟩ n1 ⟨#[97, 98, 99]⟩ w (by decide) rfl n1_bys (by decide)
  have hz := sealT_size ⟨#[107]⟩ (nc := n1) ⟨#[97, 98, 99]⟩ rfl
  have hB := fun w => l_Open ⟨#[107]⟩ (sealT ⟨#[107]⟩ n1 ⟨#[97, 98, 99]⟩) w (by decide) (by rw [hz]; decide) _ _ (open_seal ⟨#[107]⟩ (nc := n1) ⟨#[97, 98, 99]⟩ rfl n1_bys)
  have hbu := build_n1
  generalize sealT ⟨#[107]⟩ n1 ⟨#[97, 98, 99]⟩ = Z at *
  generalize n1 = n at *
  have HA := Lib.hid hA
  have HB := Lib.hid hB
  have HBU := Lib.hid hbu
  clear hA hB hz hbu
  go_enter Try.func7, Try.ntmps7
  go_wp2_with (first | (refine wpList_build_at rfl 23 _ rfl (.agg (ints .u8 (nn n)).toArray) (by simp only [List.map_toArray, List.map_cons, List.map_nil]; exact HBU.out _) ?_) | (go_at_call 14; (with_reducible refine (HA.out _).mono ?_); rintro e w3 ⟨rfl, hb3⟩) | (go_at_call 8; (with_reducible refine (HB.out _).mono ?_); rintro e w4 ⟨rfl, hb4⟩))
  go_ret
  exact ⟨rfl, hb3.trans (hb4.mono hb3.size)⟩
end Go.Proofs.Ytleofmeejjikmaa
