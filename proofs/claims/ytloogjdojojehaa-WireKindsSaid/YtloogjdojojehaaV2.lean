/- Walk of the reference's Put. -/
import Derived.Test.YtloogjdojojehaaV1
import Derived.Test.YtloogjdojojehaaG1
import Derived.Maps.AppendAt
namespace Go.Proofs.Ytloogjdojojehaa
open Go.RowKit Go.Shelf
set_option linter.unusedVariables false

theorem put_app (n : Nat) (f : Nat) (h : ¬ n < 128) : tx (putF (f + 1) n) = tx [n % 128 + 128] ++ tx (putF f (n / 128)) := by
  rw [putF_big _ _ h, ← tx_app]; rfl
theorem putF_len_small (f n : Nat) : (tx (putF f n)).size ≤ f := by rw [tx_size]; exact putF_len_le f n
def rpF (n : Nat) (u : Nat → Value) : Array Value := #[.int .u64 (n : Int), undef, u 10, .int .u64 (n : Int), .bool false, undef, undef, undef, undef, u 0, u 1, u 2, u 3, u 4, u 5, u 6, u 7, u 8, u 9]
def rpS (B n m q : Nat) (t r z : ByteArray) : Nat → Value → World → Prop
  | 0, v, _ => v = .int .u64 (n : Int)
  | 1, v, _ => v = .int .u64 (m : Int)
  | 2, v, _ => v = .int .u8 (m : Int)
  | 3, v, _ => v = .int .u8 ((m : Int) + 128)
  | 4, v, W => ∃ b, B ≤ b ∧ v = .slice (some ⟨b, 0, none⟩) 1 1 ∧ Blk W b 5 (ints .u8 [(m : Int) + 128])
  | 5, v, _ => v = .string t
  | 6, v, _ => v = .int .u64 (n : Int)
  | 7, v, _ => v = .int .u64 (q : Int)
  | 8, v, _ => v = .string r
  | 9, v, _ => v = .string z
  | 10, v, _ => v = .string z
  | _, _, _ => True
end Go.Proofs.Ytloogjdojojehaa
namespace Go.Proofs.Ytloogjdojojehaa
open Go.RowKit Go.Shelf
set_option linter.unusedVariables false

end Go.Proofs.Ytloogjdojojehaa
namespace Go.Proofs.Ytloogjdojojehaa
open Go.RowKit Go.Shelf
set_option linter.unusedVariables false

end Go.Proofs.Ytloogjdojojehaa
namespace Go.Proofs.Ytloogjdojojehaa
open Go.RowKit Go.Shelf
set_option linter.unusedVariables false

end Go.Proofs.Ytloogjdojojehaa
