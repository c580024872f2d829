/- The case that each law of bitio asks. -/
import Derived.Test.YtpjdlkbpnodcdaaJ1
namespace Go.Proofs.Ytpjdlkbpnodcdaa
open Go.RowKit Go.Shelf
set_option linter.unusedVariables false

/-- rows in a block of their own, as a slice -/
theorem sl_blk {w : World} {b k cap : Nat} {t : TypeId} {rows : List (List Value)} (hk : ∀ r ∈ rows, r.length = k) (h : Blk w b t rows.flatten) : Sl w k (.slice (some ⟨b, 0, none⟩) rows.length cap) rows := by
  refine ⟨hk, _, cap, rfl, fun i r hr => ⟨_, rfl, h.lt, fun j x hx => ?_⟩⟩
  rw [Addr.add_mid, h.cell]
  have := flat_at hk hr hx
  simpa using this
theorem i_Pack (l : List (Nat × Int)) (p : Option Addr) (cap : Nat) (w : World) (hl : l.length ≤ 1000000) (hu : ∀ q ∈ l, q.1 < 4294967296) (hS : Sl w 2 (.slice p l.length cap) (rowsP l)) (s : ByteArray) (er : Nat)
    (hE : ((∀ q ∈ l, mayP q) ∧ s = tx (bytesB (bitsP l)) ∧ er = 0) ∨ (¬ (∀ q ∈ l, mayP q) ∧ s = ⟨#[]⟩ ∧ er = 1)) :
    Calls Try.prog 23 #[.slice p l.length cap] w fun e w' => e = .returned (.tuple #[.string s, .int .i64 (er : Int)]) ∧ Below w.heap.size w w' := by
  rcases hE with ⟨h, rfl, rfl⟩ | ⟨h, rfl, rfl⟩
  · exact i_Pack_yes l p cap w hl hu hS h
  · exact i_Pack_no l p cap w hl hS h
theorem pack_shown : tx (bytesB (bitsP [(1, 1), (2, 3)])) = ⟨#[5]⟩ := by
  have : bytesB (bitsP [(1, 1), (2, 3)]) = [5] := by decide
  rw [this]; rfl
end Go.Proofs.Ytpjdlkbpnodcdaa
