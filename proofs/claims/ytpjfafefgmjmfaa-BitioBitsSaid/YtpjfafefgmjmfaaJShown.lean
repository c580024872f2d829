/- The case that each law of bitio asks. -/
import Derived.Test.YtpjfafefgmjmfaaJPack
namespace Go.Proofs.Ytpjfafefgmjmfaa
open Go.RowKit Go.Shelf
set_option linter.unusedVariables false

/-- rows in a block of their own, as a slice -/
theorem sl_blk {w : World} {b k cap : Nat} {t : TypeId} {rows : List (List Value)} (hk : ∀ r ∈ rows, r.length = k) (h : Blk w b t rows.flatten) : Sl w k (.slice (some ⟨b, 0, none⟩) rows.length cap) rows := by
  refine ⟨hk, _, cap, rfl, fun i r hr => ⟨_, rfl, h.lt, fun j x hx => ?_⟩⟩
  rw [Addr.add_mid, h.cell]
  have := flat_at hk hr hx
  simpa using this
theorem i_Pack (l : List (Nat × Int)) (p : Option Addr) (cap : Nat) (w : World) (hl : l.length ≤ 1000000) (hu : ∀ q ∈ l, q.1 < 4294967296) (hS : Sl w 2 (.slice p l.length cap) (rowsP l)) (s : ByteArray) (er : Nat)
    (hE : ((∀ q ∈ l, mayP q) ∧ s = tx (bytesB (bitsP l)) ∧ er = 0) ∨ (¬ (∀ q ∈ l, mayP q) ∧ s = ⟨#[]⟩ ∧ er = 1)) :
    Calls Try.prog 9 #[.slice p l.length cap] w fun e w' => e = .returned (.tuple #[.string s, .int .i64 (er : Int)]) ∧ Below w.heap.size w w' := by
  rcases hE with ⟨h, rfl, rfl⟩ | ⟨h, rfl, rfl⟩
  · exact i_Pack_yes l p cap w hl hu hS h
  · exact i_Pack_no l p cap w hl hS h
theorem pack_shown : tx (bytesB (bitsP [(1, 1), (2, 3)])) = ⟨#[5]⟩ := by
  have : bytesB (bitsP [(1, 1), (2, 3)]) = [5] := by decide
  rw [this]; rfl
set_option maxRecDepth 100000 in
set_option maxHeartbeats 1000000 in
theorem l6_shown (w : World) :
    Calls Try.prog 8 #[] w fun e w' => e = .returned (.bool true) ∧ Below w.heap.size w w' := by
  have kb := Blk.new' w 45 (c := #[.int .u32 1, .int .i64 1, .int .u32 2, .int .i64 3]) (rowsP [(1, 1), (2, 3)]).flatten rfl
  have hS := sl_blk (k := 2) (cap := 2) (fun r hr => by simp [rowsP, rowP] at hr; rcases hr with rfl | rfl <;> rfl) kb
  have hb1 := (Below.refl w.heap.size w).alloc (Nat.le_refl _) (.cells #[.int .u32 1, .int .i64 1, .int .u32 2, .int .i64 3] 45)
  have hP := i_Pack [(1, 1), (2, 3)] _ 2 _ (by decide) (by decide) hS ⟨#[5]⟩ 0 (.inl ⟨by decide, pack_shown.symm, rfl⟩)
  have HP := Lib.hid hP
  have HB := Lib.hid hb1
  clear hP hS kb hb1
  go_enter Try.func8, Try.ntmps8
  go_wp2_with fail
  refine HP.out.mono ?_
  rintro e w3 ⟨rfl, hb3⟩
  have hb4 := HB.out.trans (hb3.mono HB.out.size)
  go_wp2
  go_ret
  exact ⟨rfl, hb4⟩
end Go.Proofs.Ytpjfafefgmjmfaa
