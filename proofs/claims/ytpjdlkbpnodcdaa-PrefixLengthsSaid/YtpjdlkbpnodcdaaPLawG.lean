/- What the laws of prefix share: pieces of a code in their cells. -/
import Derived.Test.YtpjdlkbpnodcdaaPFacts
import Derived.Test.YtpjdlkbpnodcdaaPOpen
import Derived.Test.YtpjdlkbpnodcdaaJShown
namespace Go.Proofs.Ytpjdlkbpnodcdaa
open Go.RowKit
set_option linter.unusedVariables false

theorem pcW_at {L : List Nat} {j : Nat} (h : j < L.length) : (rowsP (pcW L))[j]? = some [.int .u32 ((codeW L j : Nat) : Int), .int .i64 ((L.getD j 0 : Nat) : Int)] := by
  simp [rowsP, pcW, rowP, h]
theorem pcW_cell {w : World} {ad : Addr} {n cap : Nat} {L : List Nat} (h : Sl w 2 (.slice (some ad) n cap) (rowsP (pcW L))) {j : Nat} (hj : j < L.length) : w.cell? ((ad.add (j * 2)).add 0) = some (.int .u32 ((codeW L j : Nat) : Int)) ∧ w.cell? ((ad.add (j * 2)).add 1) = some (.int .i64 ((L.getD j 0 : Nat) : Int)) := by
  obtain ⟨a, e, hc⟩ := h.row (pcW_at hj)
  cases e
  exact ⟨hc 0 _ rfl, hc 1 _ rfl⟩
theorem pcW_cells {w : World} {b : Nat} {n cap : Nat} {L : List Nat} (h : Sl w 2 (.slice (some ⟨b, 0, none⟩) n cap) (rowsP (pcW L))) {j : Nat} (hj : j < L.length) : w.cell? ⟨b, j * 2, none⟩ = some (.int .u32 ((codeW L j : Nat) : Int)) ∧ w.cell? ⟨b, j * 2 + 1, none⟩ = some (.int .i64 ((L.getD j 0 : Nat) : Int)) := by
  obtain ⟨h1, h2⟩ := pcW_cell h hj
  rw [Addr.add_mid, Addr.add_mid] at h1 h2
  simp only [Nat.zero_add, Nat.add_zero] at h1 h2
  exact ⟨h1, h2⟩
theorem codeW_lt' (L : List Nat) (i : Nat) (h : L.getD i 0 ≤ 15) : codeW L i < 32768 := by
  have h1 := codeW_lt L i
  have h2 : 2 ^ L.getD i 0 ≤ 2 ^ 15 := Nat.pow_le_pow_right (by decide) h
  omega
theorem sl_pcW {w : World} {b : Nat} {t : TypeId} {L : List Nat} (cap : Nat) (h : Blk w b t (rowsP (pcW L)).flatten) : Sl w 2 (.slice (some ⟨b, 0, none⟩) L.length cap) (rowsP (pcW L)) := by
  have := sl_blk (k := 2) (cap := cap) (fun r hr => by simp only [rowsP, List.mem_map] at hr; obtain ⟨q, _, rfl⟩ := hr; rfl) h
  rw [rowsP_len, pcW_len] at this
  exact this
end Go.Proofs.Ytpjdlkbpnodcdaa
