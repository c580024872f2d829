/- Versions of so many files, named by one letter each, with sizes made of numbers: whether they may be, by how many blocks they have; plain facts. -/
import Derived.Test.YtahfjfhiejhddaaHRaw
namespace Go.Proofs.Ytahfjfhiejhddaa
set_option linter.unusedVariables false

def namN (n : Nat) : List (List Nat) := (List.range n).map fun i => [97 + i]
def sizM (l : List Nat) : List Nat := l.map (· % 301)
def sizN (l : List Nat) : List Int := (sizM l).map fun (k : Nat) => (k : Int)
theorem namN_len (n : Nat) : (namN n).length = n := by simp [namN]
theorem sizN_len (l : List Nat) : (sizN l).length = l.length := by simp [sizN, sizM]
theorem namN_at {n k : Nat} (h : k < n) : (namN n).getD k [] = [97 + k] := by simp [namN, h]
theorem sizN_at {l : List Nat} {k : Nat} (h : k < l.length) : (sizN l).getD k 0 = ((l.getD k 0 % 301 : Nat) : Int) := by simp [sizN, sizM, h]
theorem namN_snoc (n : Nat) : namN (n + 1) = namN n ++ [[97 + n]] := by unfold namN; rw [List.range_succ, List.map_append]; rfl
theorem sizN_snoc (l : List Nat) {j : Nat} (h : j < l.length) : sizN (l.take (j + 1)) = sizN (l.take j) ++ [((l.getD j 0 % 301 : Nat) : Int)] := by
  unfold sizN sizM
  rw [List.take_succ_eq_append_getElem h, List.map_append, List.map_append, List.getD_eq_getElem?_getD, List.getElem?_eq_getElem h]
  rfl
theorem sumM_snoc (l : List Nat) {j : Nat} (h : j < l.length) : sumF (sizM (l.take (j + 1))) = sumF (sizM (l.take j)) + l.getD j 0 % 301 := by
  unfold sizM
  rw [List.take_succ_eq_append_getElem h, List.map_append, sumF_app, List.getD_eq_getElem?_getD, List.getElem?_eq_getElem h]
  simp [sumF]
theorem sumM_le (l : List Nat) : sumF (sizM l) ≤ 300 * l.length := by
  have := sumF_le (l := sizM l) (n := 300) fun x hx => by
    obtain ⟨y, _, rfl⟩ := List.mem_map.1 hx
    have := Nat.mod_lt y (show 0 < 301 by decide)
    omega
  rwa [show (sizM l).length = l.length by simp [sizM]] at this
theorem cnt_siz (l : List Nat) : (sizN l).map cntS = sizM l := by
  unfold sizN sizM
  rw [List.map_map, List.map_map]
  refine List.map_congr_left fun x _ => ?_
  have := Nat.mod_lt x (show 0 < 301 by decide)
  show cntS ((x % 301 : Nat) : Int) = x % 301
  unfold cntS
  rw [if_pos (by omega), Int.toNat_natCast]
theorem blocks_siz (l : List Nat) : blocksH (sizN l) = blkN (sumF (sizM l)) := by unfold blocksH; rw [cnt_siz]
theorem blkN_le {n : Nat} (h : n ≤ 3600) : blkN n ≤ 15 := by unfold blkN; omega
theorem namN_bys {n : Nat} (h : n ≤ 12) : ∀ x ∈ namN n, Bys x := fun x hx => by
  obtain ⟨i, hi, rfl⟩ := List.mem_map.1 hx
  have := List.mem_range.1 hi
  exact Bys.of fun y hy => by
    rw [List.mem_singleton.1 hy]
    omega
/-- THE FACT: it may be with just so many blocks -/
theorem may_siz {l : List Nat} (h : l.length ≤ 12) (b : Nat) : mayH b (namN l.length) (sizN l) = decide (b = blkN (sumF (sizM l))) := by
  rw [may_end (by rw [namN_len]; exact h) (by rw [namN_len, sizN_len]) (fun k hk => ?_) (fun k hk => ?_), blocks_siz]
  · rw [namN_len] at hk
    rw [namN_at hk, sizN_at hk]
    have := Nat.mod_lt (l.getD k 0) (show 0 < 301 by decide)
    exact ⟨by simp, by simp, by omega, by omega⟩
  · rw [namN_len] at hk
    rw [namN_at (by omega), namN_at hk]
    unfold ltB
    simp
end Go.Proofs.Ytahfjfhiejhddaa
