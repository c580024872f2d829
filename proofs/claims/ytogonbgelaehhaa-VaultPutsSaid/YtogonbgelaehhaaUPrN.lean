/- Versions put one by one, and pruned: numbers and rows (stage 17: VaultPrunes). -/
import Derived.Test.YtogonbgelaehhaaUGd
namespace Go.Proofs.Ytogonbgelaehhaa
open Go.RowKit
set_option linter.unusedVariables false

/-- a version of a number and nothing else -/
def verI (id : Nat) : RawV := ⟨id, [], [], []⟩
/-- the first k of them, from 10 on -/
def versI (k : Nat) : List RawV := (List.range k).map fun j => verI (10 + j)
def stI (k : Nat) : StU RawV := ⟨versI k, [0, 0, 0], [wrongU noV 0, wrongU noV 0, wrongU noV 0]⟩
theorem versI_len (k : Nat) : (versI k).length = k := by simp [versI]
theorem versI_at {k i : Nat} (h : i < k) : (versI k).getD i noV = verI (10 + i) := by
  rw [List.getD_eq_getElem?_getD, List.getElem?_eq_getElem (by rw [versI_len]; exact h)]
  simp [versI]
theorem versI_succ (k : Nat) : versI (k + 1) = versI k ++ [verI (10 + k)] := by simp [versI, List.range_succ]
theorem may_verI (id : Nat) : mayR (verI id) = true := by
  show mayH 0 [] [] = true
  decide
theorem verS_I {id : Nat} (h : id < 4294967296) : VerS (verI id) := ⟨⟨h, (fun x hx => by cases hx), (fun x hx => by cases hx), (fun z hz => by cases hz)⟩, by simp [verI], by simp [verI], by simp [verI]⟩
theorem versI_has (k : Nat) : hasU RawV.id (versI k) (10 + k) = false := by
  rw [Bool.eq_false_iff]
  intro h
  rw [has_iff] at h
  obtain ⟨v, hv, he⟩ := List.mem_map.1 h
  obtain ⟨j, hj, rfl⟩ := List.mem_map.1 hv
  have := List.mem_range.1 hj
  simp [verI] at he
  omega
theorem do_putI {k : Nat} (h : k < 8) : doR (versI k) 1 0 (verI (10 + k)) = (versI (k + 1), ⟨0, [], noV⟩) := by
  unfold doR doU
  rw [if_pos rfl, if_pos (may_verI _), show RawV.id (verI (10 + k)) = 10 + k from rfl, versI_has, if_neg (by decide), if_neg (by rw [versI_len]; omega), versI_succ]
theorem do_pruneI (k n : Nat) (a : RawV) : doR (versI k) 3 n a = ((versI k).drop (k - n), ⟨0, ((versI k).take (k - n)).map RawV.id, noV⟩) := by
  unfold doR doU
  rw [if_neg (by decide), if_neg (by decide), if_pos rfl, versI_len]
theorem stI_0 : stI 0 = stU0 noV := rfl
theorem stS_I : ∀ (k : Nat), k ≤ 8 → StS (stI k)
  | 0, _ => stS_0
  | k + 1, h => by
    have ih := stS_I k (by omega)
    have hv := do_vers RawV.id mayR noV ih.1.vers 1 0 (verI (10 + k))
    have hd := (do_S ih.1.vers ih.2.1 1 0 (verS_I (id := 10 + k) (by omega))).1
    have e := do_putI (k := k) (by omega)
    rw [show doU RawV.id mayR noV (stI k).vers 1 0 (verI (10 + k)) = doR (versI k) 1 0 (verI (10 + k)) from rfl, e] at hv
    rw [show doR (stI k).vers 1 0 (verI (10 + k)) = doR (versI k) 1 0 (verI (10 + k)) from rfl, e] at hd
    exact ⟨⟨hv, rfl, rfl⟩, hd, fun x hx => by simp [stI] at hx; rcases hx with rfl <;> exact repS_wrong 0⟩
/-- what goes: the first ones -/
theorem gone_len (k m : Nat) (h : m ≤ k) : (((versI k).take m).map RawV.id).length = m := by
  rw [List.length_map, List.length_take, versI_len]
  omega
theorem gone_at {k m i : Nat} (h : m ≤ k) (hi : i < m) : (((versI k).take m).map RawV.id).getD i 0 = 10 + i := by
  rw [List.getD_eq_getElem?_getD, List.getElem?_map, List.getElem?_take_of_lt hi]
  simp [versI, show i < k by omega, verI]
theorem left_at {k m i : Nat} (h : m + i < k) : ((versI k).drop m).getD i noV = verI (10 + (m + i)) := by
  rw [List.getD_eq_getElem?_getD, List.getElem?_drop, ← List.getD_eq_getElem?_getD, versI_at h]
theorem left_len (k m : Nat) : ((versI k).drop m).length = k - m := by rw [List.length_drop, versI_len]
/-- an op that puts such a version; one that prunes -/
theorem op_put (w : World) (id : Nat) : OpTold w (.agg #[.int .i64 1, .int .u32 0, .int .u32 (id : Int), .slice none 0 0, .slice none 0 0, .slice none 0 0]) 1 0 (verI id) :=
  ⟨cellsV id (.slice none 0 0) (.slice none 0 0) (.slice none 0 0), rfl, _, _, _, rfl, ⟨_, _, rfl⟩, ⟨_, _, rfl⟩, ⟨_, _, rfl⟩, Sl.none 32, Sl.none 1, Sl.none 1⟩
theorem op_bare (w : World) (kind : Int) (id : Nat) : OpTold w (.agg #[.int .i64 kind, .int .u32 (id : Int), .int .u32 0, .slice none 0 0, .slice none 0 0, .slice none 0 0]) kind id noV :=
  ⟨cellsV 0 (.slice none 0 0) (.slice none 0 0) (.slice none 0 0), rfl, _, _, _, rfl, ⟨_, _, rfl⟩, ⟨_, _, rfl⟩, ⟨_, _, rfl⟩, Sl.none 32, Sl.none 1, Sl.none 1⟩
theorem build_s0 (w : World) : (Instr.build 42 #[]).run Try.prog w = .ok (.agg zS.toArray) w := by kernel_rfl
end Go.Proofs.Ytogonbgelaehhaa
