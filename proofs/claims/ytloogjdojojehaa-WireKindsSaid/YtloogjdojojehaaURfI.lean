/- Walk of the reference's Live: the blocks that versions name, each once (stage 17). -/
import Derived.Test.YtloogjdojojehaaUGb
import Derived.Test.YtloogjdojojehaaG4
namespace Go.Proofs.Ytloogjdojojehaa
open Go.RowKit
set_option linter.unusedVariables false

def blksV (l : List RawV) : List (List Nat) := l.flatMap (·.bl)
theorem blks_take {l : List RawV} {i : Nat} (h : i < l.length) : blksV (l.take (i + 1)) = blksV (l.take i) ++ (l.getD i noV).bl := by
  unfold blksV
  rw [List.take_succ_eq_append_getElem h, List.flatMap_append, List.getD_eq_getElem?_getD, List.getElem?_eq_getElem h]
  simp
theorem hash_take {l : List (List Nat)} {k : Nat} (h : k < l.length) : l.take (k + 1) = l.take k ++ [l.getD k []] := by
  rw [List.take_succ_eq_append_getElem h, List.getD_eq_getElem?_getD, List.getElem?_eq_getElem h]
  rfl
theorem getD_memH {l : List (List Nat)} {k : Nat} (h : k < l.length) : l.getD k [] ∈ l := by
  rw [List.getD_eq_getElem?_getD, List.getElem?_eq_getElem h]
  exact List.getElem_mem h
/-- a version's blocks, where they lie -/
theorem VsV.bl_at {w : World} {p : Option Addr} {n c : Nat} {l : List RawV} (h : VsV w (.slice p n c) l) {i : Nat} (hi : i < l.length) :
    ∃ (a : Addr) (pb : Option Addr) (cb : Nat), p = some a ∧ a.block < w.heap.size ∧ w.cell? ((a.add (i * 4)).add 1) = some (.slice pb (l.getD i noV).bl.length cb) ∧ Sl w 32 (.slice pb (l.getD i noV).bl.length cb) (rowsH (l.getD i noV).bl) := by
  obtain ⟨a, r, q1, q0, ⟨vb, vn, vz, e, ⟨pb, cb, rfl⟩, ⟨pn, cn, rfl⟩, ⟨pz, cz, rfl⟩, s1, _⟩, _, q3⟩ := h.at hi
  have e' : r = cellsV (l.getD i noV).id (.slice pb (l.getD i noV).bl.length cb) (.slice pn (l.getD i noV).ns.length cn) (.slice pz (l.getD i noV).zs.length cz) := by
    have := congrArg (fun v => match v with | Value.agg c => c.toList | _ => []) e
    simpa using this
  subst e'
  exact ⟨a, pb, cb, q1, q0, q3 1 _ rfl, s1⟩
theorem live_len (l : List (List Nat)) : (liveU l).length ≤ l.length := by
  have : ∀ (l : List (List Nat)) (a : List (List Nat)), (l.foldl liveStep a).length ≤ a.length + l.length := fun l => by
    induction l with
    | nil => exact fun a => Nat.le_refl _
    | cons x l ih =>
      intro a
      have h1 := ih (liveStep a x)
      have h2 : (liveStep a x).length ≤ a.length + 1 := by
        unfold liveStep
        split <;> simp
      simp only [List.foldl_cons, List.length_cons]
      omega
  have h := this l []
  rw [List.length_nil, Nat.zero_add] at h
  exact h
theorem live_all {P : List Nat → Prop} (l : List (List Nat)) (h : ∀ x ∈ l, P x) : ∀ x ∈ liveU l, P x := by
  have : ∀ (l : List (List Nat)) (a : List (List Nat)), (∀ x ∈ l, P x) → (∀ x ∈ a, P x) → ∀ x ∈ l.foldl liveStep a, P x := fun l => by
    induction l with
    | nil => exact fun a _ ha => ha
    | cons y l ih =>
      intro a hl ha
      refine ih _ (fun x hx => hl x (List.mem_cons_of_mem _ hx)) ?_
      intro x hx
      unfold liveStep at hx
      split at hx
      · exact ha x hx
      · rcases List.mem_append.1 hx with hx | hx
        · exact ha x hx
        · rw [List.mem_singleton.1 hx]; exact hl y (List.mem_cons_self ..)
  exact this l [] h (fun x hx => by cases hx)
theorem cell_next {w : World} {A : Addr} {x : Value} (h : w.cell? (A.add 1) = some x) : w.cell? ⟨A.block, A.off + 1, none⟩ = some x := by
  exact h
def zHQ : List Value := rowH (List.replicate 32 0)
theorem alloc_hash (w : World) : (Instr.alloc 34 true (.tuple #[])).run Try.prog w = .ok (.pointer (some ⟨w.heap.size, 0, none⟩)) (w.alloc (.cells zHQ.toArray 34)) := by kernel_rfl
theorem info_hashQ : (Try.prog.info? 34).map (fun i => (i.zero, i.size, i.bytes)) = some (some (.agg zHQ.toArray), 32, 32) := by kernel_rfl
theorem eqb_hash (x y : List Nat) (hx : x.length = 32) (hy : y.length = 32) (b : Bool) (hb : (nn x == nn y) = b) (w : World) : (binOp .eql 34 (.agg (rowH x).toArray) (.agg (rowH y).toArray)).run Try.prog w = .ok (.bool b) w := by
  have h := run_eql_ints (P := Try.prog) w 34 5 32 .u8 Try.underlying34 Try.underlying5 sizeOf_u8 (nn x) (nn y) (by rw [nn_length, hx]) (by rw [nn_length, hy])
  rw [hb] at h
  exact h
theorem mem_takeS {l : List (List Nat)} {x : List Nat} {j : Nat} (h : j < l.length) (e : Bool) (he : (nn (l.getD j []) == nn x) = e) : decide (x ∈ l.take (j + 1)) = (decide (x ∈ l.take j) || e) := by
  have hn : e = decide (l.getD j [] = x) := by
    rw [← he]
    generalize l.getD j [] = y
    by_cases h : y = x
    · simp [h]
    · have : nn y ≠ nn x := fun e => h (nn_inj e)
      simp [h, this]
  rw [hash_take h, hn]
  generalize l.getD j [] = y
  by_cases h1 : x ∈ l.take j
  · simp [h1]
  · by_cases h2 : y = x
    · simp [h2]
    · have h3 : ¬ x = y := fun e => h2 e.symm
      simp [h1, h2, h3]
end Go.Proofs.Ytloogjdojojehaa
