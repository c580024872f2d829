/- Slices of rows (structs of cells, or single cells), as they come in or are made: read at an index, told to be as they were, opened as arguments. -/
import Derived.Test.YtpjfafefgmjmfaaG1
import Derived.Deep.SlicePairs
import Derived.ChangeArms
import Derived.ChangeOld
namespace Go.Proofs.Ytpjfafefgmjmfaa
open Go.RowKit Go.ChangeShapes Go.WideShapes
set_option linter.unusedVariables false

/-- the slice value v has these rows, of k cells each -/
def Sl (w : World) (k : Nat) (v : Value) (rows : List (List Value)) : Prop :=
  (∀ r ∈ rows, r.length = k) ∧ ∃ p cap, v = .slice p rows.length cap ∧ ∀ i r, rows[i]? = some r → ∃ a : Addr, p = some a ∧ a.block < w.heap.size ∧ ∀ j x, r[j]? = some x → w.cell? (a.add (i * k + j)) = some x
theorem add_block (a : Addr) (n : Nat) : (a.add n).block = a.block := by unfold Addr.add; split <;> rfl
theorem Sl.below {w w' : World} {k : Nat} {v : Value} {rows : List (List Value)} (h : Sl w k v rows) (hb : Below w.heap.size w w') : Sl w' k v rows := by
  obtain ⟨h1, p, cap, h2, h3⟩ := h
  refine ⟨h1, p, cap, h2, fun i r hr => ?_⟩
  obtain ⟨a, q1, q2, q3⟩ := h3 i r hr
  refine ⟨a, q1, Nat.lt_of_lt_of_le q2 hb.size, fun j x hx => ?_⟩
  rw [hb.cell (by rw [add_block]; exact q2)]
  exact q3 j x hx
theorem Sl.alloc {w : World} {k : Nat} {v : Value} {rows : List (List Value)} (h : Sl w k v rows) (o : Obj) : Sl (w.alloc o) k v rows := h.below ((Below.refl _ _).alloc (Nat.le_refl _) o)
theorem Sl.isSlice {w : World} {k : Nat} {v : Value} {rows : List (List Value)} (h : Sl w k v rows) : ∃ p cap, v = .slice p rows.length cap := by
  obtain ⟨_, p, cap, h2, _⟩ := h
  exact ⟨p, cap, h2⟩
theorem Sl.row {w : World} {k : Nat} {p : Option Addr} {n cap : Nat} {rows : List (List Value)} (h : Sl w k (.slice p n cap) rows) {i : Nat} {r : List Value} (hr : rows[i]? = some r) :
    ∃ a : Addr, p = some a ∧ ∀ j x, r[j]? = some x → w.cell? ((a.add (i * k)).add j) = some x := by
  obtain ⟨_, p', cap', h2, h3⟩ := h
  cases h2
  obtain ⟨a, q1, _, q3⟩ := h3 i r hr
  exact ⟨a, q1, fun j x hx => by rw [Deep.add_add]; exact q3 j x hx⟩
theorem Sl.none {w : World} (k : Nat) : Sl w k (.slice .none 0 0) [] := ⟨(fun r h => by cases h), _, _, rfl, fun i r h => by simp at h⟩
section
variable {P : Program} {ops : Array Oper} {rest : List Oper} {o : Oper} {a : Act} {w : World} {Q : Exit → Act → World → Prop}
theorem run_loadVar_addr (w : World) (p : Addr) (ty : TypeId) (cs : List Value) (d : TypeDesc) (hc : ∀ j v, cs[j]? = some v → w.cell? (p.add j) = some v)
    (hu : P.underlying ty = some d) (hd : d.isRow = true) (hi : (P.info? ty).map (·.size) = some cs.length) :
    (loadVar ty p).run P w = .ok (.agg cs.toArray) w := by
  have hl : (loadCells p cs.length).run P w = .ok cs.toArray w := run_loadCells_list (P := P) w p cs hc
  cases hq : P.info? ty with
  | none => simp [hq] at hi
  | some i =>
    have hs : i.size = cs.length := by simpa [hq] using hi
    have hagg : (isAgg ty).run P w = .ok true w := by
      unfold isAgg
      rw [Sem.run_bind, run_underlying hu w]
      cases d <;> simp_all
    simp [loadVar, Sem.run_bind, hagg, sizeOf, typeInfo, hq, hs, hl]
/-- a whole row is read, wherever it lies -/
theorem wpList_load_addr (hgd : o.guard = none) (ty : TypeId) (x : Operand) (ho : o.op = .load ty x)
    (p : Addr) (hx : a.eval x = .pointer (some p)) (cs : List Value) {d : TypeDesc} (hc : ∀ j v, cs[j]? = some v → w.cell? (p.add j) = some v)
    (hu : P.underlying ty = some d) (hd : d.isRow = true) (hi : (P.info? ty).map (·.size) = some cs.length)
    (h : wpList P ops Q rest (a.put o.dst (.agg cs.toArray)) w) : wpList P ops Q (o :: rest) a w :=
  wpList_plain hgd fun _ hK => by
    unfold Oper.wp execOp
    simp only [ho, hx, Instr.loadAt, Instr.sureAddr, Sem.run_bind, Sem.run_pure, Result.andThen_ok, run_loadVar_addr w p ty cs d hc hu hd hi]
    exact hK _ _ h
end
/-! ### as arguments -/
section
variable {H : Type} {enc : TypeId × Value → H} {P : Program} {w : World} {base : Nat} {spare : Nat → Bool} {held : Bool}
theorem rows_of {k : Nat} (a : Addr) (len cap : Nat) (R : Nat → List Value) (hk : ∀ i, i < len → (R i).length = k) (hb : 0 < len → a.block < w.heap.size)
    (hc : ∀ i, i < len → ∀ j x, (R i)[j]? = some x → w.cell? (a.add (i * k + j)) = some x) : Sl w k (.slice (some a) len cap) ((List.range len).map R) := by
  refine ⟨fun r hr => ?_, some a, cap, by simp, fun i r hr => ?_⟩
  · obtain ⟨i, hi, rfl⟩ := List.mem_map.1 hr
    exact hk i (List.mem_range.1 hi)
  · have hi : i < len := by
      have := (List.getElem?_eq_some_iff.1 hr).1
      simpa using this
    rw [List.getElem?_map, List.getElem?_range hi] at hr
    cases hr
    exact ⟨a, rfl, hb (by omega), hc i hi⟩
theorem cell_lt {p : Addr} {v : Value} (h : w.cell? p = some v) : p.block < w.heap.size := by
  unfold World.cell? at h
  by_cases hb : p.block < w.heap.size
  · exact hb
  · rw [Array.getElem?_eq_none (by omega)] at h
    simp at h
/-- a slice of pairs of integers, as an argument -/
theorem open_pairs {t e : TypeId} {f0 f1 : Field} {k0 k1 : IntKind} {p0 : Option Addr} {len cap : Nat} {d : DataW H} {p : List MemPlace} (ht : P.underlying t = some (.slice e)) (he : P.underlying e = some (.struct #[f0, f1]))
    (ce : P.cellsOf e = 2) (o0 : f0.offset = 0) (o1 : f1.offset = 1) (c0 : P.cellsOf f0.type = 1) (c1 : P.cellsOf f1.type = 1) (u0 : P.underlying f0.type = some (.int k0)) (u1 : P.underlying f1.type = some (.int k1))
    (h : DataW.Trod enc P w base spare held t (.slice p0 len cap) d p) :
    ∃ l : List (Int × Int), l.length = len ∧ Sl w 2 (.slice p0 len cap) (l.map fun q => [.int k0 q.1, .int k1 q.2]) ∧ (∀ q ∈ l, (Lit.int k0 q.1).wf = true ∧ (Lit.int k1 q.2).wf = true) ∧ len ≤ maxLen := by
  obtain ⟨m, hm⟩ := h
  have hcells : (Value.slice p0 len cap).cells.toList = [.slice p0 len cap] := rfl
  rw [hcells] at hm
  rcases Deep.open_slice_pairs ht he ce o0 o1 c0 c1 hm with ⟨hcs, _⟩ | ⟨a, len', cap', m', n, V0, V1, D0, D1, P0, P1, hcs, hb, hl, hcap, hmm, hx, hall⟩
  · cases hcs
    exact ⟨[], rfl, Sl.none 2, fun q h => by simp at h, by simp [maxLen]⟩
  · cases hcs
    have hlm : len ≤ m' := by rw [hmm]; split <;> omega
    have each : ∀ i, i < len → ∃ q : Int × Int, V0 i = .int k0 q.1 ∧ V1 i = .int k1 q.2 ∧ (Lit.int k0 q.1).wf = true ∧ (Lit.int k1 q.2).wf = true := fun i hi => by
      obtain ⟨_, _, g0, g1⟩ := hall i (by omega)
      obtain ⟨x, e0, _, w0⟩ := DataW.trod_int u0 g0
      obtain ⟨y, e1, _, w1⟩ := DataW.trod_int u1 g1
      exact ⟨(x, y), by simpa using e0, by simpa using e1, w0, w1⟩
    obtain ⟨q, hq⟩ := Deep.choose_lt each
    refine ⟨(List.range len).map q, by simp, ?_, fun r hr => ?_, by omega⟩
    · rw [List.map_map]
      refine rows_of a len cap _ (fun i hi => rfl) (fun h0 => ?_) (fun i hi j x hj => ?_)
      · have := cell_lt (hall 0 (by omega)).1
        rwa [add_block] at this
      · obtain ⟨g0, g1, _, _⟩ := hall i (by omega)
        obtain ⟨e0, e1, _, _⟩ := hq i hi
        match j, hj with
        | 0, hj =>
          cases hj
          rw [← e0]; exact g0
        | 1, hj =>
          cases hj
          rw [← e1]; exact g1
        | _ + 2, hj => simp at hj
    · obtain ⟨i, hi, rfl⟩ := List.mem_map.1 hr
      obtain ⟨_, _, w0, w1⟩ := hq i (List.mem_range.1 hi)
      exact ⟨w0, w1⟩
/-- a slice of integers, as an argument -/
theorem open_nums {t e : TypeId} {k0 : IntKind} {p0 : Option Addr} {len cap : Nat} {d : DataW H} {p : List MemPlace} (ht : P.underlying t = some (.slice e)) (he : P.underlying e = some (.int k0))
    (ce : P.cellsOf e = 1) (h : DataW.Trod enc P w base spare held t (.slice p0 len cap) d p) :
    ∃ l : List Int, l.length = len ∧ Sl w 1 (.slice p0 len cap) (l.map fun q => [.int k0 q]) ∧ (∀ q ∈ l, (Lit.int k0 q).wf = true) ∧ len ≤ maxLen := by
  obtain ⟨m, hm⟩ := h
  have hcells : (Value.slice p0 len cap).cells.toList = [.slice p0 len cap] := rfl
  rw [hcells] at hm
  rcases Deep.open_slice1 ht ce hm with ⟨hcs, _⟩ | ⟨a, len', cap', m', n, V, D, Pl, hcs, hb, hl, hcap, hmm, hx, hall⟩
  · cases hcs
    exact ⟨[], rfl, Sl.none 1, fun q h => by simp at h, by simp [maxLen]⟩
  · cases hcs
    have hlm : len ≤ m' := by rw [hmm]; split <;> omega
    have each : ∀ i, i < len → ∃ q : Int, V i = .int k0 q ∧ (Lit.int k0 q).wf = true := fun i hi => by
      obtain ⟨_, g0⟩ := hall i (by omega)
      obtain ⟨x, e0, _, w0⟩ := DataW.trod_int he g0
      exact ⟨x, by simpa using e0, w0⟩
    obtain ⟨q, hq⟩ := Deep.choose_lt each
    refine ⟨(List.range len).map q, by simp, ?_, fun r hr => ?_, by omega⟩
    · rw [List.map_map]
      refine rows_of a len cap _ (fun i hi => rfl) (fun h0 => ?_) (fun i hi j x hj => ?_)
      · have := cell_lt (hall 0 (by omega)).1
        rwa [add_block] at this
      · obtain ⟨g0, _⟩ := hall i (by omega)
        obtain ⟨e0, _⟩ := hq i hi
        match j, hj with
        | 0, hj =>
          cases hj
          rw [← e0, Nat.mul_one]; exact g0
        | _ + 1, hj => simp at hj
    · obtain ⟨i, hi, rfl⟩ := List.mem_map.1 hr
      exact (hq i (List.mem_range.1 hi)).2
end
end Go.Proofs.Ytpjfafefgmjmfaa
