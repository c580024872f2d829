/- Slices of tokens as arguments. -/
import Derived.Test.YtloncdnnblkpdaaWSpl
import Derived.OpenShut
import Derived.ChangeSame
namespace Go.Proofs.Ytloncdnnblkpdaa
open Go.ChangeShapes Go.WideShapes Go.ChangeAt Go.RowKit
set_option linter.unusedVariables false

section
variable {H : Type} {enc : TypeId × Value → H} {P : Program} {w : World} {base : Nat} {spare : Nat → Bool} {held : Bool}
/-- a slice of structs of three integers, as an argument: nil, or somewhere -/
theorem open_triples {t e : TypeId} {f0 f1 f2 : Field} {k0 k1 k2 : IntKind} {p0 : Option Addr} {len cap : Nat} {d : DataW H} {p : List MemPlace} (ht : P.underlying t = some (.slice e)) (he : P.underlying e = some (.struct #[f0, f1, f2]))
    (ce : P.cellsOf e = 3) (o0 : f0.offset = 0) (o1 : f1.offset = 1) (o2 : f2.offset = 2) (c0 : P.cellsOf f0.type = 1) (c1 : P.cellsOf f1.type = 1) (c2 : P.cellsOf f2.type = 1) (u0 : P.underlying f0.type = some (.int k0)) (u1 : P.underlying f1.type = some (.int k1)) (u2 : P.underlying f2.type = some (.int k2))
    (h : DataW.Trod enc P w base spare held t (.slice p0 len cap) d p) :
    ∃ l : List (Int × Int × Int), l.length = len ∧ Sl w 3 (.slice p0 len cap) (l.map fun q => [.int k0 q.1, .int k1 q.2.1, .int k2 q.2.2]) ∧ (∀ q ∈ l, (Lit.int k0 q.1).wf = true ∧ (Lit.int k1 q.2.1).wf = true ∧ (Lit.int k2 q.2.2).wf = true) ∧
      (Value.slice p0 len cap = .slice none 0 0 ∨ ∃ ad n c, Value.slice p0 len cap = .slice (some ad) n c) := by
  obtain ⟨m, hm⟩ := h
  have hcells : (Value.slice p0 len cap).cells.toList = [.slice p0 len cap] := rfl
  rw [hcells] at hm
  rcases Deep.open_slice ht hm with ⟨hcs, _⟩ | ⟨a, len', cap', m', n, D, Pl, hcs, hb, hl, hcap, hmm, hx0, hx⟩
  · cases hcs
    exact ⟨[], rfl, Sl.none 3, (fun q h => by simp at h), .inl rfl⟩
  · cases hcs
    have hlm : len ≤ m' := by rw [hmm]; split <;> omega
    have each : ∀ i, i < len → ∃ q : Int × Int × Int, w.cell? (a.add (i * 3)) = some (.int k0 q.1) ∧ w.cell? (a.add (i * 3 + 1)) = some (.int k1 q.2.1) ∧ w.cell? (a.add (i * 3 + 2)) = some (.int k2 q.2.2) ∧ (Lit.int k0 q.1).wf = true ∧ (Lit.int k1 q.2.1).wf = true ∧ (Lit.int k2 q.2.2).wf = true := by
      intro i hi
      obtain ⟨cs', h1, h2⟩ := hx i (by omega)
      rw [ce] at h1
      obtain ⟨_, hlen, hcell⟩ := World.cells?_some h1
      obtain ⟨xs, k, hk, hxy, _, hxl, hf⟩ := DataW.trod_struct he h2
      match xs, hxl, cs', hlen with
      | [y0, y1, y2], _, [v0, v1, v2], _ =>
        have g0 := hf 0 f0 rfl
        have g1 := hf 1 f1 rfl
        have g2 := hf 2 f2 rfl
        simp [o0, o1, o2, c0, c1, c2] at g0 g1 g2
        have e0 := hcell 0 (by omega)
        have e1 := hcell 1 (by omega)
        have e2 := hcell 2 (by omega)
        rw [Deep.add_add] at e0 e1 e2
        obtain ⟨x, q0, _, w0⟩ := DataW.trod_int u0 g0
        obtain ⟨y, q1, _, w1⟩ := DataW.trod_int u1 g1
        obtain ⟨z, q2, _, w2⟩ := DataW.trod_int u2 g2
        obtain rfl : v0 = .int k0 x := by simpa using q0
        obtain rfl : v1 = .int k1 y := by simpa using q1
        obtain rfl : v2 = .int k2 z := by simpa using q2
        exact ⟨(x, y, z), by simpa using e0, by simpa using e1, by simpa using e2, w0, w1, w2⟩
    obtain ⟨q, hq⟩ := Deep.choose_lt each
    refine ⟨(List.range len).map q, by simp, ?_, fun r hr => ?_, .inr ⟨_, _, _, rfl⟩⟩
    · rw [List.map_map]
      refine rows_of a len cap _ (fun i hi => rfl) (fun h0 => ?_) (fun i hi j x hj => ?_)
      · have := cell_lt (hq 0 h0).1
        rwa [add_block] at this
      · obtain ⟨g0, g1, g2, _⟩ := hq i hi
        match j, hj with
        | 0, hj => cases hj; exact g0
        | 1, hj => cases hj; exact g1
        | 2, hj => cases hj; exact g2
        | _ + 3, hj => simp at hj
    · obtain ⟨i, hi, rfl⟩ := List.mem_map.1 hr
      exact (hq i (List.mem_range.1 hi)).2.2.2
theorem nat_toks : ∀ (l : List (Int × Int × Int)), (∀ q ∈ l, (Lit.int .u8 q.1).wf = true ∧ (Lit.int .i64 q.2.1).wf = true ∧ (Lit.int .i64 q.2.2).wf = true) → ∃ m : List (Nat × Int × Int), m.length = l.length ∧ (l.map fun q => [Value.int .u8 q.1, Value.int .i64 q.2.1, Value.int .i64 q.2.2]) = rowsT m ∧ ∀ q ∈ m, q.1 < 256
  | [], _ => ⟨[], rfl, rfl, fun q h => by cases h⟩
  | q :: l, h => by
    obtain ⟨m, h1, h2, h3⟩ := nat_toks l (fun q hq => h q (by simp [hq]))
    obtain ⟨n, e, hn⟩ := nat_u8 q.1 (h q (by simp)).1
    refine ⟨(n, q.2.1, q.2.2) :: m, by simp [h1], ?_, fun r hr => ?_⟩
    · have e2 : rowsT ((n, q.2.1, q.2.2) :: m) = rowT (n, q.2.1, q.2.2) :: rowsT m := rfl
      rw [List.map_cons, h2, e2, e]
      rfl
    · rcases List.mem_cons.1 hr with rfl | hr
      · exact hn
      · exact h3 r hr
theorem open_toks {p0 : Option Addr} {len cap : Nat} {d : DataW H} {p : List MemPlace} (h : DataW.Trod enc Try.prog w base spare held 28 (.slice p0 len cap) d p) :
    ∃ l : List (Nat × Int × Int), l.length = len ∧ Sl w 3 (.slice p0 len cap) (rowsT l) ∧ (∀ q ∈ l, q.1 < 256) ∧ (Value.slice p0 len cap = .slice none 0 0 ∨ ∃ ad n c, Value.slice p0 len cap = .slice (some ad) n c) := by
  obtain ⟨l, h1, h2, h3, h4⟩ := open_triples Try.underlying28 Try.underlying42 (by kernel_rfl) rfl rfl rfl (by kernel_rfl) (by kernel_rfl) (by kernel_rfl) Try.underlying5 Try.underlying3 Try.underlying3 h
  obtain ⟨m, q1, q2, q3⟩ := nat_toks l h3
  exact ⟨m, q1.trans h1, by rw [← q2]; exact h2, q3, h4⟩
end
end Go.Proofs.Ytloncdnnblkpdaa
