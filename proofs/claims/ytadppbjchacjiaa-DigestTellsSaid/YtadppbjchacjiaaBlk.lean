/- Blocks of memory that are known whole, as lists of values: small facts for walks over local arrays. -/
import Derived.WalkKit
import Derived.WalkSpells
import Derived.WalkLawsBesides
import Derived.WalkSmall
import Derived.Deep.QuietTactic
import Derived.BigQuiet
import Derived.Deep.MidRow
namespace Go.Proofs.Ytadppbjchacjiaa
open Go.RowKit
set_option linter.unusedVariables false

/-- block b of w holds just vs, and may be written. -/
def Blk (w : World) (b : Nat) (t : TypeId) (vs : List Value) : Prop := w.heap[b]? = some (.cells vs.toArray t (0, 0))

def ints (k : IntKind) (l : List Int) : List Value := l.map (Value.int k)

theorem ints_length (k : IntKind) (l : List Int) : (ints k l).length = l.length := by simp [ints]
theorem ints_set (k : IntKind) (l : List Int) (j : Nat) (x : Int) : (ints k l).set j (.int k x) = ints k (l.set j x) := by
  unfold ints; rw [List.map_set]
theorem ints_get (k : IntKind) (l : List Int) (j : Nat) (h : j < l.length) : (ints k l)[j]? = some (.int k (l.getD j 0)) := by
  unfold ints; rw [List.getElem?_map, List.getElem?_eq_getElem h]; simp [h]

namespace Blk
variable {w w' : World} {b : Nat} {t : TypeId} {vs : List Value}
theorem lt (h : Blk w b t vs) : b < w.heap.size := by
  unfold Blk at h
  by_cases hb : b < w.heap.size
  · exact hb
  · rw [Array.getElem?_eq_none (by omega)] at h; cases h
theorem cell (h : Blk w b t vs) (j : Nat) : w.cell? ⟨b, j, none⟩ = vs[j]? := by
  unfold Blk at h
  simp [World.cell?, h]
theorem free (h : Blk w b t vs) (j : Nat) : w.frozen? ⟨b, j, none⟩ = false := by
  unfold Blk at h
  simp [World.frozen?, h]
theorem int {k : IntKind} {l : List Int} (h : Blk w b t (ints k l)) {j : Nat} (hj : j < l.length) : w.cell? ⟨b, j, none⟩ = some (.int k (l.getD j 0)) := by
  rw [h.cell, ints_get k l j hj]
theorem set (h : Blk w b t vs) (j : Nat) (v : Value) : Blk (w.setCell ⟨b, j, none⟩ v) b t (vs.set j v) := by
  have hb := h.lt
  unfold Blk at h ⊢
  simp only [World.setCell]
  rw [Array.getElem?_modify]
  simp [h]
theorem setInt {k : IntKind} {l : List Int} (h : Blk w b t (ints k l)) (j : Nat) (x : Int) : Blk (w.setCell ⟨b, j, none⟩ (.int k x)) b t (ints k (l.set j x)) := by
  have := h.set j (.int k x)
  rwa [ints_set] at this
theorem other (h : Blk w b t vs) {a : Addr} (ha : a.block ≠ b) (v : Value) : Blk (w.setCell a v) b t vs := by
  unfold Blk at h ⊢
  rw [Below.heap_setCell w a v b (fun e => ha e.symm)]; exact h
theorem alloc (h : Blk w b t vs) (o : Obj) : Blk (w.alloc o) b t vs := by
  have hb := h.lt
  unfold Blk at h ⊢
  rw [Below.heap_alloc w o b hb]; exact h
theorem new (w : World) (t : TypeId) (vs : List Value) : Blk (w.alloc (.cells vs.toArray t)) w.heap.size t vs := by
  unfold Blk; exact heap_alloc_new w _
theorem new' (w : World) (t : TypeId) {c : Array Value} (vs : List Value) (hc : c = vs.toArray) : Blk (w.alloc (.cells c t)) w.heap.size t vs := by
  subst hc; exact new w t vs
theorem new2 (w : World) (A : Obj) (t : TypeId) {c : Array Value} (vs : List Value) (hc : c = vs.toArray) : Blk ((w.alloc A).alloc (.cells c t)) (w.heap.size + 1) t vs := by
  have h := new' (w.alloc A) t vs hc
  have e : (w.alloc A).heap.size = w.heap.size + 1 := by
    show (w.heap.push A).size = _
    simp
  rwa [e] at h
theorem below {B : Nat} (h : Blk w b t vs) (hB : Below B w w') (hb : b < B) : Blk w' b t vs := by
  unfold Blk at h ⊢
  rw [hB.block b hb]; exact h
theorem drew (h : Blk w b t vs) : Blk w.drew b t vs := h
theorem drewN (h : Blk w b t vs) (n : Nat) : Blk (w.drewN n) b t vs := h
theorem row (h : Blk w b t vs) (cs : List Value) (hl : cs.length = vs.length) : Blk (w.setRow b cs.toArray) b t cs := by
  unfold Blk at h ⊢
  exact setRow_heap w b _ _ t _ h
theorem whole (h : Blk w b t vs) : w.rangeAt b 0 vs := by
  intro j v hv
  rw [h.cell, Nat.zero_add]
  exact hv
theorem rowOther (h : Blk w b t vs) {g : Nat} (hg : b ≠ g) (cs : Array Value) : Blk (w.setRow g cs) b t vs := by
  unfold Blk at h ⊢
  rw [setRow_other w g b cs hg]; exact h
end Blk

theorem below_setRow {B : Nat} {a w : World} (h : Below B a w) {b : Nat} (hb : B ≤ b) (cs : Array Value) : Below B a (w.setRow b cs) := by
  refine h.trans ⟨rfl, rfl, rfl, by simp, fun k hk => ?_⟩
  exact setRow_other w b k cs (by omega)

theorem ints_one (k : IntKind) (l : List Int) : (ints k l).toArray.all (·.oneCell') = true := by
  rw [Array.all_eq_true_iff_forall_mem]
  intro v hv
  simp [ints] at hv
  obtain ⟨n, _, rfl⟩ := hv
  rfl
theorem run_index_ints {P : Program} (t e : TypeId) (n : Nat) (k kk : IntKind) (l : List Int) (j : Nat) (h : P.underlying t = some (.array n e)) (hi : ∃ q, P.underlying e = some q ∧ (match q with | .struct _ | .array _ _ => false | _ => true) = true) (hs : (P.info? e).map (·.size) = some 1) (hl : l.length = n) (hj : j < n) (w : World) :
    (Instr.index t (.agg (ints k l).toArray) (.int kk (j : Int))).run P w = .ok (.int k (l.getD j 0)) w := by
  obtain ⟨q, hq, hd⟩ := hi
  unfold Instr.index
  have hjl : j < l.length := by omega
  have hg : (ints k l)[j]? = some (.int k (l.getD j 0)) := ints_get k l j hjl
  cases hin : P.info? e with
  | none => simp [hin] at hs
  | some i0 =>
    have hsz : i0.size = 1 := by simpa [hin] using hs
    have hagg : (isAgg e).run P w = .ok false w := by
      unfold isAgg
      rw [Sem.run_bind, run_underlying hq w]
      cases q <;> simp_all
    simp [asIntOf, Sem.run_bind, run_underlying h w, sizeOf, typeInfo, hin, hsz, part, hagg, hj, hg]
section
variable {P : Program} {ops : Array Oper} {rest : List Oper} {o : Oper} {a : Act} {w : World} {Q : Exit → Act → World → Prop}
/-- the whole of a block is read -/
theorem wpList_load_blk (hgd : o.guard = none) (ty : TypeId) (x : Operand) (ho : o.op = .load ty x)
    (g : Nat) (hx : a.eval x = .pointer (some ⟨g, 0, none⟩)) {t : TypeId} {cs : List Value} {d : TypeDesc} (hg : Blk w g t cs)
    (hu : P.underlying ty = some d) (hd : (match d with | .struct _ | .array _ _ => true | _ => false) = true) (hi : (P.info? ty).map (·.size) = some cs.length)
    (h : wpList P ops Q rest (a.put o.dst (.agg cs.toArray)) w) : wpList P ops Q (o :: rest) a w :=
  wpList_load_row hgd ty x ho g hx t cs.toArray (0, 0) d hg hu hd (by simpa using hi) h
/-- the whole of a block is written -/
theorem wpList_store_blk (hgd : o.guard = none) (ty : TypeId) (x y : Operand) (ho : o.op = .store ty x y)
    (g : Nat) (cs : List Value) (hx : a.eval x = .pointer (some ⟨g, 0, none⟩)) (hy : a.eval y = .agg cs.toArray)
    {t : TypeId} {old : List Value} (hg : Blk w g t old) (hi : (P.info? ty).map (·.size) = some cs.length)
    (hold : old.length = cs.length) (h1 : cs.toArray.all (·.oneCell') = true)
    (h : wpList P ops Q rest (a.put o.dst undef) (w.setRow g cs.toArray)) : wpList P ops Q (o :: rest) a w :=
  wpList_store_row hgd ty x y ho g cs.toArray hx hy t old.toArray hg (by simpa using hi) (by simpa using hold) h1 h
theorem results_cell_blk {fn : Func} {p : Tmp} {ty : TypeId} (h : fn.results = #[.cell p ty]) (tmps : Array Value) (w : World) (g : Nat)
    (hp : tmps.getD p undef = .pointer (some ⟨g, 0, none⟩)) {t : TypeId} {cs : List Value} {d : TypeDesc} (hg : Blk w g t cs)
    (hu : P.underlying ty = some d) (hd : (match d with | .struct _ | .array _ _ => true | _ => false) = true) (hi : (P.info? ty).map (·.size) = some cs.length) :
    (results fn tmps).run P w = .ok (.agg cs.toArray) w :=
  results_cell_row h tmps w g t cs.toArray (0, 0) d hp hg hu hd (by simpa using hi)
end

end Go.Proofs.Ytadppbjchacjiaa
