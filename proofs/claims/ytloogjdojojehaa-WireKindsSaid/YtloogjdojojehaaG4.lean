/- Lists of texts and of numbers, as rows: as arguments, made by the call itself, cut at their end; the reference's Same. -/
import Derived.Test.YtloogjdojojehaaJ1
import Derived.Test.YtloogjdojojehaaG1
import Derived.Test.YtloogjdojojehaaG2
import Derived.Great.BuildSlice
namespace Go.Proofs.Ytloogjdojojehaa
open Go.RowKit Go.ChangeShapes Go.WideShapes
set_option linter.unusedVariables false

/-- texts as rows -/
def rowsS (l : List (List Nat)) : List (List Value) := l.map fun x => [.string (tx x)]
theorem rowsS_len (l : List (List Nat)) : (rowsS l).length = l.length := by simp [rowsS]
theorem rowsS_at {l : List (List Nat)} {j : Nat} (h : j < l.length) : (rowsS l)[j]? = some [.string (tx (l.getD j []))] := by simp [rowsS, h]
theorem rowsS_app (a b : List (List Nat)) : rowsS (a ++ b) = rowsS a ++ rowsS b := by simp [rowsS]
theorem OwnR.kept {W W' : World} {base : Nat} {e : TypeId} {k : Nat} {v : Value} {rows : List (List Value)} {row : Option Nat} (h : OwnR W base e k v rows) (hg : W.grownBy W' row) (hrow : ∀ r, row = some r → ∃ o : Obj, W.heap[r]? = some o ∧ o.isCells = false) : OwnR W' base e k v rows := by
  obtain ⟨h0, h1, h2⟩ := h
  refine ⟨h0, h1, ?_⟩
  rcases h2 with h2 | ⟨g, cap, cur, hv, hg', hh, r⟩
  · exact .inl h2
  · exact .inr ⟨g, cap, cur, hv, hg', (grownBy_keeps_cells hg hrow hh rfl).trans hh, r⟩
theorem OwnR.isCells {W : World} {base : Nat} {e : TypeId} {k : Nat} {v : Value} {rows : List (List Value)} (h : OwnR W base e k v rows) : ∀ (j : Nat) (o : Obj), v.ownBlock = some j → W.heap[j]? = some o → o.isCells = true := by
  intro j o hj ho
  rcases h.2.2 with ⟨hv, _⟩ | ⟨g, cap, cur, hv, hg, hh, r⟩
  · rw [hv] at hj; cases hj
  · rw [hv] at hj
    cases hj
    rw [hh] at ho
    cases ho
    rfl
theorem OwnR.lower {W : World} {base base' : Nat} {e : TypeId} {k : Nat} {v : Value} {rows : List (List Value)} (h : OwnR W base e k v rows) (hle : base' ≤ base) : OwnR W base' e k v rows := by
  obtain ⟨h0, h1, h2⟩ := h
  refine ⟨h0, h1, ?_⟩
  rcases h2 with h2 | ⟨g, cap, cur, hv, hg, r⟩
  · exact .inl h2
  · exact .inr ⟨g, cap, cur, hv, Nat.le_trans hle hg, r⟩
theorem info_str : (Try.prog.info? 9).map (fun i => (i.zero, i.size, i.bytes)) = some (some (.string ⟨#[]⟩), 1, 16) := by kernel_rfl
theorem SlS.cell {w : World} {p : Option Addr} {n cap : Nat} {l : List (List Nat)} (h : Sl w 1 (.slice p n cap) (rowsS l)) {j : Nat} (hj : j < l.length) : ∃ a : Addr, p = some a ∧ w.cell? (a.add j) = some (.string (tx (l.getD j []))) := by
  obtain ⟨a, e, hc⟩ := h.row (rowsS_at hj)
  exact ⟨a, e, by have := hc 0 _ rfl; rw [Nat.mul_one] at this; exact this⟩
section
variable {H : Type} {enc : TypeId × Value → H} {w : World} {base : Nat} {spare : Nat → Bool} {held : Bool}
theorem open_texts {p0 : Option Addr} {len cap : Nat} {d : DataW H} {p : List MemPlace} (h : DataW.Trod enc Try.prog w base spare held 27 (.slice p0 len cap) d p) :
    ∃ l : List (List Nat), l.length = len ∧ Sl w 1 (.slice p0 len cap) (rowsS l) ∧ (∀ x ∈ l, Bys x) ∧ (Value.slice p0 len cap = .slice none 0 0 ∨ ∃ ad n c, Value.slice p0 len cap = .slice (some ad) n c) ∧ len ≤ cap ∧ cap ≤ maxLen := by
  obtain ⟨m, hm⟩ := h
  have hcells : (Value.slice p0 len cap).cells.toList = [.slice p0 len cap] := rfl
  rw [hcells] at hm
  rcases Deep.open_slice1 Try.underlying27 (by kernel_rfl) hm with ⟨hcs, _⟩ | ⟨a, len', cap', m', n, V, D, Pl, hcs, hb, hl, hcap, hmm, hx, hall⟩
  · cases hcs
    exact ⟨[], rfl, Sl.none 1, fun q h => (by cases h), .inl rfl, Nat.le_refl _, by simp [maxLen]⟩
  · cases hcs
    have hlm : len ≤ m' := by rw [hmm]; split <;> omega
    have each : ∀ i, i < len → ∃ q : ByteArray, V i = .string q := fun i hi => by
      obtain ⟨_, g0⟩ := hall i (by omega)
      obtain ⟨x, e0, _, w0⟩ := DataW.trod_string Try.underlying9 g0
      exact ⟨x, by simpa using e0⟩
    obtain ⟨q, hq⟩ := Deep.choose_lt each
    refine ⟨(List.range len).map fun i => sl (q i), by simp, ?_, fun x hx => ?_, .inr ⟨_, _, _, rfl⟩, by omega, by omega⟩
    · unfold rowsS
      rw [List.map_map]
      refine rows_of a len cap _ (fun i hi => rfl) (fun h0 => ?_) (fun i hi j x hj => ?_)
      · have := cell_lt (hall 0 (by omega)).1
        rwa [add_block] at this
      · obtain ⟨g0, _⟩ := hall i (by omega)
        have e0 := hq i hi
        match j, hj with
        | 0, hj =>
          have hj' : Value.string (tx (sl (q i))) = x := by simpa using hj
          rw [← hj', tx_sl, ← e0, Nat.mul_one]
          exact g0
        | _ + 1, hj => simp at hj
    · obtain ⟨i, hi, rfl⟩ := List.mem_map.1 hx
      exact sl_bys _
end
theorem Sl.taken {w : World} {k : Nat} {p : Option Addr} {n cap : Nat} {rows : List (List Value)} (h : Sl w k (.slice p n cap) rows) {m : Nat} (hm : m ≤ rows.length) (cap' : Nat) : Sl w k (.slice p m cap') (rows.take m) := by
  obtain ⟨h1, p', c', e, h3⟩ := h
  cases e
  refine ⟨fun r hr => h1 r (List.mem_of_mem_take hr), p, cap', by rw [List.length_take, Nat.min_eq_left hm], fun i r hr => h3 i r ?_⟩
  rw [List.getElem?_take] at hr
  split at hr
  · exact hr
  · cases hr
/-- numbers as rows -/
def rowsE (l : List Nat) : List (List Value) := l.map fun (x : Nat) => [.int .i64 (x : Int)]
theorem rowsE_len (l : List Nat) : (rowsE l).length = l.length := by simp [rowsE]
theorem rowsE_at {l : List Nat} {j : Nat} (h : j < l.length) : (rowsE l)[j]? = some [.int .i64 ((l.getD j 0 : Nat) : Int)] := by simp [rowsE, h]
theorem rowsE_snoc (l : List Nat) (x : Nat) : rowsE (l ++ [x]) = rowsE l ++ [[.int .i64 (x : Int)]] := by simp [rowsE]
theorem SlE.cell {w : World} {p : Option Addr} {n cap : Nat} {l : List Nat} (h : Sl w 1 (.slice p n cap) (rowsE l)) {j : Nat} (hj : j < l.length) : ∃ a : Addr, p = some a ∧ w.cell? (a.add j) = some (.int .i64 ((l.getD j 0 : Nat) : Int)) := by
  obtain ⟨a, e, hc⟩ := h.row (rowsE_at hj)
  exact ⟨a, e, by have := hc 0 _ rfl; rw [Nat.mul_one] at this; exact this⟩
theorem info_intK : (Try.prog.info? 3).map (fun i => (i.zero, i.size, i.bytes)) = some (some (.int .i64 0), 1, 8) := by kernel_rfl
end Go.Proofs.Ytloogjdojojehaa
namespace Go.Proofs.Ytloogjdojojehaa
open Go.RowKit
set_option linter.unusedVariables false

section
variable {P : Program} {C : World → Prop} {zs : Array Oper} {Q : Act → Prop} {op : Oper} {rest : List Oper} {a : Act}
/-- a whole row is read at any address, in a class of worlds -/
theorem wpQuiet_load_addr (hgd : Region.wanted op (yielded zs a.tmps) = true) (ty : TypeId) (x : Operand) (ho : op.op = .load ty x)
    (p : Addr) (hx : a.eval x = .pointer (some p)) (cs : List Value) {d : TypeDesc} (hc : ∀ w', C w' → ∀ j v, cs[j]? = some v → w'.cell? (p.add j) = some v)
    (hu : P.underlying ty = some d) (hd : d.isRow = true) (hi : (P.info? ty).map (·.size) = some cs.length)
    (h : wpQuiet P zs C Q rest (a.put op.dst (.agg cs.toArray))) : wpQuiet P zs C Q (op :: rest) a := by
  unfold wpQuiet
  rw [if_pos hgd]
  refine ⟨.agg cs.toArray, fun w' hw' => ?_, h⟩
  unfold Oper.quietAt execOp
  simp only [ho, hx, Instr.loadAt, Instr.sureAddr, Sem.run_bind, Sem.run_pure, Result.andThen_ok, run_loadVar_addr w' p ty cs d (hc w' hw') hu hd hi, Oper.quietUpon]
  trivial
end
section
variable {P : Program} {ops : Array Oper} {rest : List Oper} {o : Oper} {a : Act} {w : World} {Q : Exit → Act → World → Prop}
theorem wpList_min2 (hgd : o.guard = none) (x y : Operand) (i : TypeId) (ho : o.op = .call { callee := .builtin .min, args := #[x, y], argTypes := #[i, i] })
    (A B N : Int) (hx : a.eval x = .int .i64 A) (hy : a.eval y = .int .i64 B) (hN : (if B < A then B else A) = N)
    (h : wpList P ops Q rest (a.put o.dst (.int .i64 N)) w) : wpList P ops Q (o :: rest) a w := by
  refine wpList_plain hgd fun K hK => ?_
  subst hN
  unfold Oper.wp execOp
  simp only [ho, resolve, invoke, builtin, Sem.run_bind, Sem.run_pure, Result.andThen_ok, List.map_toArray, List.map_cons, List.map_nil, hx, hy, Builtin.min_, Builtin.min2, List.foldlM_cons, List.foldlM_nil]
  exact hK _ _ h
end
end Go.Proofs.Ytloogjdojojehaa
namespace Go.Proofs.Ytloogjdojojehaa
open Go.RowKit
set_option linter.unusedVariables false

theorem OwnR.rowApart {w : World} {base : Nat} {e : TypeId} {k : Nat} {v : Value} {rows : List (List Value)} (h : OwnR w base e k v rows) (r : Nat) (row : Array Value) (hne : ∀ b, v.ownBlock = some b → b ≠ r) : OwnR (w.setRow r row) base e k v rows := by
  obtain ⟨k0, k1, k2⟩ := h
  refine ⟨k0, k1, ?_⟩
  rcases k2 with h | ⟨g, cap, cur, hv, hg, hh, rest⟩
  · exact .inl h
  · refine .inr ⟨g, cap, cur, hv, hg, ?_, rest⟩
    have hB : Blk w g e cur.toList := by unfold Blk; exact hh
    have hB' := hB.rowOther (g := r) (hne g (by rw [hv]; rfl)) row
    unfold Blk at hB'
    exact hB'
/-! ### a slice literal of one row -/
theorem fold_row : ∀ (xs pre ys : List Value), ys.length = xs.length → (xs.zipIdx pre.length).foldl (fun (cs : Array Value) x => cs.setIfInBounds (0 + x.2) x.1) (pre ++ ys).toArray = (pre ++ xs).toArray
  | [], pre, ys, h => by
    obtain rfl := List.eq_nil_of_length_eq_zero h
    rfl
  | x :: xs, pre, [], h => by simp at h
  | x :: xs, pre, y :: ys, h => by
    have ih := fold_row xs (pre ++ [x]) ys (by simpa using h)
    rw [List.length_append, List.length_singleton] at ih
    rw [List.zipIdx_cons, List.foldl_cons]
    have e : ((pre ++ y :: ys).toArray.setIfInBounds (0 + pre.length) x) = ((pre ++ [x]) ++ ys).toArray := by
      rw [List.setIfInBounds_toArray, Nat.zero_add, List.set_append_right _ _ (Nat.le_refl _), Nat.sub_self]
      simp
    simp only [e]
    rw [ih]
    simp
theorem fill_row (k : Nat) (cells : Array Value) (r : List Value) (hr : r.length = k) (hc : cells.size = k) : Instr.fill (fun i => some (i * k, k)) cells [(0, .agg r.toArray)] = some r.toArray := by
  have hf := fold_row r [] cells.toList (by simp [hr, hc])
  have hv : (Value.agg r.toArray).cells = r.toArray := rfl
  simp only [Instr.fill, hv, List.size_toArray, hr, hc, Nat.zero_mul, Nat.zero_add]
  simp only [List.nil_append, List.length_nil, Nat.zero_add, Array.toArray_toList] at hf
  rw [← Array.foldl_toList, Array.toList_zipIdx, hf]
  simp
section
variable {P : Program} {ops : Array Oper} {rest : List Oper} {o : Oper} {a : Act} {w : World} {Q : Exit → Act → World → Prop}
/-- a slice literal of one row of k cells -/
theorem wpList_buildRow (hg : o.guard = none) (t e : TypeId) (parts : Array (Nat × Operand)) (ho : o.op = .buildSlice t 1 parts) (r : List Value) (ie : TypeInfo) (z : Value) (N : Nat) (hN : w.heap.size = N)
    (hu : P.underlying t = some (.slice e)) (hie : P.info? e = some ie) (hz : ie.zero = some z) (hk : ie.size = r.length) (h0 : 0 < r.length) (h1 : r.length ≤ 1000) (hp : (parts.map fun (i, x) => (i, a.eval x)).toList = [(0, .agg r.toArray)])
    (h : wpList P ops Q rest (a.put o.dst (.slice (some ⟨N, 0, none⟩) 1 1)) (w.alloc (.cells r.toArray e))) : wpList P ops Q (o :: rest) a w := by
  subst hN
  exact wpList_buildSlice hg t e 1 parts ho r.toArray ie z hu hie hz (by rw [hk]; omega) (by rw [hk]; omega) (by rw [hp]; exact fill_row _ _ r hk.symm (by rw [hk]; simp)) h
end
end Go.Proofs.Ytloogjdojojehaa
