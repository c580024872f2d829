/- Whole rows that lie wherever are read, in walks of iterators and of their rounds. -/
import Derived.Test.YtpjfafefgmjmfaaSlc
import Derived.Test.YtpjfafefgmjmfaaG1
namespace Go.Proofs.Ytpjfafefgmjmfaa
open Go.RowKit
set_option linter.unusedVariables false

section
variable {P : Program} {m : Nat} {ops : Array Oper} {rest : List Oper} {o : Oper} {a : Act} {w : World} {Q : Exit → Act → World → Prop}
theorem wp_load_addr {K : Act → World → Prop} (ty : TypeId) (x : Operand) (ho : o.op = .load ty x)
    (p : Addr) (hx : a.eval x = .pointer (some p)) (cs : List Value) {d : TypeDesc} (hc : ∀ j v, cs[j]? = some v → w.cell? (p.add j) = some v)
    (hu : P.underlying ty = some d) (hd : d.isRow = true) (hi : (P.info? ty).map (·.size) = some cs.length)
    (h : K (a.put o.dst (.agg cs.toArray)) w) : o.wp P a w K Q := by
  unfold Oper.wp execOp
  simp only [ho, hx, Instr.loadAt, Instr.sureAddr, Sem.run_bind, Sem.run_pure, Result.andThen_ok, run_loadVar_addr w p ty cs d hc hu hd hi]
  exact h
theorem wpListIn_load_addr (hgd : o.guard = none) (ty : TypeId) (x : Operand) (ho : o.op = .load ty x)
    (p : Addr) (hx : a.eval x = .pointer (some p)) (cs : List Value) {d : TypeDesc} (hc : ∀ j v, cs[j]? = some v → w.cell? (p.add j) = some v)
    (hu : P.underlying ty = some d) (hd : d.isRow = true) (hi : (P.info? ty).map (·.size) = some cs.length)
    (h : wpListIn Fence.wide m P ops Q rest (a.put o.dst (.agg cs.toArray)) w) : wpListIn Fence.wide m P ops Q (o :: rest) a w :=
  wpListIn_plain hgd fun K hK => operIn_wide (by rw [ho]; intro c hc; cases hc) (wp_load_addr ty x ho p hx cs hc hu hd hi (hK _ _ h))
theorem wpListIn_load_addrR (l : Nat) (hgd : o.guard = none) (ty : TypeId) (x : Operand) (ho : o.op = .load ty x)
    (p : Addr) (hx : a.eval x = .pointer (some p)) (cs : List Value) {d : TypeDesc} (hc : ∀ j v, cs[j]? = some v → w.cell? (p.add j) = some v)
    (hu : P.underlying ty = some d) (hd : d.isRow = true) (hi : (P.info? ty).map (·.size) = some cs.length)
    (h : wpListIn (Fence.wide.inRound l) m P ops Q rest (a.put o.dst (.agg cs.toArray)) w) : wpListIn (Fence.wide.inRound l) m P ops Q (o :: rest) a w :=
  wpListIn_plain hgd fun K hK => operIn_of (K := fun a w => K a w) l (by rw [ho]; intro c hc; cases hc) (fun _ _ h => h) (wp_load_addr ty x ho p hx cs hc hu hd hi (hK _ _ h))
end
/-- what a round must keep: whatever cells lay below B, at G, or were made from M on -/
def KpC (B G M : Nat) (X Y : World) : Prop := ∀ k o, (k < B ∨ k = G ∨ M ≤ k) → X.heap[k]? = some o → o.isCells = true → Y.heap[k]? = some o
theorem KpC.refl (B G M : Nat) (W : World) : KpC B G M W W := fun _ _ _ h _ => h
theorem KpC.trans {B G M : Nat} {X Y Z : World} (h : KpC B G M X Y) (k : KpC B G M Y Z) : KpC B G M X Z := fun i o hi ho hc => k i o hi (h i o hi ho hc) hc
theorem KpC.put {B G M : Nat} (W : World) (l : Nat) (o o' : Obj) (h : W.heap[l]? = some o) (hc : o.isCells = false) : KpC B G M W (W.putObj l o') := fun i oi hi ho hc' => by
  by_cases e : i = l
  · subst e
    rw [h] at ho
    cases ho
    rw [hc] at hc'
    cases hc'
  · exact (World.putObj_heap_other (by omega)).trans ho
theorem KpC.of_below {B G M : Nat} {W W' : World} (h : Below W.heap.size W W') : KpC B G M W W' := fun i o hi ho hc => by
  have hlt := (Array.getElem?_eq_some_iff.1 ho).1
  rw [h.block i hlt]; exact ho
theorem KpC.blk {B G M : Nat} {X Y : World} (h : KpC B G M X Y) {b : Nat} {t : TypeId} {vs : List Value} (hb : b < B ∨ b = G ∨ M ≤ b) (k : Blk X b t vs) : Blk Y b t vs := h b _ hb k rfl
/-- a cell outside of what is kept is written -/
theorem KpC.setCell {B G M : Nat} (W : World) (a : Addr) (v : Value) (h1 : B ≤ a.block) (h2 : a.block ≠ G) (h3 : a.block < M) : KpC B G M W (W.setCell a v) := fun i o hi ho _ => by
  rw [Below.heap_setCell W a v i (by omega)]; exact ho
theorem cells_of {w : World} {a : Addr} {x : Value} (h : w.cell? a = some x) : ∃ o, w.heap[a.block]? = some o ∧ o.isCells = true := by
  unfold World.cell? at h
  cases ho : w.heap[a.block]? with
  | none => rw [ho] at h; cases h
  | some o =>
    rw [ho] at h
    cases o <;> first | exact ⟨_, rfl, rfl⟩ | cases h
theorem cell_same {X Y : World} {a : Addr} (h : Y.heap[a.block]? = X.heap[a.block]?) : Y.cell? a = X.cell? a := by unfold World.cell?; rw [h]
/-- rows that lie below B are kept -/
theorem Sl.kept {B G M : Nat} {X Y : World} {k : Nat} (hk0 : 0 < k) {p : Option Addr} {n cap : Nat} {rows : List (List Value)} (h : Sl X k (.slice p n cap) rows) (hk : KpC B G M X Y) (hB : ∀ a, p = some a → 0 < n → a.block < B) : Sl Y k (.slice p n cap) rows := by
  obtain ⟨h1, p', cap', e, h3⟩ := h
  cases e
  refine ⟨h1, p, cap, rfl, fun i r hr => ?_⟩
  obtain ⟨a, rfl, q2, q3⟩ := h3 i r hr
  have hi : i < rows.length := (List.getElem?_eq_some_iff.1 hr).1
  have hrk := h1 r (List.mem_of_getElem? hr)
  have hb := hB a rfl (by omega)
  obtain ⟨o, ho, hc⟩ := cells_of (q3 0 (r[0]'(by omega)) (List.getElem?_eq_getElem _))
  rw [add_block] at ho
  have hY := hk _ o (.inl hb) ho hc
  refine ⟨a, rfl, (Array.getElem?_eq_some_iff.1 hY).1, fun j x hx => ?_⟩
  rw [cell_same (X := X) (by rw [add_block, hY, ho])]
  exact q3 j x hx
theorem Sl.lt {w : World} {k : Nat} {p : Option Addr} {n cap : Nat} {rows : List (List Value)} (h : Sl w k (.slice p n cap) rows) : ∀ a, p = some a → 0 < n → a.block < w.heap.size := by
  obtain ⟨_, p', cap', e, h3⟩ := h
  cases e
  rintro a rfl h0
  obtain ⟨a', e', q, _⟩ := h3 0 _ (List.getElem?_eq_getElem h0)
  cases e'
  exact q
end Go.Proofs.Ytpjfafefgmjmfaa
