/- Operations that stand under a guard which holds (general): a whole row loaded, own bytes told as a text, builtin min of two. -/
import Derived.Test.YtloogjdojojehaaG1
namespace Go.Proofs.Ytloogjdojojehaa
open Go.RowKit
set_option linter.unusedVariables false

section
variable {P : Program} {ops : Array Oper} {rest : List Oper} {o : Oper} {a : Act} {w : World} {Q : Exit → Act → World → Prop}
/-- the whole of a block is read, by a guarded operation, too -/
theorem wpList_load_blkW (hgd : Region.wanted o (yielded ops a.tmps) = true) (ty : TypeId) (x : Operand) (ho : o.op = .load ty x)
    (g : Nat) (hx : a.eval x = .pointer (some ⟨g, 0, none⟩)) {t : TypeId} {cs : List Value} {d : TypeDesc} (hg : Blk w g t cs)
    (hu : P.underlying ty = some d) (hd : (match d with | .struct _ | .array _ _ => true | _ => false) = true) (hi : (P.info? ty).map (·.size) = some cs.length)
    (h : wpList P ops Q rest (a.put o.dst (.agg cs.toArray)) w) : wpList P ops Q (o :: rest) a w := by
  unfold wpList
  rw [if_pos hgd]
  exact .inl (wp_load_row ty x ho g hx t cs.toArray (0, 0) d hg hu hd (by simpa using hi) h)
/-- own bytes are told as a text, under whatever guard holds -/
theorem wpList_string_ownG (hgd : Region.wanted o (yielded ops a.tmps) = true) (src dst e : TypeId) (x : Operand) (ho : o.op = .convert src dst x) (base : Nat) (v : Value) (l : List Int)
    (hx : a.eval x = v) (hs : P.underlying src = some (.slice e)) (he : P.underlying e = some (.int .u8)) (hd : P.underlying dst = some .string)
    (hown : OwnB w base e v l) (h : wpList P ops Q rest (a.put o.dst (.string (bs l))) w) : wpList P ops Q (o :: rest) a w := by
  unfold wpList
  rw [if_pos hgd]
  refine .inl ?_
  unfold Oper.wp execOp
  simp only [ho, hx, Sem.run_bind, run_string_own (P := P) (w := w) src dst e base v l hs he hd hown, Result.andThen_ok]
  exact h
theorem wpList_min2G (hgd : Region.wanted o (yielded ops a.tmps) = true) (x y : Operand) (i : TypeId) (ho : o.op = .call { callee := .builtin .min, args := #[x, y], argTypes := #[i, i] })
    (A B N : Int) (hx : a.eval x = .int .i64 A) (hy : a.eval y = .int .i64 B) (hN : (if B < A then B else A) = N)
    (h : wpList P ops Q rest (a.put o.dst (.int .i64 N)) w) : wpList P ops Q (o :: rest) a w := by
  unfold wpList
  rw [if_pos hgd]
  refine .inl ?_
  subst hN
  unfold Oper.wp execOp
  simp only [ho, resolve, invoke, builtin, Sem.run_bind, Sem.run_pure, Result.andThen_ok, List.map_toArray, List.map_cons, List.map_nil, hx, hy, Builtin.min_, Builtin.min2, List.foldlM_cons, List.foldlM_nil]
  exact h
end
end Go.Proofs.Ytloogjdojojehaa
