/- Pads as lists of bytes; small laws on slices of the call's own. -/
import Derived.Test.YtgagafefhmofjaaSBlocks
import Derived.Test.YtgagafefhmofjaaOwnM
import Derived.WalkMore
namespace Go.Proofs.Ytgagafefhmofjaa
open Go.RowKit Go.Shelf
set_option linter.unusedVariables false

/-- the byte j of a pad -/
def padF (key nc : List Nat) (j : Nat) : Nat := (padB key nc (j / 16)).getD (j % 16) 0
def padL (key nc : List Nat) (n : Nat) : List Nat := (List.range n).map (padF key nc)
theorem padL_len (key nc : List Nat) (n : Nat) : (padL key nc n).length = n := by simp [padL]
theorem padF_lt (key nc : List Nat) (j : Nat) : padF key nc j < 256 := padB_bys _ _
/-- these blocks, one behind the other -/
def flatP (key nc pre : List Nat) : List Nat := pre.flatMap (padB key nc)
theorem flatP_snoc (key nc pre : List Nat) (x : Nat) : flatP key nc (pre ++ [x]) = flatP key nc pre ++ padB key nc x := by simp [flatP]
theorem flatP_len (key nc : List Nat) : ∀ pre, (flatP key nc pre).length = 16 * pre.length
  | [] => rfl
  | x :: pre => by
    have := flatP_len key nc pre
    unfold flatP at this ⊢
    rw [List.flatMap_cons, List.length_append, this, padB_len, List.length_cons]; omega
theorem flatP_getD (key nc : List Nat) : ∀ k j, j < 16 * k → (flatP key nc (List.range k)).getD j 0 = padF key nc j
  | 0, j, h => by omega
  | k + 1, j, h => by
    rw [List.range_succ, flatP_snoc, List.getD_eq_getElem?_getD, List.getElem?_append]
    have hl : (flatP key nc (List.range k)).length = 16 * k := by rw [flatP_len, List.length_range]
    rw [hl]
    by_cases e : j < 16 * k
    · rw [if_pos e, ← List.getD_eq_getElem?_getD, flatP_getD key nc k j e]
    · rw [if_neg e, ← List.getD_eq_getElem?_getD]
      unfold padF
      rw [show j / 16 = k by omega, show j % 16 = j - 16 * k by omega]
theorem flatP_take (key nc : List Nat) (k n : Nat) (h : n ≤ 16 * k) : (flatP key nc (List.range k)).take n = padL key nc n :=
  getD_ext n (by rw [List.length_take, flatP_len, List.length_range]; omega) (padL_len _ _ _) fun j hj => by
    unfold padL
    rw [map_range_getD _ _ _ hj, ← flatP_getD key nc k j (by omega)]
    simp [List.getD_eq_getElem?_getD, hj]

theorem OwnB.kept {W W' : World} {base : Nat} {e : TypeId} {v : Value} {l : List Int} {row : Option Nat} (h : OwnB W base e v l) (hg : W.grownBy W' row) (hrow : ∀ r, row = some r → ∃ o : Obj, W.heap[r]? = some o ∧ o.isCells = false) : OwnB W' base e v l := by
  obtain ⟨h1, h2⟩ := h
  refine ⟨h1, ?_⟩
  rcases h2 with h2 | ⟨g, cap, cur, hv, hg', hh, r⟩
  · exact .inl h2
  · exact .inr ⟨g, cap, cur, hv, hg', (grownBy_keeps_cells hg hrow hh rfl).trans hh, r⟩
theorem Blk.grown {W W' : World} {b g : Nat} {t : TypeId} {vs : List Value} (h : Blk W b t vs) (hg : W.grownBy W' (some g)) (hne : b ≠ g) : Blk W' b t vs := by
  have h' := h
  unfold Blk at h' ⊢
  rw [hg.block b h.lt (by simp; omega)]
  exact h'
theorem info_u8 : (Try.prog.info? 5).map (fun i => (i.zero, i.size, i.bytes)) = some (some (.int .u8 0), 1, 1) := by kernel_rfl

section
variable {P : Program} {m : Nat} {ops : Array Oper} {rest : List Oper} {o : Oper} {a : Act} {w : World} {Q : Exit → Act → World → Prop}
theorem wpListIn_load_blkR (l : Nat) (hgd : o.guard = none) (ty : TypeId) (x : Operand) (ho : o.op = .load ty x)
    (g : Nat) (hx : a.eval x = .pointer (some ⟨g, 0, none⟩)) {t : TypeId} {cs : List Value} {d : TypeDesc} (hg : Blk w g t cs)
    (hu : P.underlying ty = some d) (hd : (match d with | .struct _ | .array _ _ => true | _ => false) = true) (hi : (P.info? ty).map (·.size) = some cs.length)
    (h : wpListIn (Fence.wide.inRound l) m P ops Q rest (a.put o.dst (.agg cs.toArray)) w) : wpListIn (Fence.wide.inRound l) m P ops Q (o :: rest) a w :=
  wpListIn_plain hgd fun K hK => operIn_of (K := fun a w => K a w) l (by rw [ho]; intro c hc; cases hc) (fun _ _ h => h) (wp_load_row ty x ho g hx t cs.toArray (0, 0) d hg hu hd (by simpa using hi) (hK _ _ h))
theorem wpListIn_store_blkR (l : Nat) (hgd : o.guard = none) (ty : TypeId) (x y : Operand) (ho : o.op = .store ty x y)
    (g : Nat) (cs : List Value) (hx : a.eval x = .pointer (some ⟨g, 0, none⟩)) (hy : a.eval y = .agg cs.toArray)
    {t : TypeId} {old : List Value} (hg : Blk w g t old) (hi : (P.info? ty).map (·.size) = some cs.length)
    (hold : old.length = cs.length) (h1 : cs.toArray.all (·.oneCell') = true)
    (h : wpListIn (Fence.wide.inRound l) m P ops Q rest (a.put o.dst undef) (w.setRow g cs.toArray)) : wpListIn (Fence.wide.inRound l) m P ops Q (o :: rest) a w :=
  wpListIn_plain hgd fun K hK => operIn_of (K := fun a w => K a w) l (by rw [ho]; intro c hc; cases hc) (fun _ _ h => h) (wp_store_row ty x y ho g cs.toArray hx hy t old.toArray hg (by simpa using hi) (by simpa using hold) h1 (hK _ _ h))
theorem wpListIn_alloc_atR (l : Nat) (hgd : o.guard = none) (t : TypeId) (ho : o.op = .alloc t) (v : Value) (ob : Obj) (hrun : (Instr.alloc t true (.tuple #[])).run P w = .ok v (w.alloc ob))
    (h : wpListIn (Fence.wide.inRound l) m P ops Q rest (a.put o.dst v) (w.alloc ob)) : wpListIn (Fence.wide.inRound l) m P ops Q (o :: rest) a w :=
  wpListIn_plain hgd fun K hK => operIn_of (K := fun a w => K a w) l (by rw [ho]; intro c hc; cases hc) (fun _ _ h => h) (by
    unfold Oper.wp execOp
    simp only [ho, Sem.run_bind, hrun, Result.andThen_ok]
    exact hK _ _ h)
end
theorem KpB.alloc (Bn M : Nat) (W : World) (o : Obj) : KpB Bn M W (W.alloc o) := fun k ok _ hk _ => (Below.heap_alloc W o k (Array.getElem?_eq_some_iff.1 hk).1).trans hk
theorem KpB.of_below {Bn M : Nat} {W W' : World} (h : Below W.heap.size W W') : KpB Bn M W W' := fun k ok _ hk _ => (h.block k (Array.getElem?_eq_some_iff.1 hk).1).trans hk
theorem OwnB.keep {w w' : World} {base : Nat} {e : TypeId} {v : Value} {l : List Int} (h : OwnB w base e v l) (hb : Below w.heap.size w w') : OwnB w' base e v l := h.below hb (fun k hk => (h.lt k hk).2)
theorem OwnB.other {w : World} {base : Nat} {e : TypeId} {g n cap : Nat} {l : List Int} (h : OwnB w base e (.slice (some ⟨g, 0, none⟩) n cap) l) {b : Nat} (hb : b ≠ g) (V : Value) : OwnB (w.setCell ⟨b, 0, none⟩ V) base e (.slice (some ⟨g, 0, none⟩) n cap) l := by
  obtain ⟨h1, h2⟩ := h
  refine ⟨h1, ?_⟩
  rcases h2 with h2 | ⟨g', cap', cur, hv, hg, hh, r⟩
  · exact .inl h2
  · cases hv
    refine .inr ⟨g, cap, cur, rfl, hg, ?_, r⟩
    rw [(grownBy_setCell' w b V).block g (Array.getElem?_eq_some_iff.1 hh).1 (by simp; omega)]
    exact hh
theorem fold_one (p : Tmp) (v : Value) (t : Array Value) : (#[p].zip #[v]).foldl (fun t (p, v) => t.setIfInBounds p v) t = t.setIfInBounds p v := by simp
theorem KpB.row {Bn M g : Nat} {W : World} (cs : Array Value) (h1 : g ≠ Bn) (h2 : g < M) : KpB Bn M W (W.setRow g cs) := fun k ok hk ho _ => by
  rw [setRow_other W g k cs (by rcases hk with hk | hk <;> omega)]; exact ho
theorem KpB.refl (Bn M : Nat) (W : World) : KpB Bn M W W := fun _ _ _ h _ => h
/-- a block that is neither the nonce's nor made from M on is written -/
theorem KpB.grown {Bn M g : Nat} {W W' : World} (h : W.grownBy W' (some g)) (h1 : g ≠ Bn) (h2 : g < M) : KpB Bn M W W' := fun k ok hk ho _ =>
  (h.block k (Array.getElem?_eq_some_iff.1 ho).1 (by intro e; cases e; rcases hk with hk | hk <;> omega)).trans ho
theorem s_till (n Bk Bn N : Nat) (key nc : List Nat) (hk : key.length = 32) (hkb : Bys key) (hn : nc.length = 16) (hnb : Bys nc) (hNN : N ≤ 65536) (h2 : 2 ≤ n) (w : World)
    (hBk : Blk w Bk 23 (ints .u8 (nn key))) (hBn : Blk w Bn 28 (ints .u8 (nn nc))) :
    SeqTill n Try.prog 45 #[.pointer (some ⟨Bk, 0, none⟩), .pointer (some ⟨Bn, 0, none⟩)] (fun x : Nat => #[.agg (ints .u8 (nn (padB key nc x))).toArray]) (KpB Bn w.heap.size) (fun pre => ∃ k, pre = List.range k) N w :=
  fun l J Jx W hW hJ hJx hlen hY h0 => s_blocks_in n l Bk Bn w.heap.size N key nc hk hkb hn hnb hNN J Jx h2 W hW.size hJ hlen hY (hBk.below hW hBk.lt) (hBn.below hW hBn.lt) h0
end Go.Proofs.Ytgagafefhmofjaa
