/- Rows of the call's own that are taken from at their head and appended to at their end; a region in open order whose operations keep all but one row. -/
import Derived.Test.YtpjdlkbpnodcdaaG1
import Derived.Test.YtpjdlkbpnodcdaaJ1
namespace Go.Proofs.Ytpjdlkbpnodcdaa
open Go.RowKit
set_option linter.unusedVariables false

/-- the slice value v has these cells, one an element, in a row of the call's own; it may have been cut at its head -/
def QS (w : World) (base : Nat) (e : TypeId) (v : Value) (xs : List Value) : Prop :=
  ∃ A cap, v = .slice A xs.length cap ∧ ((A = none ∧ cap = 0 ∧ xs = []) ∨ ∃ g off pre rest, A = some ⟨g, off, none⟩ ∧ base ≤ g ∧ Blk w g e (pre ++ (xs ++ rest)) ∧ xs.length + rest.length = cap ∧ cap ≤ maxLen ∧ (0 < cap → pre.length = off))
theorem QS.nil (w : World) (base : Nat) (e : TypeId) : QS w base e (.slice none 0 0) [] := ⟨none, 0, rfl, .inl ⟨rfl, rfl, rfl⟩⟩
theorem QS.ofOwn {w : World} {base : Nat} {e : TypeId} {v : Value} {rows : List (List Value)} (h : OwnR w base e 1 v rows) : QS w base e v rows.flatten := by
  have h1 := flat_len h.1
  rw [Nat.mul_one] at h1
  rcases h.2.2 with ⟨hv, hn⟩ | ⟨g, cap, cur, hv, hg, hh, hn, hm, hcs, htk⟩
  · have e0 : rows = [] := List.eq_nil_of_length_eq_zero hn
    subst e0
    rw [hv]
    exact QS.nil w base e
  · have e0 : cur.toList = rows.flatten ++ cur.toList.drop (rows.length * 1) := by rw [← htk, List.take_append_drop]
    refine ⟨_, cap, by rw [hv, h1], .inr ⟨g, 0, [], cur.toList.drop (rows.length * 1), rfl, hg, ?_, ?_, hm, fun _ => rfl⟩⟩
    · unfold Blk
      rw [List.nil_append, ← e0]
      exact hh
    · have e1 : cur.toList.length = cap * 1 := hcs
      rw [h1, List.length_drop, e1]
      omega
theorem QS.lt {w : World} {base : Nat} {e : TypeId} {v : Value} {xs : List Value} (h : QS w base e v xs) : ∀ b, v.ownBlock = some b → base ≤ b ∧ b < w.heap.size := by
  obtain ⟨A, cap, rfl, ⟨rfl, _⟩ | ⟨g, off, pre, rest, rfl, hg, hb, _⟩⟩ := h
  · intro b hb; cases hb
  · intro b e; cases e; exact ⟨hg, hb.lt⟩
theorem QS.block {w w' : World} {base : Nat} {e : TypeId} {v : Value} {xs : List Value} (h : QS w base e v xs) (hk : ∀ b t vs, v.ownBlock = some b → Blk w b t vs → Blk w' b t vs) : QS w' base e v xs := by
  obtain ⟨A, cap, rfl, ⟨rfl, h2⟩ | ⟨g, off, pre, rest, rfl, hg, hb, r⟩⟩ := h
  · exact ⟨_, _, rfl, .inl ⟨rfl, h2⟩⟩
  · exact ⟨_, _, rfl, .inr ⟨g, off, pre, rest, rfl, hg, hk g _ _ rfl hb, r⟩⟩
theorem QS.below {w w' : World} {base : Nat} {e : TypeId} {v : Value} {xs : List Value} (h : QS w base e v xs) (hb : Below w.heap.size w w') : QS w' base e v xs := h.block fun b t vs _ k => k.below hb k.lt
theorem QS.drewN {w : World} {base : Nat} {e : TypeId} {v : Value} {xs : List Value} (h : QS w base e v xs) (n : Nat) : QS (w.drewN n) base e v xs := h
theorem QS.other {w : World} {base : Nat} {e : TypeId} {v : Value} {xs : List Value} (h : QS w base e v xs) {b j : Nat} {t : TypeId} {vs : List Value} (hb : Blk w b t vs) (ht : t ≠ e) (x : Value) : QS (w.setCell ⟨b, j, none⟩ x) base e v xs := by
  obtain ⟨A, cap, rfl, ⟨rfl, h2⟩ | ⟨g, off, pre, rest, rfl, hg, hk, r⟩⟩ := h
  · exact ⟨_, _, rfl, .inl ⟨rfl, h2⟩⟩
  · refine ⟨_, _, rfl, .inr ⟨g, off, pre, rest, rfl, hg, hk.other (a := ⟨b, j, none⟩) (fun e' => ?_) x, r⟩⟩
    simp only at e'
    subst e'
    unfold Blk at hb hk
    rw [hb] at hk
    simp at hk
    exact ht hk.2
theorem QS.ne {w : World} {base : Nat} {e : TypeId} {v : Value} {xs : List Value} (h : QS w base e v xs) {b : Nat} {t : TypeId} {vs : List Value} (hb : Blk w b t vs) (ht : t ≠ e) : ∀ i, v.ownBlock = some i → i ≠ b := by
  rintro i hi rfl
  obtain ⟨A, cap, rfl, ⟨rfl, h2⟩ | ⟨g, off, pre, rest, rfl, hg, hk, r⟩⟩ := h
  · cases hi
  · cases hi
    unfold Blk at hb hk
    rw [hb] at hk
    simp at hk
    exact ht hk.2
/-- the first one, and the row without it -/
theorem QS.head {w : World} {base : Nat} {e : TypeId} {v x : Value} {xs : List Value} (h : QS w base e v (x :: xs)) :
    ∃ g off cap, v = .slice (some ⟨g, off, none⟩) (xs.length + 1) cap ∧ xs.length + 1 ≤ cap ∧ cap ≤ maxLen ∧ w.cell? ⟨g, off, none⟩ = some x ∧ QS w base e (.slice (if cap = 1 then some ⟨g, off, none⟩ else some ⟨g, off + 1, none⟩) xs.length (cap - 1)) xs ∧ (Value.slice (if cap = 1 then some ⟨g, off, none⟩ else some ⟨g, off + 1, none⟩) xs.length (cap - 1)).ownBlock = v.ownBlock := by
  obtain ⟨A, cap, rfl, ⟨rfl, _, h2⟩ | ⟨g, off, pre, rest, rfl, hg, hk, r1, r2, r3⟩⟩ := h
  · cases h2
  · have hc : xs.length + 1 ≤ cap := by simp only [List.length_cons] at r1; omega
    have hp := r3 (by omega)
    refine ⟨g, off, cap, rfl, hc, r2, ?_, ?_, ?_⟩
    · rw [hk.cell, ← hp]
      simp
    · refine ⟨_, _, rfl, .inr ?_⟩
      by_cases e1 : cap = 1
      · rw [if_pos e1]
        have hx : xs = [] := List.eq_nil_of_length_eq_zero (by omega)
        refine ⟨g, off, pre ++ [x], rest, rfl, hg, by simpa using hk, by simp only [List.length_cons] at r1; omega, by omega, fun h => by omega⟩
      · rw [if_neg e1]
        refine ⟨g, off + 1, pre ++ [x], rest, rfl, hg, by simpa using hk, by simp only [List.length_cons] at r1; omega, by omega, fun h => by simp [hp]⟩
    · by_cases e1 : cap = 1
      · rw [if_pos e1]; rfl
      · rw [if_neg e1]; rfl
section
variable {P : Program} (w : World)
/-- one element is appended -/
theorem run_append_qs (base : Nat) (t ty e : TypeId) (i : TypeInfo) (z : Value) (bytes : Nat) (ht : P.underlying t = some (.slice e)) (hi : P.info? e = some i) (hz : i.zero = some z) (hsize : i.size = 1) (hby : i.bytes = bytes) (hzs : z.cells.size = 1)
    (v : Value) (xs : List Value) (hq : QS w base e v xs) (b : Nat) (p : Value) (hp : Blk w b e [p]) (h1 : p.oneCell' = true) (h63 : xs.length + 1 ≤ maxLen) (hbytes : (xs.length + 1) * bytes ≤ 140737488355328) (hbase : base ≤ w.heap.size) :
    ∃ v' w', (Builtin.append_ #[t, t] ty #[v, .slice (some ⟨b, 0, none⟩) 1 1]).run P w = .ok v' w' ∧ QS w' base e v' (xs ++ [p]) ∧ w.grownBy w' v.ownBlock ∧ (v'.ownBlock = v.ownBlock ∨ v'.ownBlock = some w.heap.size) := by
  subst hby
  have hnews : ∀ j u, [p][j]? = some u → w.cell? ((⟨b, 0, none⟩ : Addr).add j) = some u := fun j u hj => by
    rw [Addr.add_mid, hp.cell, Nat.zero_add]; exact hj
  have hl1 : [p].length = 1 * i.size := by rw [hsize]; rfl
  have fresh : ∀ (old : Nat), old < xs.length + 1 → ∀ (row : Option Nat),
      QS (w.drew.alloc (.cells (xs.toArray ++ [p].toArray ++ Builtin.zeroCells z.cells (grownCap w (xs.length + 1) old e - (xs.length + 1))) e)) base e (.slice (some ⟨w.heap.size, 0, none⟩) (xs.length + 1) (grownCap w (xs.length + 1) old e)) (xs ++ [p]) ∧
      w.grownBy (w.drew.alloc (.cells (xs.toArray ++ [p].toArray ++ Builtin.zeroCells z.cells (grownCap w (xs.length + 1) old e - (xs.length + 1))) e)) row := by
    intro old ho row
    have hge := grownCap_ge w (xs.length + 1) old e
    have hcm : grownCap w (xs.length + 1) old e ≤ maxLen := grownCap_le_maxLen w (xs.length + 1) old e h63
    refine ⟨⟨_, _, by rw [List.length_append, List.length_singleton], .inr ⟨w.heap.size, 0, [], (Builtin.zeroCells z.cells (grownCap w (xs.length + 1) old e - (xs.length + 1))).toList, rfl, hbase, ?_, ?_, hcm, fun _ => rfl⟩⟩, ⟨rfl, rfl, rfl, by simp, fun k hk _ => Below.heap_alloc w.drew _ k hk⟩⟩
    · refine (heap_alloc_new w.drew _).trans ?_
      congr 2
      simp
    · have e1 : (Builtin.zeroCells z.cells (grownCap w (xs.length + 1) old e - (xs.length + 1))).toList.length = (grownCap w (xs.length + 1) old e - (xs.length + 1)) * z.cells.size := size_zeroCells _ _
      rw [List.length_append, List.length_singleton, e1, hzs]
      omega
  obtain ⟨A, cap, rfl, ⟨rfl, rfl, rfl⟩ | ⟨g, off, pre, rest, rfl, hg, hk, r1, r2, r3⟩⟩ := hq
  · have hr := run_append_nil (P := P) w t ty e i z ht hi hz ⟨b, 0, none⟩ 1 1 [p] hl1 hnews (by omega) (by omega) (by simp only [List.length_nil] at hbytes; omega)
    have hgr := fresh 0 (by omega) none
    simp only [List.length_nil, Nat.zero_add, List.nil_append, Array.empty_append] at hgr ⊢
    exact ⟨_, _, hr, hgr.1, hgr.2, .inr rfl⟩
  · by_cases hroom : xs.length + 1 ≤ cap
    · match rest, r1 with
      | [], r1 => simp at r1; omega
      | q :: rest, r1 =>
        have hoff := r3 (by omega)
        have hf := run_firstCells_some (P := P) w i.size 1 ⟨b, 0, none⟩ 1 1 [p] hl1 hnews
        have hst := run_storeCells_at P g (off + xs.length) e [p] 0 (pre ++ (xs ++ q :: rest)).toArray w hk (by simp; omega) (by intro u hu; rw [List.mem_singleton.1 hu]; exact h1)
        have hrun : (Builtin.append_ #[t, t] ty #[.slice (some ⟨g, off, none⟩) xs.length cap, .slice (some ⟨b, 0, none⟩) 1 1]).run P w = .ok (.slice (some ⟨g, off, none⟩) (xs.length + 1) cap) (w.setRow g ((pre ++ (xs ++ q :: rest)).toArray.toList.take (off + xs.length + 0) ++ [p] ++ (pre ++ (xs ++ q :: rest)).toArray.toList.drop (off + xs.length + 0 + [p].length)).toArray) := by
          simp only [Nat.add_zero] at hst ⊢
          simp [Builtin.append_, run_underlying ht, sizeOf, typeInfo, hi, hsize, Builtin.lenOf, hroom, Addr.add_mid]
          rw [hsize] at hf
          simp [hf, hst]
        have hrow : ((pre ++ (xs ++ q :: rest)).toArray.toList.take (off + xs.length + 0) ++ [p] ++ (pre ++ (xs ++ q :: rest)).toArray.toList.drop (off + xs.length + 0 + [p].length)) = pre ++ ((xs ++ [p]) ++ rest) := by
          simp only [Nat.add_zero, List.length_singleton]
          rw [← hoff]
          have e1 : pre ++ (xs ++ q :: rest) = (pre ++ xs) ++ (q :: rest) := by simp
          have e2 : pre.length + xs.length = (pre ++ xs).length := by simp
          rw [e1, e2, List.take_left' rfl, Nat.add_comm _ 1, ← List.drop_drop]
          have e3 : ((pre ++ xs) ++ (q :: rest)).drop (1 + (pre ++ xs).length) = rest := by
            rw [Nat.add_comm, ← List.drop_drop, List.drop_left' rfl]; rfl
          first
          | (rw [List.drop_drop, e3]; simp)
          | (rw [List.drop_drop, Nat.add_comm, e3]; simp)
        rw [hrow] at hrun
        refine ⟨_, _, hrun, ⟨_, cap, by rw [List.length_append, List.length_singleton], .inr ⟨g, off, pre, rest, rfl, hg, ?_, ?_, r2, r3⟩⟩, ⟨rfl, rfl, rfl, by simp, fun k _ hkk => setRow_other w g k _ (fun e => hkk (by simp [Value.ownBlock, e]))⟩, .inl rfl⟩
        · exact setRow_heap w g _ _ e _ hk
        · simp only [List.length_cons, List.length_append, List.length_nil] at r1 ⊢
          omega
    · have hrest : rest = [] := List.eq_nil_of_length_eq_zero (by omega)
      subst hrest
      have holds : ∀ j u, xs[j]? = some u → w.cell? ((⟨g, off, none⟩ : Addr).add j) = some u := fun j u hj => by
        have hj' : j < xs.length := (List.getElem?_eq_some_iff.1 hj).1
        have hoff := r3 (by omega)
        rw [Addr.add_mid, hk.cell, ← hoff, List.getElem?_append_right (by omega), Nat.add_sub_cancel_left, List.append_nil]
        exact hj
      have hr := run_append_grow (P := P) w t ty e i z ht hi hz ⟨g, off, none⟩ xs.length cap xs (by rw [hsize, Nat.mul_one]) holds ⟨b, 0, none⟩ 1 1 [p] hl1 hnews (by omega) (by have := h63; unfold maxLen at this; omega) (growslice_fits (by omega) hbytes)
      have hgr := fresh cap (by omega) (Value.ownBlock (.slice (some ⟨g, off, none⟩) xs.length cap))
      exact ⟨_, _, hr, hgr.1, hgr.2, .inr rfl⟩
end
section
variable {P : Program} {ops : Array Oper} {rest : List Oper} {o : Oper} {a : Act} {w : World} {Q : Exit → Act → World → Prop}
theorem wpList_append_qs (hgd : o.guard = none) (s x : Operand) (t : TypeId) (ho : o.op = .call { callee := .builtin .append, args := #[s, x], argTypes := #[t, t] })
    (base : Nat) (e : TypeId) (i : TypeInfo) (z : Value) (bytes : Nat) (ht : P.underlying t = some (.slice e)) (hi : P.info? e = some i) (hz : i.zero = some z) (hsize : i.size = 1) (hby : i.bytes = bytes) (hzs : z.cells.size = 1)
    (v : Value) (xs : List Value) (hs : a.eval s = v) (hq : QS w base e v xs) (b : Nat) (p : Value) (hx : a.eval x = .slice (some ⟨b, 0, none⟩) 1 1) (hp : Blk w b e [p]) (h1 : p.oneCell' = true) (h63 : xs.length + 1 ≤ maxLen) (hbytes : (xs.length + 1) * bytes ≤ 140737488355328) (hbase : base ≤ w.heap.size)
    (h : ∀ v' w', QS w' base e v' (xs ++ [p]) → w.grownBy w' v.ownBlock → (v'.ownBlock = v.ownBlock ∨ v'.ownBlock = some w.heap.size) → wpList P ops Q rest (a.put o.dst v') w') : wpList P ops Q (o :: rest) a w := by
  refine wpList_plain hgd fun K hK => ?_
  obtain ⟨v', w', hr, h2, h3, h4⟩ := run_append_qs (P := P) w base t o.type e i z bytes ht hi hz hsize hby hzs v xs hq b p hp h1 h63 hbytes hbase
  unfold Oper.wp execOp
  simp only [ho, resolve, invoke, builtin, Sem.run_bind, Sem.run_pure, Result.andThen_ok, List.map_toArray, List.map_cons, List.map_nil, hs, hx, hr]
  exact hK _ _ (h v' w' h2 h3 h4)
end
section
variable {P : Program}
/-- what operations wait for -/
def needs (ops : Array Oper) (L : List Nat) : List Nat := L.flatMap fun i => match ops[i]? with | some o => (o.after.toList.filter fun e => Region.binds .any e).map (·.on) | none => []
def needK (ops : Array Oper) : Nat → List Nat → List Nat | 0, L => L | k + 1, L => L ++ needK ops k (needs ops L)
/-- operation n waits for all ahead of it, by way of others; it is the last but one, and the last one waits for it -/
def waitsAll (ops : Array Oper) (n : Nat) : Bool := decide (ops.size = n + 2) && ((List.range n).all fun i => (needK ops n (needs ops [n])).contains i) && (needs ops [n + 1]).contains n
/-- what is listed has all that it waits for listed -/
def Closed (l : List Oper) (L : Nat → Bool) : Prop := ∀ j o, l[j]? = some o → L j = true → ∀ e ∈ o.after, Region.binds .any e = true → L e.on = true
theorem needs_mem {ops : Array Oper} {X : List Nat} {x : Nat} (h : x ∈ needs ops X) : ∃ i ∈ X, ∃ o, ops[i]? = some o ∧ ∃ e ∈ o.after, Region.binds .any e = true ∧ e.on = x := by
  obtain ⟨i, hi, hx⟩ := List.mem_flatMap.1 h
  cases ho : ops[i]? with
  | none => rw [ho] at hx; cases hx
  | some o =>
    rw [ho] at hx
    obtain ⟨e, he, rfl⟩ := List.mem_map.1 hx
    obtain ⟨h1, h2⟩ := List.mem_filter.1 he
    exact ⟨i, hi, o, ho, e, Array.mem_toList_iff.1 h1, h2, rfl⟩
theorem needK_listed {l : List Oper} {L : Nat → Bool} (hc : Closed l L) : ∀ (k : Nat) (X : List Nat), (∀ x ∈ X, L x = true) → ∀ x ∈ needK l.toArray k X, L x = true
  | 0, X, h, x, hx => h x hx
  | k + 1, X, h, x, hx => by
    rcases List.mem_append.1 hx with hx | hx
    · exact h x hx
    · refine needK_listed hc k _ (fun y hy => ?_) x hx
      obtain ⟨i, hi, o, ho, e, he, hb, rfl⟩ := needs_mem hy
      exact hc i o (by simpa using ho) (h i hi) e he hb
/-- THE LAW: heads in whatever order, each by its spec; then two operations that write. -/
theorem region_free_two {id : Nat} {Q' : Exit → Act → World → Prop} {a : Act} {w : World} {l : List Oper} (n : Nat) (hm : P.follows .mixedOrders = true) (hl : lexical l.toArray = true) (hn : waitsAll l.toArray n = true)
    (F : (Nat → Value) → Array Value) (D : List Deferred) (u0 : Nat → Value) (ha : a = ⟨F u0, D⟩) (C : World → Prop) (hC : C w.drew) (Φ : Nat → Value → World → Prop)
    (hΦ : ∀ i v W W', Φ i v W → C W → C W' → Below W.heap.size W W' → Φ i v W')
    (hstep : ∀ (u : Nat → Value) (W : World) (i : Nat) (o : Oper), i < n → l[i]? = some o → C W → (∀ e ∈ o.after, Region.binds .any e = true → Φ e.on (u e.on) W) →
      wpList P l.toArray (Exit.then (Came F D C (Φ i) u i W) (fun _ _ _ => False)) [o] ⟨F u, D⟩ W)
    (hlast : ∀ (u : Nat → Value) (W : World) (o o' : Oper), l[n]? = some o → l[n + 1]? = some o' → C W → (∀ i, i < n → Φ i (u i) W) → wpList P l.toArray (Exit.then (fun a' W' => Q' .normal a' W') (fun _ _ _ => False)) [o, o'] ⟨F u, D⟩ W) : (Code.region id l.toArray true).wp P Q' a w := by
  simp only [waitsAll, Bool.and_eq_true, decide_eq_true_eq] at hn
  obtain ⟨⟨hsz, hall⟩, hnext⟩ := hn
  have hsz' : l.length = n + 2 := by simpa using hsz
  have hall' : ∀ L : Nat → Bool, Closed l L → (∀ o, l[n]? = some o → ∀ e ∈ o.after, Region.binds .any e = true → L e.on = true) → ∀ i, i < n → L i = true := fun L hc h i hi => by
    have := List.all_eq_true.1 hall i (List.mem_range.2 hi)
    refine needK_listed hc n _ (fun y hy => ?_) i (by simpa using this)
    obtain ⟨j, hj, o, ho, e, he, hb, rfl⟩ := needs_mem hy
    rw [List.mem_singleton.1 hj] at ho
    exact h o (by simpa using ho) e he hb
  obtain ⟨o2, ho2⟩ : ∃ o2, l[n + 1]? = some o2 := ⟨_, List.getElem?_eq_getElem (by omega)⟩
  have hwait2 : ∃ e ∈ o2.after, Region.binds .any e = true ∧ e.on = n := by
    have hm : n ∈ needs l.toArray [n + 1] := by simpa using hnext
    obtain ⟨j, hj, o, ho, e, he, hb, hx⟩ := needs_mem hm
    rw [List.mem_singleton.1 hj] at ho
    have : o = o2 := by
      have h1 : l[n + 1]? = some o := by simpa using ho
      rw [ho2] at h1
      exact (Option.some.inj h1).symm
    subst this
    exact ⟨e, he, hb, hx⟩
  refine region_inv hm hl (fun L a W => Closed l L ∧ ((L n = false ∧ L (n + 1) = false ∧ ∃ u, a = ⟨F u, D⟩ ∧ C W ∧ ∀ i, i < n → L i = true → Φ i (u i) W) ∨ ((∀ i, i ≤ n → L i = true) ∧ L (n + 1) = false ∧ wpList P l.toArray (Exit.then (fun a' W' => Q' .normal a' W') (fun _ _ _ => False)) [o2] a W) ∨ ((∀ i, i ≤ n + 1 → L i = true) ∧ Q' .normal a W)))
    ⟨(fun j o _ h => by cases h), .inl ⟨rfl, rfl, u0, ha, hC, fun i _ h => by cases h⟩⟩ ?_ ?_ ?_
  · rintro L L' a W hE ⟨hc, hI⟩
    refine ⟨fun j o ho hj e he hb => ?_, ?_⟩
    · have hjl : j < l.length := (List.getElem?_eq_some_iff.1 ho).1
      have hlex := (lexical_spec hl (show l.toArray[j]? = some o by simpa using ho)).2 e he hb
      rw [← hE e.on (by omega)]
      exact hc j o ho (by rw [hE j hjl]; exact hj) e he hb
    · rcases hI with ⟨h0, h0', u, h1, h2, h3⟩ | ⟨h1, h1', h2⟩ | ⟨h1, h2⟩
      · exact .inl ⟨by rw [← hE n (by omega)]; exact h0, by rw [← hE (n + 1) (by omega)]; exact h0', u, h1, h2, fun i hi h => h3 i hi (by rw [hE i (by omega)]; exact h)⟩
      · exact .inr (.inl ⟨fun i hi => by rw [← hE i (by omega)]; exact h1 i hi, by rw [← hE (n + 1) (by omega)]; exact h1', h2⟩)
      · exact .inr (.inr ⟨fun i hi => by rw [← hE i (by omega)]; exact h1 i hi, h2⟩)
  · rintro L a W i o ⟨hc, hI⟩ ho hL hdep
    have hlex := (lexical_spec hl (show l.toArray[i]? = some o by simpa using ho)).2
    have hil : i < l.length := (List.getElem?_eq_some_iff.1 ho).1
    have hc' : Closed l (fun j => j == i || L j) := fun j o' ho' hj e he hb => by
      by_cases hji : j = i
      · subst hji
        have : o' = o := by rw [ho] at ho'; exact (Option.some.inj ho').symm
        subst this
        simp [hdep e he hb]
      · have := hc j o' ho' (by simpa [hji] using hj) e he hb
        simp [this]
    -- one operation's step
    have key : ∀ (K K' : Act → World → Prop) (rest : List Oper), wpList P l.toArray (Exit.then (fun a' W' => Q' .normal a' W') (fun _ _ _ => False)) (o :: rest) a W →
        (∀ a' W', wpList P l.toArray (Exit.then (fun a' W' => Q' .normal a' W') (fun _ _ _ => False)) rest a' W' → K' a' W') → wpList P l.toArray (Exit.then K' (fun _ _ _ => False)) [o] a W := by
      intro K K' rest hs fin
      unfold wpList at hs ⊢
      split at hs
      · rename_i hw
        rw [if_pos hw]
        rcases hs with hs | ⟨hs1, a', w', hs⟩
        · exact .inl (oper_monoQ (fun _ _ _ h => h) (fun _ _ h => h) (Oper.wp_mono (fun a' w' h => by unfold wpList; exact fin _ _ h) hs))
        · exact hs.elim
      · rename_i hw
        rw [if_neg hw]
        unfold wpList
        exact fin _ _ hs
    rcases hI with ⟨h0, h0', u, rfl, h2, h3⟩ | ⟨h1, h1', h2⟩ | ⟨h1, _⟩
    · by_cases hi : i = n
      · subst hi
        have hal := hall' L hc (fun o' ho' e he hb => by
          have : o' = o := by rw [ho] at ho'; exact (Option.some.inj ho').symm
          subst this
          exact hdep e he hb)
        refine key (fun _ _ => True) _ [o2] (hlast u W o o2 ho ho2 h2 (fun j hj => h3 j hj (hal j hj))) fun a' W' h => ?_
        refine ⟨hc', .inr (.inl ⟨fun j hj => ?_, by simp [h0'], h⟩)⟩
        by_cases e : j = i
        · simp [e]
        · simp [hal j (by omega)]
      · by_cases hi2 : i = n + 1
        · exfalso
          subst hi2
          obtain ⟨e, he, hb, hx⟩ := hwait2
          have : o = o2 := by rw [ho2] at ho; exact (Option.some.inj ho).symm
          subst this
          have := hdep e he hb
          rw [hx, h0] at this
          cases this
        · have hin : i < n := by omega
          have hs := hstep u W i o hin ho h2 (fun e he hb => h3 e.on (by have := hlex e he hb; omega) (hdep e he hb))
          have fin : ∀ a' W', Came F D C (Φ i) u i W a' W' → (Closed l (fun j => j == i || L j) ∧ (((n == i || L n) = false ∧ (n + 1 == i || L (n + 1)) = false ∧ ∃ u', a' = ⟨F u', D⟩ ∧ C W' ∧ ∀ j, j < n → (j == i || L j) = true → Φ j (u' j) W') ∨ ((∀ j, j ≤ n → (j == i || L j) = true) ∧ (n + 1 == i || L (n + 1)) = false ∧ wpList P l.toArray (Exit.then (fun a' W' => Q' .normal a' W') (fun _ _ _ => False)) [o2] a' W') ∨ ((∀ j, j ≤ n + 1 → (j == i || L j) = true) ∧ Q' .normal a' W'))) := by
            rintro a' W' ⟨v, q1, q2, q3, q4⟩
            refine ⟨hc', .inl ⟨by simp [h0]; omega, by simp [h0']; omega, upd u i v, q1, q3, fun j hj h => ?_⟩⟩
            by_cases e : j = i
            · subst e; rw [upd_same]; exact q2
            · rw [upd_other _ _ _ _ e]
              exact hΦ j _ _ _ (h3 j hj (by simpa [e] using h)) h2 q3 q4
          unfold wpList at hs ⊢
          split at hs
          · rename_i hw
            rw [if_pos hw]
            rcases hs with hs | ⟨hs1, a', w', hs⟩
            · exact .inl (oper_monoQ (fun _ _ _ h => h) (fun _ _ h => h) (Oper.wp_mono (fun a' w' h => by unfold wpList at h ⊢; exact fin _ _ h) hs))
            · exact hs.elim
          · rename_i hw
            rw [if_neg hw]
            unfold wpList at hs ⊢
            exact fin _ _ hs
    · by_cases hi2 : i = n + 1
      · subst hi2
        have : o = o2 := by rw [ho2] at ho; exact (Option.some.inj ho).symm
        subst this
        refine key (fun _ _ => True) _ [] h2 fun a' W' h => ?_
        unfold wpList at h
        refine ⟨hc', .inr (.inr ⟨fun j hj => ?_, h⟩)⟩
        by_cases e : j = n + 1
        · simp [e]
        · simp [h1 j (by omega)]
      · rw [h1 i (by omega)] at hL; cases hL
    · rw [h1 i (by omega)] at hL; cases hL
  · rintro a W ⟨_, ⟨h0, _⟩ | ⟨_, h0, _⟩ | ⟨_, h⟩⟩
    · cases h0
    · cases h0
    · exact h
end
end Go.Proofs.Ytpjdlkbpnodcdaa
