/- Slices of rows that a call makes itself: grown by append, read at an index. -/
import Derived.Test.YtpjfafefgmjmfaaSlc
import Derived.Test.YtpjfafefgmjmfaaG1
import Derived.Maps.AppendAt
import Derived.Laws.OwnMore
namespace Go.Proofs.Ytpjfafefgmjmfaa
open Go.RowKit
set_option linter.unusedVariables false

theorem flat_at {k : Nat} : ∀ {rows : List (List Value)}, (∀ r ∈ rows, r.length = k) → ∀ {i : Nat} {r : List Value}, rows[i]? = some r → ∀ {j : Nat} {x : Value}, r[j]? = some x → rows.flatten[i * k + j]? = some x
  | [], _, i, r, hr, _, _, _ => by simp at hr
  | r0 :: rows, hk, 0, r, hr, j, x, hx => by
    have e : r0 = r := by simpa using hr
    subst e
    have hj : j < r0.length := (List.getElem?_eq_some_iff.1 hx).1
    rw [List.flatten_cons, Nat.zero_mul, Nat.zero_add, List.getElem?_append_left hj]
    exact hx
  | r0 :: rows, hk, i + 1, r, hr, j, x, hx => by
    have hr' : rows[i]? = some r := by simpa using hr
    have h0 : r0.length = k := hk r0 (by simp)
    rw [List.flatten_cons, List.getElem?_append_right (by rw [h0, Nat.add_mul]; omega), h0, show (i + 1) * k + j - k = i * k + j by rw [Nat.add_mul]; omega]
    exact flat_at (fun q hq => hk q (by simp [hq])) hr' hx
theorem flat_len {k : Nat} : ∀ {rows : List (List Value)}, (∀ r ∈ rows, r.length = k) → rows.flatten.length = rows.length * k
  | [], _ => by simp
  | r0 :: rows, hk => by
    rw [List.flatten_cons, List.length_append, flat_len (fun q hq => hk q (by simp [hq])), hk r0 (by simp), List.length_cons, Nat.add_mul]
    omega
theorem flat_from {k : Nat} (hk0 : 0 < k) {rows : List (List Value)} (hk : ∀ r ∈ rows, r.length = k) {j : Nat} {u : Value} (hu : rows.flatten[j]? = some u) : ∃ i r m, rows[i]? = some r ∧ r[m]? = some u ∧ j = i * k + m ∧ m < k := by
  have hj : j < rows.length * k := by rw [← flat_len hk]; exact (List.getElem?_eq_some_iff.1 hu).1
  have hi : j / k < rows.length := Nat.div_lt_of_lt_mul (by rw [Nat.mul_comm]; exact hj)
  have hm : j % k < k := Nat.mod_lt _ hk0
  have hr : rows[j / k]? = some rows[j / k] := List.getElem?_eq_getElem hi
  have hl : rows[j / k].length = k := hk _ (List.getElem_mem _)
  have hx : rows[j / k][j % k]? = some (rows[j / k][j % k]'(by omega)) := List.getElem?_eq_getElem _
  have e : j = j / k * k + j % k := by have := Nat.div_add_mod j k; rw [Nat.mul_comm] at this; omega
  have := flat_at hk hr hx
  rw [← e, hu] at this
  exact ⟨j / k, rows[j / k], j % k, hr, by rw [hx]; exact this.symm, e, hm⟩
/-- the slice value v is the call's own and has these rows, of k cells each; e: the element's type -/
def OwnR (w : World) (base : Nat) (e : TypeId) (k : Nat) (v : Value) (rows : List (List Value)) : Prop := (∀ r ∈ rows, r.length = k) ∧ w.ownsRow base e k v rows.length rows.flatten
theorem OwnR.nil (w : World) (base : Nat) (e : TypeId) (k : Nat) : OwnR w base e k (.slice none 0 0) [] := ⟨(fun r h => by cases h), World.ownsRow_nil w base e k⟩
/-- an empty literal -/
theorem OwnR.empty (w : World) (base : Nat) (e : TypeId) (k : Nat) (hb : base ≤ w.heap.size) : OwnR (w.alloc (.cells #[] e)) base e k (.slice (some ⟨w.heap.size, 0, none⟩) 0 0) [] :=
  ⟨(fun r h => by cases h), World.ownsRow_lit w #[] 0 hb (by simp [maxLen]) (by simp)⟩
theorem OwnR.lt {w : World} {base : Nat} {e : TypeId} {k : Nat} {v : Value} {rows : List (List Value)} (h : OwnR w base e k v rows) : ∀ b, v.ownBlock = some b → base ≤ b ∧ b < w.heap.size := h.2.lt
theorem OwnR.below {w w' : World} {B base : Nat} {e : TypeId} {k : Nat} {v : Value} {rows : List (List Value)} (h : OwnR w base e k v rows) (hb : Below B w w') (hB : ∀ b, v.ownBlock = some b → b < B) : OwnR w' base e k v rows := by
  obtain ⟨h0, h1, h2⟩ := h
  refine ⟨h0, h1, ?_⟩
  rcases h2 with h2 | ⟨g, cap, cur, hv, hg, hh, r⟩
  · exact .inl h2
  · refine .inr ⟨g, cap, cur, hv, hg, ?_, r⟩
    rw [hb.block g (hB g (by rw [hv]; rfl))]; exact hh
theorem OwnR.keep {w w' : World} {base : Nat} {e : TypeId} {k : Nat} {v : Value} {rows : List (List Value)} (h : OwnR w base e k v rows) (hb : Below w.heap.size w w') : OwnR w' base e k v rows := h.below hb (fun b hk => (h.lt b hk).2)
theorem OwnR.alloc {w : World} {base : Nat} {e : TypeId} {k : Nat} {v : Value} {rows : List (List Value)} (h : OwnR w base e k v rows) (o : Obj) : OwnR (w.alloc o) base e k v rows := h.keep ((Below.refl _ _).alloc (Nat.le_refl _) o)
theorem OwnR.sl {w : World} {base : Nat} {e : TypeId} {k : Nat} {v : Value} {rows : List (List Value)} (h : OwnR w base e k v rows) : Sl w k v rows := by
  obtain ⟨h0, h1, h2⟩ := h
  refine ⟨h0, ?_⟩
  rcases h2 with ⟨hv, hn⟩ | ⟨g, cap, cur, hv, hg, hh, hn, hm, hcs, htk⟩
  · have e0 : rows = [] := List.eq_nil_of_length_eq_zero hn
    subst e0
    exact ⟨none, 0, hv, fun i r h => by simp at h⟩
  · refine ⟨_, cap, hv, fun i r hr => ⟨_, rfl, ?_, fun j x hx => ?_⟩⟩
    · rcases Nat.lt_or_ge g w.heap.size with hb | hb
      · exact hb
      · rw [Array.getElem?_eq_none hb] at hh; cases hh
    · have hf := flat_at h0 hr hx
      rw [Addr.add_mid, Nat.zero_add, cell_of_row w g _ cur e (0, 0) hh]
      have hlt : i * k + j < rows.length * k := by rw [← flat_len h0]; exact (List.getElem?_eq_some_iff.1 hf).1
      rw [← htk, List.getElem?_take, if_pos hlt] at hf
      simpa using hf
theorem OwnR.isSlice {w : World} {base : Nat} {e : TypeId} {k : Nat} {v : Value} {rows : List (List Value)} (h : OwnR w base e k v rows) : ∃ p cap, v = .slice p rows.length cap := h.sl.isSlice
section
variable {P : Program} {ops : Array Oper} {rest : List Oper} {o : Oper} {a : Act} {w : World} {Q : Exit → Act → World → Prop}
/-- rows are appended to a slice of the call's own -/
theorem wpList_append_rows (hgd : o.guard = none) (s x : Operand) (t : TypeId) (ho : o.op = .call { callee := .builtin .append, args := #[s, x], argTypes := #[t, t] })
    (base : Nat) (e : TypeId) (i : TypeInfo) (z : Value) (k bytes : Nat) (ht : P.underlying t = some (.slice e)) (hi : P.info? e = some i) (hz : i.zero = some z) (hsize : i.size = k) (hby : i.bytes = bytes) (hzs : z.cells.size = k) (hk : 0 < k)
    (v : Value) (rows : List (List Value)) (hs : a.eval s = v) (hown : OwnR w base e k v rows) (vx : Value) (news : List (List Value)) (hx : a.eval x = vx) (hnew : Sl w k vx news) (h1 : ∀ r ∈ news, ∀ u ∈ r, u.oneCell' = true)
    (h63 : rows.length + news.length ≤ maxLen) (hbytes : (rows.length + news.length) * bytes ≤ 140737488355328) (hbase : base ≤ w.heap.size) (hnil : vx = .slice none 0 0 ∨ ∃ ad n c, vx = .slice (some ad) n c)
    (h : ∀ v' w', OwnR w' base e k v' (rows ++ news) → w.grownBy w' v.ownBlock → (v'.ownBlock = v.ownBlock ∨ v'.ownBlock = some w.heap.size) → wpList P ops Q rest (a.put o.dst v') w') : wpList P ops Q (o :: rest) a w := by
  obtain ⟨k0, p, c, hv, hcell⟩ := hnew
  rcases hnil with rfl | ⟨ad, n, c', rfl⟩
  · have hn : news = [] := by
      simp only [Value.slice.injEq] at hv
      exact List.eq_nil_of_length_eq_zero hv.2.1.symm
    subst hn
    refine wpList_plain hgd fun K hK => ?_
    have hr := run_append_owned_none (P := P) (w := w) base t o.type e i k ht hi v rows.length rows.flatten hown.2
    unfold Oper.wp execOp
    simp only [ho, resolve, invoke, builtin, Sem.run_bind, Sem.run_pure, Result.andThen_ok, List.map_toArray, List.map_cons, List.map_nil, hs, hx, hr]
    refine hK _ _ (h v w (by rw [List.append_nil]; exact hown) ⟨rfl, rfl, rfl, Nat.le_refl _, fun _ _ _ => rfl⟩ (.inl rfl))
  · simp only [Value.slice.injEq] at hv
    obtain ⟨rfl, rfl, rfl⟩ := hv
    refine wpList_append_own_at w hgd s x t ho base e i z k bytes ht hi hz hsize hby hzs hk v rows.length rows.flatten hs hown.2 ad news.length c' news.flatten hx (flat_len k0) (fun j u hu => ?_) (fun u hu => ?_) h63 hbytes hbase (fun v' w' q1 q2 q3 q4 => ?_)
    · obtain ⟨i', r, m, hr, hm, rfl, _⟩ := flat_from hk k0 hu
      obtain ⟨a', ha, _, hc⟩ := hcell i' r hr
      cases ha
      exact hc m u hm
    · obtain ⟨r, hr, hur⟩ := List.mem_flatten.1 hu
      exact h1 r hr u hur
    · refine h v' w' ⟨fun r hr => ?_, ?_⟩ q2 q4
      · rcases List.mem_append.1 hr with hr | hr
        · exact hown.1 r hr
        · exact k0 r hr
      · rw [List.length_append, List.flatten_append]; exact q1
end
end Go.Proofs.Ytpjfafefgmjmfaa
