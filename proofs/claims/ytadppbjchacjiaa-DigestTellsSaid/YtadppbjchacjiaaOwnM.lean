/- Byte slices of the call's own, also out of a string's conversion (whose row bears a mark behind its end). -/
import Derived.Test.YtadppbjchacjiaaOwn
import Derived.Lib.ConvBytes
import Derived.ArgAppend
namespace Go.Proofs.Ytadppbjchacjiaa
open Go.RowKit
set_option linter.unusedVariables false

/-- the slice value v lies in the call's own memory and has the bytes l -/
def OwnM (w : World) (base : Nat) (e : TypeId) (v : Value) (l : List Int) : Prop :=
  (v = .slice none 0 0 ∧ l = []) ∨
  ∃ g cap cur fz, v = .slice (some ⟨g, 0, none⟩) l.length cap ∧ base ≤ g ∧ w.heap[g]? = some (.cells cur e fz) ∧ (∀ j, j < cap → ¬ (fz.1 ≤ j ∧ j < fz.2)) ∧ l.length ≤ cap ∧ cap ≤ maxLen ∧ cur.size = cap ∧ cur.toList.take l.length = ints .u8 l

theorem OwnB.toM {w : World} {base : Nat} {e : TypeId} {v : Value} {l : List Int} (h : OwnB w base e v l) : OwnM w base e v l := by
  rcases h.2 with ⟨hv, h0⟩ | ⟨g, cap, cur, hv, hg, hh, hn, hm, hcs, htk⟩
  · exact .inl ⟨hv, List.eq_nil_of_length_eq_zero h0⟩
  · exact .inr ⟨g, cap, cur, (0, 0), hv, hg, hh, fun j _ => by omega, hn, hm, by omega, by simpa using htk⟩
theorem OwnM.below {w w' : World} {B base : Nat} {e : TypeId} {v : Value} {l : List Int} (h : OwnM w base e v l) (hb : Below B w w') (hB : ∀ k, v.ownBlock = some k → k < B) : OwnM w' base e v l := by
  rcases h with h | ⟨g, cap, cur, fz, hv, hg, hh, r⟩
  · exact .inl h
  · refine .inr ⟨g, cap, cur, fz, hv, hg, ?_, r⟩
    rw [hb.block g (hB g (by rw [hv]; rfl))]; exact hh
theorem OwnM.lt {w : World} {base : Nat} {e : TypeId} {v : Value} {l : List Int} (h : OwnM w base e v l) : ∀ k, v.ownBlock = some k → base ≤ k ∧ k < w.heap.size := by
  intro k hk
  rcases h with ⟨hv, _⟩ | ⟨g, cap, cur, fz, hv, hg, hh, r⟩
  · rw [hv] at hk; cases hk
  · rw [hv] at hk
    cases hk
    refine ⟨hg, ?_⟩
    by_cases hb : g < w.heap.size
    · exact hb
    · rw [Array.getElem?_eq_none (by omega)] at hh; cases hh
theorem OwnM.keep {w w' : World} {base : Nat} {e : TypeId} {v : Value} {l : List Int} (h : OwnM w base e v l) (hb : Below w.heap.size w w') : OwnM w' base e v l := h.below hb (fun k hk => (h.lt k hk).2)
theorem OwnM.alloc {w : World} {base : Nat} {e : TypeId} {v : Value} {l : List Int} (h : OwnM w base e v l) (o : Obj) : OwnM (w.alloc o) base e v l := h.keep ((Below.refl _ _).alloc (Nat.le_refl _) o)
theorem OwnM.drew {w : World} {base : Nat} {e : TypeId} {v : Value} {l : List Int} (h : OwnM w base e v l) : OwnM w.drew base e v l := h
theorem OwnM.drewN {w : World} {base : Nat} {e : TypeId} {v : Value} {l : List Int} (h : OwnM w base e v l) (n : Nat) : OwnM (w.drewN n) base e v l := h
theorem OwnM.isSlice {w : World} {base : Nat} {e : TypeId} {v : Value} {l : List Int} (h : OwnM w base e v l) : ∃ p cap, v = .slice p l.length cap ∧ l.length ≤ cap := by
  rcases h with ⟨hv, h0⟩ | ⟨g, cap, cur, fz, hv, _, _, _, hn, _⟩
  · exact ⟨none, 0, by rw [hv, h0]; rfl, by rw [h0]; simp⟩
  · exact ⟨_, _, hv, hn⟩
theorem OwnM.cell {w : World} {base : Nat} {e : TypeId} {g n cap : Nat} {l : List Int} (h : OwnM w base e (.slice (some ⟨g, 0, none⟩) n cap) l) {j : Nat} (hj : j < l.length) : w.cell? ⟨g, j, none⟩ = some (.int .u8 (l.getD j 0)) := by
  rcases h with ⟨hv, h0⟩ | ⟨g', cap', cur, fz, hv, _, hh, _, hn, _, hcs, htk⟩
  · cases hv
  · cases hv
    rw [cell_of_row w g j cur e fz hh]
    have h2 : (cur.toList.take l.length)[j]? = some (.int .u8 (l.getD j 0)) := by rw [htk, ints_get _ _ _ hj]
    rw [List.getElem?_take, if_pos hj] at h2
    simpa using h2
theorem OwnM.range {w : World} {base : Nat} {e : TypeId} {g n cap : Nat} {l : List Int} (h : OwnM w base e (.slice (some ⟨g, 0, none⟩) n cap) l) : w.rangeAt g 0 (ints .u8 l) := by
  intro j v hv
  have hj : j < l.length := by
    rcases Nat.lt_or_ge j l.length with h' | h'
    · exact h'
    · rw [List.getElem?_eq_none (by rw [ints_length]; exact h')] at hv; cases hv
  rw [Nat.zero_add, h.cell hj]
  rw [ints_get _ _ _ hj] at hv
  exact hv
/-- the slice is nil, or lies at the head of a row -/
theorem OwnM.cases {w : World} {base : Nat} {e : TypeId} {v : Value} {l : List Int} (h : OwnM w base e v l) : (v = .slice none 0 0 ∧ l = []) ∨ ∃ g cap, v = .slice (some ⟨g, 0, none⟩) l.length cap ∧ base ≤ g ∧ l.length ≤ cap ∧ cap ≤ maxLen := by
  rcases h with h | ⟨g, cap, cur, fz, hv, hg, _, _, hn, hm, _⟩
  · exact .inl h
  · exact .inr ⟨g, cap, hv, hg, hn, hm⟩

section
variable {P : Program} {ops : Array Oper} {rest : List Oper} {o : Oper} {a : Act} {w : World} {Q : Exit → Act → World → Prop}

theorem setCells_heap (b : Nat) (e : TypeId) (fz : Nat × Nat) : ∀ (vs : List Value) (off : Nat) (cur : Array Value) (w : World), w.heap[b]? = some (.cells cur e fz) → off + vs.length ≤ cur.size →
    ∃ cur', (w.setCells b off vs).heap[b]? = some (.cells cur' e fz) ∧ cur'.size = cur.size ∧ cur'.toList.take (off + vs.length) = cur.toList.take off ++ vs
  | [], off, cur, w, h, _ => ⟨cur, h, rfl, by simp⟩
  | v :: r, off, cur, w, h, hle => by
    simp only [List.length_cons] at hle
    have h1 : (w.setCell ⟨b, off, none⟩ v).heap[b]? = some (.cells (cur.setIfInBounds off v) e fz) := by
      simp only [World.setCell]
      rw [Array.getElem?_modify]
      simp [h]
    obtain ⟨cur', g1, g2, g3⟩ := setCells_heap b e fz r (off + 1) (cur.setIfInBounds off v) (w.setCell ⟨b, off, none⟩ v) h1 (by simp; omega)
    refine ⟨cur', g1, by simpa using g2, ?_⟩
    rw [show off + (v :: r).length = off + 1 + r.length by simp; omega, g3]
    rw [Array.toList_setIfInBounds]
    have hoff : off < cur.toList.length := by simp; omega
    rw [List.take_succ_eq_append_getElem (by simpa using hoff)]
    simp [List.take_set]
    rw [List.set_eq_of_length_le (by simp; omega)]
theorem below_setCells {B b : Nat} {x : World} (hb : B ≤ b) : ∀ (vs : List Value) (off : Nat) (w : World), Below B x w → Below B x (w.setCells b off vs)
  | [], _, _, h => h
  | v :: r, off, w, h => below_setCells hb r (off + 1) _ (h.setCell (by exact hb) v)

/-- bytes are appended to a slice of the call's own -/
theorem wpList_append_bytesM (hgd : o.guard = none) (s x : Operand) (t : TypeId) (ho : o.op = .call { callee := .builtin .append, args := #[s, x], argTypes := #[t, t] })
    (base : Nat) (e : TypeId) (ht : P.underlying t = some (.slice e)) (hinfo : (P.info? e).map (fun i => (i.zero, i.size, i.bytes)) = some (some (.int .u8 0), 1, 1))
    (v : Value) (l : List Int) (hs : a.eval s = v) (hown : OwnM w base e v l)
    (b m c : Nat) (news : List Int) (hx : a.eval x = .slice (some ⟨b, 0, none⟩) m c) (hl : m = news.length) (hnews : w.rangeAt b 0 (ints .u8 news))
    (hbig : l.length + news.length ≤ 140737488355328) (hbase : base ≤ w.heap.size)
    (h : ∀ v' w', OwnM w' base e v' (l ++ news) → Below base w w' → wpList P ops Q rest (a.put o.dst v') w') : wpList P ops Q (o :: rest) a w := by
  rcases hown with ⟨hv, h0⟩ | ⟨g, cap, cur, fz, hv, hg, hh, hfz, hn, hm, hcs, htk⟩
  · subst hv h0
    refine wpList_append_bytes hgd s x t ho base e ht hinfo _ [] hs (OwnB.nil w base e) b m c news hx hl hnews hbig hbase (fun v' w' h1 h2 => h v' w' h1.toM (Below.grown (Below.refl _ _) h2 hbase (fun k hk => by cases hk)))
  · obtain ⟨i0, hi0, hz0, hz1, hz2⟩ := info_parts hinfo
    subst hl hv
    refine wpList_append_arg w hgd s x t ho e i0 (.int .u8 0) 1 1 ht hi0 hz0 hz1 hz2 rfl (by decide) g 0 l.length cap (ints .u8 l) hs (by simp [ints_length]) (fun j u hj => ?_)
      ⟨b, 0, none⟩ news.length c (ints .u8 news) hx (by simp [ints_length]) (fun j u hj => by rw [Addr.add_mid]; exact hnews j u hj) (fun u hu => ?_) (fun hroom j hj => ?_) (by unfold maxLen; omega) (by omega) (fun hroom => ?_) (fun _ v' w' h1 h2 => ?_)
    · rw [Nat.zero_add, cell_of_row w g j cur e fz hh]
      rw [← htk, List.getElem?_take] at hj
      split at hj
      · simpa using hj
      · cases hj
    · simp only [ints, List.mem_map] at hu
      obtain ⟨n, _, rfl⟩ := hu
      rfl
    · rw [ints_length] at hj
      have hlt : 0 + l.length * 1 + j < cur.size := by omega
      refine ⟨?_, ?_⟩
      · rw [cell_of_row w g _ cur e fz hh]
        simp
        omega
      · have := hfz (0 + l.length * 1 + j) (by omega)
        simp only [World.frozen?, hh]
        obtain ⟨lo, hi⟩ := fz
        simp only [Bool.and_eq_false_iff, decide_eq_false_iff_not]
        simp only at this
        omega
    · obtain ⟨cur', g1, g2, g3⟩ := setCells_heap g e fz (ints .u8 news) (0 + l.length * 1) cur w hh (by rw [ints_length]; omega)
      refine h _ _ (.inr ⟨g, cap, cur', fz, by rw [List.length_append], hg, g1, hfz, by rw [List.length_append]; exact hroom, hm, by omega, ?_⟩) (below_setCells hg _ _ _ (Below.refl _ _))
      rw [List.length_append, ints_app, ← htk]
      rw [ints_length] at g3
      simpa using g3
    · refine h v' w' (OwnB.toM (v := v') (l := l ++ news) ?_) (Below.grown (Below.refl _ _) h2 hbase (fun k hk => by cases hk))
      unfold OwnB
      rw [List.length_append, ints_app]
      obtain ⟨q1, q2⟩ := h1
      refine ⟨q1, ?_⟩
      rcases q2 with q2 | ⟨g', cap', cur', r1, r2, r3⟩
      · exact .inl q2
      · exact .inr ⟨g', cap', cur', r1, Nat.le_trans hbase r2, r3⟩

theorem run_string_ownM (src dst e base : TypeId) (v : Value) (l : List Int) (hs : P.underlying src = some (.slice e)) (he : P.underlying e = some (.int .u8)) (hd : P.underlying dst = some .string)
    (hown : OwnM w base e v l) : (convert src dst v).run P w = .ok (.string (bs l)) w := by
  have hc := hown
  rcases hown.cases with ⟨hv, h0⟩ | ⟨g, cap, hv, _, hn, _⟩
  · subst hv h0
    rw [run_convert_bytes_string w src dst e _ _ _ hs he hd]
    simp [Conv.bytesToString, Sem.run_pure]; rfl
  · subst hv
    exact run_bytes_string src dst e g l.length cap l hs he hd hc.range rfl
theorem wpList_string_ownM (hgd : o.guard = none) (src dst e : TypeId) (x : Operand) (ho : o.op = .convert src dst x) (base : Nat) (v : Value) (l : List Int)
    (hx : a.eval x = v) (hs : P.underlying src = some (.slice e)) (he : P.underlying e = some (.int .u8)) (hd : P.underlying dst = some .string)
    (hown : OwnM w base e v l) (h : wpList P ops Q rest (a.put o.dst (.string (bs l))) w) : wpList P ops Q (o :: rest) a w :=
  wpList_plain hgd fun _ hK => by
    unfold Oper.wp execOp
    simp only [ho, hx, Sem.run_bind, run_string_ownM (P := P) (w := w) src dst e base v l hs he hd hown, Result.andThen_ok]
    exact hK _ _ h

/-- a string's bytes, as a slice of the call's own -/
theorem wpList_bytes_of (hgd : o.guard = none) (src dst e : TypeId) (x : Operand) (ho : o.op = .convert src dst x) (base : Nat) (s : ByteArray)
    (hx : a.eval x = .string s) (hs : P.underlying src = some .string) (hd : P.underlying dst = some (.slice e)) (he : P.underlying e = some (.int .u8)) (hbase : base ≤ w.heap.size)
    (hsm : s.size ≤ maxLen)
    (h : ∀ v' w', OwnM w' base e v' (is s) → Below base w w' → wpList P ops Q rest (a.put o.dst v') w') : wpList P ops Q (o :: rest) a w :=
  wpList_plain hgd fun _ hK => by
    have hcap := grownCap_le_maxLen w s.size 0 e hsm
    unfold Oper.wp execOp
    simp only [ho, hx, Sem.run_bind, Lib.run_convert_string_bytes (P := P) w src dst e s hs hd he, Result.andThen_ok]
    refine hK _ _ (h _ _ ?_ ?_)
    · have hge := grownCap_ge w s.size 0 e
      have hsz : (Lib.bytesCells w e s).size = grownCap w s.size 0 e := by
        simp [Lib.bytesCells]; omega
      refine .inr ⟨w.heap.size, grownCap w s.size 0 e, Lib.bytesCells w e s, _, by rw [is_length], hbase, Lib.bytesWorld_at_new w e s, fun j hj => by rw [hsz]; simp; omega, by rw [is_length]; exact hge, hcap, hsz, ?_⟩
      rw [is_length]
      simp [Lib.bytesCells, ints, is, Function.comp_def]
    · refine ⟨rfl, rfl, rfl, ?_, fun k hk => Lib.bytesWorld_at_old w e s k (by omega)⟩
      rw [Lib.bytesWorld_size]; omega
end
end Go.Proofs.Ytadppbjchacjiaa
