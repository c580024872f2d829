/- A world without what blocks of other types than a version's parts lie in hold: what is told in it stays told when such a block is turned (stage 17). -/
import Derived.Test.YtogonbgelaehhaaUGa
import Derived.Test.YtogonbgelaehhaaZ0
import Derived.Lib.SliceRun
import Derived.Test.YtogonbgelaehhaaG1
import Derived.ArgAppend
import Derived.Test.YtogonbgelaehhaaFC
namespace Go.Proofs.Ytogonbgelaehhaa
open Go.RowKit
set_option linter.unusedVariables false

/-- types of which a version's parts, and a reply's Ids, are -/
def lfT (t : TypeId) : Bool := t == 64 || t == 9 || t == 3 || t == 23
def ewO : Obj → Obj
  | .cells c t f => if lfT t = true then .cells c t f else .cells #[] t f
  | o => o
def ew (w : World) : World := { w with heap := w.heap.map ewO }
theorem ew_size (w : World) : (ew w).heap.size = w.heap.size := by simp [ew]
theorem ew_at (w : World) (k : Nat) : (ew w).heap[k]? = (w.heap[k]?).map ewO := by simp [ew]
/-- blocks of those types stay -/
def Lf (w w' : World) : Prop := w.heap.size ≤ w'.heap.size ∧ ∀ (k : Nat) (c : Array Value) (t : TypeId) (f : Nat × Nat), lfT t = true → w.heap[k]? = some (Obj.cells c t f) → w'.heap[k]? = some (Obj.cells c t f)
theorem lt_of_at {w : World} {k : Nat} {o : Obj} (h : w.heap[k]? = some o) : k < w.heap.size := by
  rcases Nat.lt_or_ge k w.heap.size with hb | hb
  · exact hb
  · rw [Array.getElem?_eq_none hb] at h; cases h
theorem Lf.refl (w : World) : Lf w w := ⟨Nat.le_refl _, fun _ _ _ _ _ h => h⟩
theorem Lf.trans {a b c : World} (h : Lf a b) (k : Lf b c) : Lf a c := ⟨Nat.le_trans h.1 k.1, fun i x t f ht hi => k.2 i x t f ht (h.2 i x t f ht hi)⟩
theorem Lf.below {w w' : World} (h : Below w.heap.size w w') : Lf w w' := ⟨h.size, fun k c t f _ hk => by rw [h.block k (lt_of_at hk)]; exact hk⟩
theorem Lf.row {w : World} {b : Nat} {t : TypeId} {vs : List Value} (h : Blk w b t vs) (ht : lfT t = false) (cs : Array Value) : Lf w (w.setRow b cs) := by
  have hs := (below_setRow (Below.refl b w) (Nat.le_refl b) cs).size
  refine ⟨hs, fun k c t' f ht' hk => ?_⟩
  by_cases e : k = b
  · subst e
    unfold Blk at h
    rw [h] at hk
    simp at hk
    rw [hk.2.1] at ht
    rw [ht] at ht'
    cases ht'
  · rw [setRow_other w b k cs e]; exact hk
theorem Lf.cell {w : World} {a : Addr} {t : TypeId} {vs : List Value} (h : Blk w a.block t vs) (ht : lfT t = false) (x : Value) : Lf w (w.setCell a x) := by
  refine ⟨(KeepsWalks.setCell w a x).size, fun k c t' f ht' hk => ?_⟩
  by_cases e : k = a.block
  · subst e
    unfold Blk at h
    rw [h] at hk
    simp at hk
    rw [hk.2.1] at ht
    rw [ht] at ht'
    cases ht'
  · rw [Below.heap_setCell _ _ _ _ e]; exact hk
theorem Lf.grown {w w' : World} {o : Option Nat} (h : w.grownBy w' o) (ho : ∀ b, o = some b → b < w.heap.size → ∃ t vs, Blk w b t vs ∧ lfT t = false) : Lf w w' := by
  refine ⟨h.size, fun k c t f ht hk => ?_⟩
  by_cases e : o = some k
  · obtain ⟨t', vs, hB, ht'⟩ := ho k e (lt_of_at hk)
    unfold Blk at hB
    rw [hB] at hk
    simp at hk
    rw [hk.2.1] at ht'
    rw [ht'] at ht
    cases ht
  · rw [h.block k (lt_of_at hk) (fun e' => e e'.symm)]; exact hk
theorem Lf.turn {base : Nat} {w w' : World} {F F' : Nat → Prop} (h : Turn base w w' F F') (ho : ∀ b, F b → b < w.heap.size → ∃ t vs, Blk w b t vs ∧ lfT t = false) : Lf w w' := by
  refine ⟨h.b.size, fun k c t f ht hk => ?_⟩
  by_cases e : F k
  · obtain ⟨t', vs, hB, ht'⟩ := ho k e (lt_of_at hk)
    unfold Blk at hB
    rw [hB] at hk
    simp at hk
    rw [hk.2.1] at ht'
    rw [ht'] at ht
    cases ht
  · rw [h.out k (lt_of_at hk) e]; exact hk
/-- the block of an own row -/
theorem OwnR.blkAt {w : World} {base : Nat} {e : TypeId} {k : Nat} {v : Value} {rows : List (List Value)} (h : OwnR w base e k v rows) : ∀ b, v.ownBlock = some b → ∃ vs, Blk w b e vs := by
  intro b hb
  rcases h.2.2 with ⟨hv, _⟩ | ⟨g, cap, cur, hv, hg, hh, r⟩
  · rw [hv] at hb; cases hb
  · rw [hv] at hb
    cases hb
    exact ⟨cur.toList, hh⟩
theorem ew_sub (w : World) : Sub (ew w) w := by
  refine ⟨by rw [ew_size]; exact Nat.le_refl _, fun a x hx => ?_⟩
  unfold World.cell? at hx ⊢
  rw [ew_at] at hx
  cases ho : w.heap[a.block]? with
  | none => rw [ho] at hx; cases hx
  | some o =>
    rw [ho] at hx
    simp only [Option.map_some] at hx
    cases o with
    | cells c t f =>
      simp only [ewO] at hx
      by_cases ht : lfT t = true
      · rw [if_pos ht] at hx; exact hx
      · rw [if_neg ht] at hx; simp at hx
    | _ => simp [ewO] at hx
theorem ew_lf {w w' : World} (h : Lf w w') : Sub (ew w) (ew w') := by
  refine ⟨by rw [ew_size, ew_size]; exact h.1, fun a x hx => ?_⟩
  unfold World.cell? at hx ⊢
  rw [ew_at] at hx ⊢
  cases ho : w.heap[a.block]? with
  | none => rw [ho] at hx; cases hx
  | some o =>
    rw [ho] at hx
    cases o with
    | cells c t f =>
      simp only [Option.map_some, ewO] at hx
      by_cases ht : lfT t = true
      · rw [if_pos ht] at hx
        rw [h.2 _ c t f ht ho]
        simp only [Option.map_some, ewO]
        rw [if_pos ht]
        exact hx
      · rw [if_neg ht] at hx; simp at hx
    | _ => simp [ewO] at hx
theorem erT_lf {t : TypeId} (h : lfT t = true) : erT t = false := by
  unfold lfT at h
  simp only [Bool.or_eq_true, beq_iff_eq] at h
  rcases h with ((h | h) | h) | h <;> rw [h] <;> rfl
theorem ew_er (lo : Nat) (w : World) : Sub (ew w) (er lo w) := by
  refine ⟨by rw [ew_size, er_size]; exact Nat.le_refl _, fun a x hx => ?_⟩
  unfold World.cell? at hx ⊢
  rw [ew_at] at hx
  rw [er_at]
  cases ho : w.heap[a.block]? with
  | none => rw [ho] at hx; cases hx
  | some o =>
    rw [ho] at hx
    cases o with
    | cells c t f =>
      simp only [Option.map_some, ewO] at hx
      by_cases ht : lfT t = true
      · rw [if_pos ht] at hx
        simp only [Option.map_some, erO, erT_lf ht]
        simpa using hx
      · rw [if_neg ht] at hx; simp at hx
    | _ => simp [ewO] at hx
theorem own_ew {w : World} {base : Nat} {e : TypeId} {k : Nat} {v : Value} {rows : List (List Value)} (h : OwnR w base e k v rows) (he : lfT e = true) : OwnR (ew w) base e k v rows := by
  obtain ⟨k0, k1, k2⟩ := h
  refine ⟨k0, k1, ?_⟩
  rcases k2 with h | ⟨g, cap, cur, hv, hg, hh, rest⟩
  · exact .inl h
  · refine .inr ⟨g, cap, cur, hv, hg, ?_, rest⟩
    rw [ew_at, hh]
    simp [ewO, he]
/-- a version made of slices of the call's own -/
theorem VV.of_own {w : World} {b1 b2 b3 : Nat} {vb vn vz : Value} {a : RawV} (h1 : OwnR w b1 64 32 vb (rowsH a.bl)) (h2 : OwnR w b2 9 1 vn (rowsS a.ns)) (h3 : OwnR w b3 3 1 vz (rowsZF a.zs)) : VV (ew w) (.agg (cellsV a.id vb vn vz).toArray) a := by
  obtain ⟨p1, c1, e1⟩ := h1.isSlice
  obtain ⟨p2, c2, e2⟩ := h2.isSlice
  obtain ⟨p3, c3, e3⟩ := h3.isSlice
  rw [rowsH_len] at e1
  rw [rowsS_len] at e2
  rw [rowsZF_len] at e3
  exact ⟨vb, vn, vz, rfl, ⟨p1, c1, e1⟩, ⟨p2, c2, e2⟩, ⟨p3, c3, e3⟩, (own_ew h1 (by decide)).sl, (own_ew h2 (by decide)).sl, (own_ew h3 (by decide)).sl⟩
end Go.Proofs.Ytogonbgelaehhaa
namespace Go.Proofs.Ytogonbgelaehhaa
open Go.RowKit
set_option linter.unusedVariables false

theorem sl_none_rows {w : World} {k n c : Nat} {rows : List (List Value)} (h : Sl w k (.slice none n c) rows) : rows = [] := by
  obtain ⟨h1, p, cap, h2, h3⟩ := h
  cases rows with
  | nil => rfl
  | cons r rows =>
    obtain ⟨a, q1, _⟩ := h3 0 r rfl
    rw [q1] at h2
    cases h2

theorem info_cV : (Try.prog.info? 28).map (fun i => (i.zero, i.size, i.bytes)) = some (some (.agg zV.toArray), 4, 80) := by kernel_rfl
set_option maxRecDepth 100000 in
set_option maxHeartbeats 2000000 in
theorem cl_V (w : World) (p : Option Addr) (c : Nat) (rows : List (List Value)) (hS : Sl w 4 (.slice p rows.length c) rows) (h1 : ∀ r ∈ rows, ∀ u ∈ r, u.oneCell' = true) (hl : rows.length ≤ 100000) :
    Calls Try.prog 43 #[.slice p rows.length c] w fun x w' => ∃ v, x = .returned v ∧ OwnR w' w.heap.size 28 4 v rows ∧ Below w.heap.size w w' := by
  obtain ⟨n, hn⟩ : ∃ n, rows.length = n := ⟨_, rfl⟩
  rw [hn] at hS ⊢
  have he : ∀ wx : World, (binOp .eql 34 (.slice p n c) (.slice none 0 0)).run Try.prog wx = .ok (.bool p.isNone) wx := fun wx => Lib.run_eql_slice_nil wx 34 28 p n c 0 0 Try.underlying34
  cases p with
  | none =>
    have h0 := sl_none_rows hS
    have HO : Hid (OwnR w w.heap.size 28 4 (.slice none 0 0) rows) := Lib.hid (by rw [h0]; exact OwnR.nil _ _ _ _)
    have he2 : ∀ wx : World, (binOp .eql 34 (.slice none n c) (.slice none 0 0)).run Try.prog wx = .ok (.bool true) wx := he
    clear hS h1 hl h0 hn he
    go_enter Try.func43, Try.ntmps43
    go_wp2
    go_ret
    exact ⟨_, rfl, HO.out, Below.refl _ _⟩
  | some ad =>
    obtain ⟨i0, hi0, hz0, hz1, hz2⟩ := info_parts2 info_cV
    have hal := (Below.refl w.heap.size w).alloc (Nat.le_refl _) (.cells #[] 28)
    have HOW := Lib.hid (OwnR.empty w w.heap.size 28 4 (Nat.le_refl _))
    have HNW := Lib.hid (hS.alloc (.cells #[] 28))
    have HONE := Lib.hid h1
    have HAL := Lib.hid hal
    have HSZ := Lib.hid hal.size
    have HLEN : Hid (([] : List (List Value)).length + rows.length ≤ maxLen) := Lib.hid (by simp; unfold maxLen; omega)
    have HBY : Hid ((([] : List (List Value)).length + rows.length) * 80 ≤ 140737488355328) := Lib.hid (by simp; omega)
    have he2 : ∀ wx : World, (binOp .eql 34 (.slice (some ad) n c) (.slice none 0 0)).run Try.prog wx = .ok (.bool false) wx := he
    clear hS h1 hal hl hn he
    go_enter Try.func43, Try.ntmps43
    go_wp2_with (first | (refine wpList_append_rows rfl _ _ 34 rfl w.heap.size 28 i0 (.agg zV.toArray) 4 80 Try.underlying34 hi0 hz0 hz1 hz2 (by rfl) (by decide) (.slice (some ⟨w.heap.size, 0, none⟩) 0 0) [] rfl HOW.out (.slice (some ad) n c) rows rfl HNW.out HONE.out HLEN.out HBY.out HSZ.out (.inr ⟨_, _, _, rfl⟩) ?_; intro v' w5 ho5 hg5 hv5; have HF : Hid (Below w.heap.size w w5) := Lib.hid (HAL.out.grown hg5 HSZ.out (fun i e => by rw [← Option.some.inj e]; exact Nat.le_refl _)); have HO5 := Lib.hid ho5; clear ho5 hg5 hv5))
    obtain ⟨p5, c5, e5⟩ := HO5.out.isSlice
    go_wp2
    go_ret
    exact ⟨_, rfl, HO5.out, HF.out⟩

theorem info_cU : (Try.prog.info? 23).map (fun i => (i.zero, i.size, i.bytes)) = some (some (.int .u32 0), 1, 4) := by kernel_rfl
set_option maxRecDepth 100000 in
set_option maxHeartbeats 2000000 in
theorem cl_U (w : World) (p : Option Addr) (c : Nat) (rows : List (List Value)) (hS : Sl w 1 (.slice p rows.length c) rows) (h1 : ∀ r ∈ rows, ∀ u ∈ r, u.oneCell' = true) (hl : rows.length ≤ 100000) :
    Calls Try.prog 46 #[.slice p rows.length c] w fun x w' => ∃ v, x = .returned v ∧ OwnR w' w.heap.size 23 1 v rows ∧ Below w.heap.size w w' := by
  obtain ⟨n, hn⟩ : ∃ n, rows.length = n := ⟨_, rfl⟩
  rw [hn] at hS ⊢
  have he : ∀ wx : World, (binOp .eql 37 (.slice p n c) (.slice none 0 0)).run Try.prog wx = .ok (.bool p.isNone) wx := fun wx => Lib.run_eql_slice_nil wx 37 23 p n c 0 0 Try.underlying37
  cases p with
  | none =>
    have h0 := sl_none_rows hS
    have HO : Hid (OwnR w w.heap.size 23 1 (.slice none 0 0) rows) := Lib.hid (by rw [h0]; exact OwnR.nil _ _ _ _)
    have he2 : ∀ wx : World, (binOp .eql 37 (.slice none n c) (.slice none 0 0)).run Try.prog wx = .ok (.bool true) wx := he
    clear hS h1 hl h0 hn he
    go_enter Try.func46, Try.ntmps46
    go_wp2
    go_ret
    exact ⟨_, rfl, HO.out, Below.refl _ _⟩
  | some ad =>
    obtain ⟨i0, hi0, hz0, hz1, hz2⟩ := info_parts2 info_cU
    have hal := (Below.refl w.heap.size w).alloc (Nat.le_refl _) (.cells #[] 23)
    have HOW := Lib.hid (OwnR.empty w w.heap.size 23 1 (Nat.le_refl _))
    have HNW := Lib.hid (hS.alloc (.cells #[] 23))
    have HONE := Lib.hid h1
    have HAL := Lib.hid hal
    have HSZ := Lib.hid hal.size
    have HLEN : Hid (([] : List (List Value)).length + rows.length ≤ maxLen) := Lib.hid (by simp; unfold maxLen; omega)
    have HBY : Hid ((([] : List (List Value)).length + rows.length) * 4 ≤ 140737488355328) := Lib.hid (by simp; omega)
    have he2 : ∀ wx : World, (binOp .eql 37 (.slice (some ad) n c) (.slice none 0 0)).run Try.prog wx = .ok (.bool false) wx := he
    clear hS h1 hal hl hn he
    go_enter Try.func46, Try.ntmps46
    go_wp2_with (first | (refine wpList_append_rows rfl _ _ 37 rfl w.heap.size 23 i0 (.int .u32 0) 1 4 Try.underlying37 hi0 hz0 hz1 hz2 (by rfl) (by decide) (.slice (some ⟨w.heap.size, 0, none⟩) 0 0) [] rfl HOW.out (.slice (some ad) n c) rows rfl HNW.out HONE.out HLEN.out HBY.out HSZ.out (.inr ⟨_, _, _, rfl⟩) ?_; intro v' w5 ho5 hg5 hv5; have HF : Hid (Below w.heap.size w w5) := Lib.hid (HAL.out.grown hg5 HSZ.out (fun i e => by rw [← Option.some.inj e]; exact Nat.le_refl _)); have HO5 := Lib.hid ho5; clear ho5 hg5 hv5))
    obtain ⟨p5, c5, e5⟩ := HO5.out.isSlice
    go_wp2
    go_ret
    exact ⟨_, rfl, HO5.out, HF.out⟩

theorem info_cH : (Try.prog.info? 64).map (fun i => (i.zero, i.size, i.bytes)) = some (some (.agg (ints .u8 (nn (zerN 32))).toArray), 32, 32) := by kernel_rfl
set_option maxRecDepth 100000 in
set_option maxHeartbeats 2000000 in
theorem cl_H (w : World) (p : Option Addr) (c : Nat) (rows : List (List Value)) (hS : Sl w 32 (.slice p rows.length c) rows) (h1 : ∀ r ∈ rows, ∀ u ∈ r, u.oneCell' = true) (hl : rows.length ≤ 100000) :
    Calls Try.prog 47 #[.slice p rows.length c] w fun x w' => ∃ v, x = .returned v ∧ OwnR w' w.heap.size 64 32 v rows ∧ Below w.heap.size w w' := by
  obtain ⟨n, hn⟩ : ∃ n, rows.length = n := ⟨_, rfl⟩
  rw [hn] at hS ⊢
  have he : ∀ wx : World, (binOp .eql 24 (.slice p n c) (.slice none 0 0)).run Try.prog wx = .ok (.bool p.isNone) wx := fun wx => Lib.run_eql_slice_nil wx 24 64 p n c 0 0 Try.underlying24
  cases p with
  | none =>
    have h0 := sl_none_rows hS
    have HO : Hid (OwnR w w.heap.size 64 32 (.slice none 0 0) rows) := Lib.hid (by rw [h0]; exact OwnR.nil _ _ _ _)
    have he2 : ∀ wx : World, (binOp .eql 24 (.slice none n c) (.slice none 0 0)).run Try.prog wx = .ok (.bool true) wx := he
    clear hS h1 hl h0 hn he
    go_enter Try.func47, Try.ntmps47
    go_wp2
    go_ret
    exact ⟨_, rfl, HO.out, Below.refl _ _⟩
  | some ad =>
    obtain ⟨i0, hi0, hz0, hz1, hz2⟩ := info_parts2 info_cH
    have hal := (Below.refl w.heap.size w).alloc (Nat.le_refl _) (.cells #[] 64)
    have HOW := Lib.hid (OwnR.empty w w.heap.size 64 32 (Nat.le_refl _))
    have HNW := Lib.hid (hS.alloc (.cells #[] 64))
    have HONE := Lib.hid h1
    have HAL := Lib.hid hal
    have HSZ := Lib.hid hal.size
    have HLEN : Hid (([] : List (List Value)).length + rows.length ≤ maxLen) := Lib.hid (by simp; unfold maxLen; omega)
    have HBY : Hid ((([] : List (List Value)).length + rows.length) * 32 ≤ 140737488355328) := Lib.hid (by simp; omega)
    have he2 : ∀ wx : World, (binOp .eql 24 (.slice (some ad) n c) (.slice none 0 0)).run Try.prog wx = .ok (.bool false) wx := he
    clear hS h1 hal hl hn he
    go_enter Try.func47, Try.ntmps47
    go_wp2_with (first | (refine wpList_append_rows rfl _ _ 24 rfl w.heap.size 64 i0 (.agg (ints .u8 (nn (zerN 32))).toArray) 32 32 Try.underlying24 hi0 hz0 hz1 hz2 (by rfl) (by decide) (.slice (some ⟨w.heap.size, 0, none⟩) 0 0) [] rfl HOW.out (.slice (some ad) n c) rows rfl HNW.out HONE.out HLEN.out HBY.out HSZ.out (.inr ⟨_, _, _, rfl⟩) ?_; intro v' w5 ho5 hg5 hv5; have HF : Hid (Below w.heap.size w w5) := Lib.hid (HAL.out.grown hg5 HSZ.out (fun i e => by rw [← Option.some.inj e]; exact Nat.le_refl _)); have HO5 := Lib.hid ho5; clear ho5 hg5 hv5))
    obtain ⟨p5, c5, e5⟩ := HO5.out.isSlice
    go_wp2
    go_ret
    exact ⟨_, rfl, HO5.out, HF.out⟩

theorem info_cS : (Try.prog.info? 9).map (fun i => (i.zero, i.size, i.bytes)) = some (some (.string ⟨#[]⟩), 1, 16) := by kernel_rfl
set_option maxRecDepth 100000 in
set_option maxHeartbeats 2000000 in
theorem cl_S (w : World) (p : Option Addr) (c : Nat) (rows : List (List Value)) (hS : Sl w 1 (.slice p rows.length c) rows) (h1 : ∀ r ∈ rows, ∀ u ∈ r, u.oneCell' = true) (hl : rows.length ≤ 100000) :
    Calls Try.prog 48 #[.slice p rows.length c] w fun x w' => ∃ v, x = .returned v ∧ OwnR w' w.heap.size 9 1 v rows ∧ Below w.heap.size w w' := by
  obtain ⟨n, hn⟩ : ∃ n, rows.length = n := ⟨_, rfl⟩
  rw [hn] at hS ⊢
  have he : ∀ wx : World, (binOp .eql 25 (.slice p n c) (.slice none 0 0)).run Try.prog wx = .ok (.bool p.isNone) wx := fun wx => Lib.run_eql_slice_nil wx 25 9 p n c 0 0 Try.underlying25
  cases p with
  | none =>
    have h0 := sl_none_rows hS
    have HO : Hid (OwnR w w.heap.size 9 1 (.slice none 0 0) rows) := Lib.hid (by rw [h0]; exact OwnR.nil _ _ _ _)
    have he2 : ∀ wx : World, (binOp .eql 25 (.slice none n c) (.slice none 0 0)).run Try.prog wx = .ok (.bool true) wx := he
    clear hS h1 hl h0 hn he
    go_enter Try.func48, Try.ntmps48
    go_wp2
    go_ret
    exact ⟨_, rfl, HO.out, Below.refl _ _⟩
  | some ad =>
    obtain ⟨i0, hi0, hz0, hz1, hz2⟩ := info_parts2 info_cS
    have hal := (Below.refl w.heap.size w).alloc (Nat.le_refl _) (.cells #[] 9)
    have HOW := Lib.hid (OwnR.empty w w.heap.size 9 1 (Nat.le_refl _))
    have HNW := Lib.hid (hS.alloc (.cells #[] 9))
    have HONE := Lib.hid h1
    have HAL := Lib.hid hal
    have HSZ := Lib.hid hal.size
    have HLEN : Hid (([] : List (List Value)).length + rows.length ≤ maxLen) := Lib.hid (by simp; unfold maxLen; omega)
    have HBY : Hid ((([] : List (List Value)).length + rows.length) * 16 ≤ 140737488355328) := Lib.hid (by simp; omega)
    have he2 : ∀ wx : World, (binOp .eql 25 (.slice (some ad) n c) (.slice none 0 0)).run Try.prog wx = .ok (.bool false) wx := he
    clear hS h1 hal hl hn he
    go_enter Try.func48, Try.ntmps48
    go_wp2_with (first | (refine wpList_append_rows rfl _ _ 25 rfl w.heap.size 9 i0 (.string ⟨#[]⟩) 1 16 Try.underlying25 hi0 hz0 hz1 hz2 (by rfl) (by decide) (.slice (some ⟨w.heap.size, 0, none⟩) 0 0) [] rfl HOW.out (.slice (some ad) n c) rows rfl HNW.out HONE.out HLEN.out HBY.out HSZ.out (.inr ⟨_, _, _, rfl⟩) ?_; intro v' w5 ho5 hg5 hv5; have HF : Hid (Below w.heap.size w w5) := Lib.hid (HAL.out.grown hg5 HSZ.out (fun i e => by rw [← Option.some.inj e]; exact Nat.le_refl _)); have HO5 := Lib.hid ho5; clear ho5 hg5 hv5))
    obtain ⟨p5, c5, e5⟩ := HO5.out.isSlice
    go_wp2
    go_ret
    exact ⟨_, rfl, HO5.out, HF.out⟩

theorem info_cZ : (Try.prog.info? 3).map (fun i => (i.zero, i.size, i.bytes)) = some (some (.int .i64 0), 1, 8) := by kernel_rfl
set_option maxRecDepth 100000 in
set_option maxHeartbeats 2000000 in
theorem cl_Z (w : World) (p : Option Addr) (c : Nat) (rows : List (List Value)) (hS : Sl w 1 (.slice p rows.length c) rows) (h1 : ∀ r ∈ rows, ∀ u ∈ r, u.oneCell' = true) (hl : rows.length ≤ 100000) :
    Calls Try.prog 49 #[.slice p rows.length c] w fun x w' => ∃ v, x = .returned v ∧ OwnR w' w.heap.size 3 1 v rows ∧ Below w.heap.size w w' := by
  obtain ⟨n, hn⟩ : ∃ n, rows.length = n := ⟨_, rfl⟩
  rw [hn] at hS ⊢
  have he : ∀ wx : World, (binOp .eql 26 (.slice p n c) (.slice none 0 0)).run Try.prog wx = .ok (.bool p.isNone) wx := fun wx => Lib.run_eql_slice_nil wx 26 3 p n c 0 0 Try.underlying26
  cases p with
  | none =>
    have h0 := sl_none_rows hS
    have HO : Hid (OwnR w w.heap.size 3 1 (.slice none 0 0) rows) := Lib.hid (by rw [h0]; exact OwnR.nil _ _ _ _)
    have he2 : ∀ wx : World, (binOp .eql 26 (.slice none n c) (.slice none 0 0)).run Try.prog wx = .ok (.bool true) wx := he
    clear hS h1 hl h0 hn he
    go_enter Try.func49, Try.ntmps49
    go_wp2
    go_ret
    exact ⟨_, rfl, HO.out, Below.refl _ _⟩
  | some ad =>
    obtain ⟨i0, hi0, hz0, hz1, hz2⟩ := info_parts2 info_cZ
    have hal := (Below.refl w.heap.size w).alloc (Nat.le_refl _) (.cells #[] 3)
    have HOW := Lib.hid (OwnR.empty w w.heap.size 3 1 (Nat.le_refl _))
    have HNW := Lib.hid (hS.alloc (.cells #[] 3))
    have HONE := Lib.hid h1
    have HAL := Lib.hid hal
    have HSZ := Lib.hid hal.size
    have HLEN : Hid (([] : List (List Value)).length + rows.length ≤ maxLen) := Lib.hid (by simp; unfold maxLen; omega)
    have HBY : Hid ((([] : List (List Value)).length + rows.length) * 8 ≤ 140737488355328) := Lib.hid (by simp; omega)
    have he2 : ∀ wx : World, (binOp .eql 26 (.slice (some ad) n c) (.slice none 0 0)).run Try.prog wx = .ok (.bool false) wx := he
    clear hS h1 hal hl hn he
    go_enter Try.func49, Try.ntmps49
    go_wp2_with (first | (refine wpList_append_rows rfl _ _ 26 rfl w.heap.size 3 i0 (.int .i64 0) 1 8 Try.underlying26 hi0 hz0 hz1 hz2 (by rfl) (by decide) (.slice (some ⟨w.heap.size, 0, none⟩) 0 0) [] rfl HOW.out (.slice (some ad) n c) rows rfl HNW.out HONE.out HLEN.out HBY.out HSZ.out (.inr ⟨_, _, _, rfl⟩) ?_; intro v' w5 ho5 hg5 hv5; have HF : Hid (Below w.heap.size w w5) := Lib.hid (HAL.out.grown hg5 HSZ.out (fun i e => by rw [← Option.some.inj e]; exact Nat.le_refl _)); have HO5 := Lib.hid ho5; clear ho5 hg5 hv5))
    obtain ⟨p5, c5, e5⟩ := HO5.out.isSlice
    go_wp2
    go_ret
    exact ⟨_, rfl, HO5.out, HF.out⟩
end Go.Proofs.Ytogonbgelaehhaa
namespace Go.Proofs.Ytogonbgelaehhaa
open Go.RowKit
set_option linter.unusedVariables false

theorem rowsH_cells {l : List (List Nat)} : ∀ r ∈ rowsH l, ∀ u ∈ r, u.oneCell' = true := fun r hr u hu => by
  obtain ⟨x, _, rfl⟩ := List.mem_map.1 hr
  obtain ⟨n, _, rfl⟩ := List.mem_map.1 hu
  rfl
theorem rowsS_cells {l : List (List Nat)} : ∀ r ∈ rowsS l, ∀ u ∈ r, u.oneCell' = true := fun r hr u hu => by
  obtain ⟨x, _, rfl⟩ := List.mem_map.1 hr
  rw [List.mem_singleton.1 hu]
  rfl
theorem rowsZF_cells {l : List Int} : ∀ r ∈ rowsZF l, ∀ u ∈ r, u.oneCell' = true := fun r hr u hu => by
  obtain ⟨x, _, rfl⟩ := List.mem_map.1 hr
  rw [List.mem_singleton.1 hu]
  rfl
theorem rowsU_cells {k : IntKind} {l : List Nat} : ∀ r ∈ rowsU k l, ∀ u ∈ r, u.oneCell' = true := fun r hr u hu => by
  obtain ⟨x, _, rfl⟩ := List.mem_map.1 hr
  rw [List.mem_singleton.1 hu]
  rfl
theorem build_cv (w : World) (id : Nat) (p1 p2 p3 : Option Addr) (n1 n2 n3 c1 c2 c3 : Nat) : (Instr.build 28 #[(0, .int .u32 (id : Int)), (1, .slice p1 n1 c1), (2, .slice p2 n2 c2), (3, .slice p3 n3 c3)]).run Try.prog w = .ok (.agg (cellsV id (.slice p1 n1 c1) (.slice p2 n2 c2) (.slice p3 n3 c3)).toArray) w := by kernel_rfl
theorem build_cr (w : World) (e id : Nat) (p0 p1 p2 p3 : Option Addr) (n0 n1 n2 n3 c0 c1 c2 c3 : Nat) : (Instr.build 39 #[(0, .int .i64 (e : Int)), (1, .slice p0 n0 c0), (2, .agg (cellsV id (.slice p1 n1 c1) (.slice p2 n2 c2) (.slice p3 n3 c3)).toArray)]).run Try.prog w = .ok (.agg (cellsR e (.slice p0 n0 c0) id (.slice p1 n1 c1) (.slice p2 n2 c2) (.slice p3 n3 c3)).toArray) w := by kernel_rfl
def cvF (v : Value) (y1 y2 : Nat) (u : Nat → Value) : Array Value := #[v, .pointer (some ⟨y1, 0, none⟩), .pointer (some ⟨y2, 0, none⟩), u 0, u 1, u 2, u 3, u 4, u 5, u 6, u 7, u 8, u 9, u 10, u 11]
def cvS (a : RawV) (y1 B : Nat) (vb vn vz : Value) (i : Nat) (v : Value) (W : World) : Prop := match i with
  | 0 => v = .pointer (some ⟨y1, 0, none⟩) | 1 => v = .int .u32 (a.id : Int) | 2 => v = .pointer (some ⟨y1, 1, none⟩) | 3 => v = vb
  | 4 => OwnR W B 64 32 v (rowsH a.bl) | 5 => v = .pointer (some ⟨y1, 2, none⟩) | 6 => v = vn
  | 7 => OwnR W B 9 1 v (rowsS a.ns) | 8 => v = .pointer (some ⟨y1, 3, none⟩) | 9 => v = vz
  | 10 => OwnR W B 3 1 v (rowsZF a.zs)
  | 11 => ∃ r : List Value, v = .agg r.toArray ∧ VV (ew W) (.agg r.toArray) a
  | _ => True
set_option maxRecDepth 100000 in
set_option maxHeartbeats 2000000 in
theorem u_copyV (a : RawV) (v : Value) (w : World) (hV : VV w v a) (hn : a.bl.length ≤ 1000 ∧ a.ns.length ≤ 1000 ∧ a.zs.length ≤ 1000) :
    Calls Try.prog 44 #[v] w fun e w' => ∃ r : List Value, e = .returned (.agg r.toArray) ∧ VV (ew w') (.agg r.toArray) a ∧ Below w.heap.size w w' := by
  obtain ⟨vb, vn, vz, rfl, ⟨pb, cb, eb⟩, ⟨pn, cn, en⟩, ⟨pz, cz, ez⟩, sb, sn, sz⟩ := hV
  obtain ⟨R, hR⟩ : ∃ R, cellsV a.id vb vn vz = R := ⟨_, rfl⟩
  obtain ⟨y, hy⟩ : ∃ y, w.heap.size = y := ⟨_, rfl⟩
  have k0 := Blk.newAt w y hy 28 (c := R.toArray) R rfl
  have z1 : (w.alloc (.cells R.toArray 28)).heap.size = y + 1 := by simp [hy]
  have k1 := Blk.newAt _ (y + 1) z1 28 (c := zV.toArray) zV rfl
  have kb := ((Below.refl w.heap.size w).alloc (Nat.le_refl _) (.cells R.toArray 28)).alloc (by simp) (.cells zV.toArray 28)
  have K0 := Lib.hid (k0.alloc (.cells zV.toArray 28))
  have K1 := Lib.hid k1
  have KB := Lib.hid kb
  have Z1 := Lib.hid z1
  have HR := Lib.hid hR
  have SB := Lib.hid (sb.below kb)
  have SN := Lib.hid (sn.below kb)
  have SZ := Lib.hid (sz.below kb)
  have EB := Lib.hid eb
  have EN := Lib.hid en
  have EZ := Lib.hid ez
  have HN := Lib.hid hn
  have HY := Lib.hid hy
  rw [hR]
  clear k0 z1 k1 kb hR sb sn sz eb en ez hn hy
  go_enter Try.func44, Try.ntmps44
  go_wp2_with (first | (refine wpList_alloc_n rfl 28 rfl (y + 1) Z1.out _ (alloc_ver _) ?_))
  rw [HY.out]
  generalize (w.alloc (.cells R.toArray 28)).alloc (.cells zV.toArray 28) = w2 at *
  have hk0 : ∀ wx, NewBut w2 wx → Blk wx y 28 (cellsV a.id vb vn vz) := fun wx hx => by rw [HR.out]; exact K0.out.below hx K0.out.lt
  have hk1 : ∀ wx, NewBut w2 wx → Blk wx (y + 1) 28 zV := fun wx hx => K1.out.below hx K1.out.lt
  have HK0 := Lib.hid hk0
  have HK1 := Lib.hid hk1
  clear hk0 hk1
  refine region_free_last 12 mixed (by kernel_rfl) (by kernel_rfl) (cvF (.agg R.toArray) y (y + 1)) [] (fun _ => undef) rfl (NewBut w2) (show Below _ _ _ from (Below.refl _ _).drew) (cvS a y w2.heap.size vb vn vz) ?mono ?step ?last
  case mono =>
    intro i v W W' hv hC hC' hb
    match i with
    | 0 | 1 | 2 | 3 | 5 | 6 | 8 | 9 => exact hv
    | 4 | 7 | 10 => exact OwnR.keep hv hb
    | 11 =>
      obtain ⟨r, h1, h2⟩ := hv
      exact ⟨r, h1, h2.sub (ew_lf (Lf.below hb))⟩
    | _ + 12 => trivial
  case step =>
    intro u W i o hi ho hC hd
    have hr := Below.refl W.heap.size W
    have hz := hC.size
    have hB := HK0.out _ hC
    rcases i with _ | _ | _ | _ | _ | _ | _ | _ | _ | _ | _ | _ | i
    all_goals try (simp only [List.getElem?_cons_zero, List.getElem?_cons_succ, Option.some.injEq] at ho; subst ho)
    · unfold cvF; go_wp2_with fail
      exact ⟨_, rfl, rfl, hC, hr⟩
    · have h0 : u 0 = _ := hd ⟨0, .data⟩ (by simp) rfl
      have c0 := hB.cellOf (j := 0) rfl
      unfold cvF
      rw [h0]
      clear hB
      go_wp2_with fail
      exact ⟨.int .u32 (a.id : Int), by simp [upd, h0], rfl, hC, hr⟩
    · unfold cvF; go_wp2_with fail
      exact ⟨_, rfl, rfl, hC, hr⟩
    · have h0 : u 2 = _ := hd ⟨2, .data⟩ (by simp) rfl
      have c0 := hB.cellOf (j := 1) rfl
      have eb := EB.out
      subst eb
      unfold cvF
      rw [h0]
      clear hB
      go_wp2_with fail
      exact ⟨.slice pb a.bl.length cb, by simp [upd, h0], rfl, hC, hr⟩
    · have h0 : u 3 = _ := hd ⟨3, .data⟩ (by simp) rfl
      have hc : Calls Try.prog 47 #[vb] W fun x w' => ∃ v, x = .returned v ∧ OwnR w' W.heap.size 64 32 v (rowsH a.bl) ∧ Below W.heap.size W w' := by
        have := cl_H W pb cb (rowsH a.bl) (by rw [rowsH_len, ← EB.out]; exact SB.out.below hC) rowsH_cells (by rw [rowsH_len]; have := HN.out; omega)
        rw [rowsH_len, ← EB.out] at this
        exact this
      have HC := Lib.hid hc
      unfold cvF
      rw [h0]
      clear hc hB
      go_wp2_with ((with_reducible refine HC.out.mono ?_); rintro e w5 ⟨v5, rfl, o5, b5⟩; have O5 := Lib.hid (o5.lower hz); have B5 := Lib.hid b5; clear o5 b5)
      exact ⟨v5, by simp [upd, h0], O5.out, hC.trans (B5.out.mono hz), B5.out⟩
    · unfold cvF; go_wp2_with fail
      exact ⟨_, rfl, rfl, hC, hr⟩
    · have h0 : u 5 = _ := hd ⟨5, .data⟩ (by simp) rfl
      have c0 := hB.cellOf (j := 2) rfl
      have eb := EN.out
      subst eb
      unfold cvF
      rw [h0]
      clear hB
      go_wp2_with fail
      exact ⟨.slice pn a.ns.length cn, by simp [upd, h0], rfl, hC, hr⟩
    · have h0 : u 6 = _ := hd ⟨6, .data⟩ (by simp) rfl
      have hc : Calls Try.prog 48 #[vn] W fun x w' => ∃ v, x = .returned v ∧ OwnR w' W.heap.size 9 1 v (rowsS a.ns) ∧ Below W.heap.size W w' := by
        have := cl_S W pn cn (rowsS a.ns) (by rw [rowsS_len, ← EN.out]; exact SN.out.below hC) rowsS_cells (by rw [rowsS_len]; have := HN.out; omega)
        rw [rowsS_len, ← EN.out] at this
        exact this
      have HC := Lib.hid hc
      unfold cvF
      rw [h0]
      clear hc hB
      go_wp2_with ((with_reducible refine HC.out.mono ?_); rintro e w5 ⟨v5, rfl, o5, b5⟩; have O5 := Lib.hid (o5.lower hz); have B5 := Lib.hid b5; clear o5 b5)
      exact ⟨v5, by simp [upd, h0], O5.out, hC.trans (B5.out.mono hz), B5.out⟩
    · unfold cvF; go_wp2_with fail
      exact ⟨_, rfl, rfl, hC, hr⟩
    · have h0 : u 8 = _ := hd ⟨8, .data⟩ (by simp) rfl
      have c0 := hB.cellOf (j := 3) rfl
      have eb := EZ.out
      subst eb
      unfold cvF
      rw [h0]
      clear hB
      go_wp2_with fail
      exact ⟨.slice pz a.zs.length cz, by simp [upd, h0], rfl, hC, hr⟩
    · have h0 : u 9 = _ := hd ⟨9, .data⟩ (by simp) rfl
      have hc : Calls Try.prog 49 #[vz] W fun x w' => ∃ v, x = .returned v ∧ OwnR w' W.heap.size 3 1 v (rowsZF a.zs) ∧ Below W.heap.size W w' := by
        have := cl_Z W pz cz (rowsZF a.zs) (by rw [rowsZF_len, ← EZ.out]; exact SZ.out.below hC) rowsZF_cells (by rw [rowsZF_len]; have := HN.out; omega)
        rw [rowsZF_len, ← EZ.out] at this
        exact this
      have HC := Lib.hid hc
      unfold cvF
      rw [h0]
      clear hc hB
      go_wp2_with ((with_reducible refine HC.out.mono ?_); rintro e w5 ⟨v5, rfl, o5, b5⟩; have O5 := Lib.hid (o5.lower hz); have B5 := Lib.hid b5; clear o5 b5)
      exact ⟨v5, by simp [upd, h0], O5.out, hC.trans (B5.out.mono hz), B5.out⟩
    · have h1 : u 1 = _ := hd ⟨1, .data⟩ (by simp) rfl
      have h4 : OwnR W w2.heap.size 64 32 (u 4) (rowsH a.bl) := hd ⟨4, .data⟩ (by simp) rfl
      have h7 : OwnR W w2.heap.size 9 1 (u 7) (rowsS a.ns) := hd ⟨7, .data⟩ (by simp) rfl
      have h10 : OwnR W w2.heap.size 3 1 (u 10) (rowsZF a.zs) := hd ⟨10, .data⟩ (by simp) rfl
      obtain ⟨p4, c4, e4⟩ := h4.isSlice
      obtain ⟨p7, c7, e7⟩ := h7.isSlice
      obtain ⟨p10, c10, e10⟩ := h10.isSlice
      have HV := Lib.hid (VV.of_own h4 h7 h10)
      rw [e4, e7, e10] at HV
      unfold cvF
      rw [h1, e4, e7, e10]
      clear hB h4 h7 h10
      go_wp2_with (refine wpList_build_at rfl 28 _ rfl (.agg (cellsV a.id (.slice p4 (rowsH a.bl).length c4) (.slice p7 (rowsS a.ns).length c7) (.slice p10 (rowsZF a.zs).length c10)).toArray) (by simp only [List.map_toArray, List.map_cons, List.map_nil]; exact build_cv _ _ _ _ _ _ _ _ _ _ _) ?_)
      exact ⟨_, by simp [upd, h1, e4, e7, e10], ⟨_, rfl, HV.out⟩, hC, hr⟩
    · omega
  case last =>
    intro u W o ho hC hS
    simp only [List.getElem?_cons_zero, List.getElem?_cons_succ, Option.some.injEq] at ho
    subst ho
    obtain ⟨r, h11, hV⟩ : ∃ r : List Value, u 11 = .agg r.toArray ∧ VV (ew W) (.agg r.toArray) a := hS 11 (by decide)
    have hB := HK1.out _ hC
    have hl := hV.len
    obtain ⟨_, _, _, _, _, _, hrow⟩ := hV.row
    have hone : r.toArray.all (·.oneCell') = true := by rw [hrow]; exact cellsV_one _ _ _ _ _ _ _ _ _ _
    have HV := Lib.hid (hV.sub (ew_lf (Lf.row hB (by decide) r.toArray)))
    have D1 := Lib.hid (hB.row r (by rw [hl]; rfl))
    have D0 := Lib.hid hB
    have HL := Lib.hid hl
    have HO := Lib.hid hone
    have HB := Lib.hid (below_setRow (KB.out.trans (hC.mono KB.out.size)) (show w.heap.size ≤ y + 1 by have := HY.out; omega) r.toArray)
    clear hB hl hone hV hrow
    unfold cvF
    rw [h11]
    go_wp2_with (refine wpList_store_blk rfl 28 _ _ rfl (y + 1) r rfl rfl D0.out (by rw [size_ver, HL.out]) (by rw [HL.out]; rfl) HO.out ?_)
    refine bodyPost_ret (v := .agg r.toArray) (results_cell_blk rfl _ _ (y + 1) rfl D1.out Try.underlying28 rfl (by rw [size_ver, HL.out])) rfl ?_
    exact ⟨r, rfl, HV.out, HB.out⟩
end Go.Proofs.Ytogonbgelaehhaa
namespace Go.Proofs.Ytogonbgelaehhaa
open Go.RowKit
set_option linter.unusedVariables false

/-- rows cut off at their end -/
theorem OwnR.cutR {w : World} {B : Nat} {e : TypeId} {k : Nat} {p : Option Addr} {n cap : Nat} {rows : List (List Value)} (h : OwnR w B e k (.slice p n cap) rows) {i : Nat} (hi : i ≤ rows.length) : OwnR w B e k (.slice p i cap) (rows.take i) := by
  obtain ⟨k0, k1, k2⟩ := h
  have k0' : ∀ r ∈ rows.take i, r.length = k := fun r hr => k0 r (List.mem_of_mem_take hr)
  have hl : (rows.take i).length = i := by rw [List.length_take]; omega
  have hf := flat_len k0'
  refine ⟨k0', by rw [hf], ?_⟩
  rw [hl]
  rcases k2 with ⟨hv, h0⟩ | ⟨g, cap', cur, hv, hg, hh, hn, hm, hcs, htk⟩
  · cases hv
    exact .inl ⟨by rw [show i = 0 by omega], by omega⟩
  · cases hv
    refine .inr ⟨g, cap, cur, rfl, hg, hh, by omega, hm, hcs, ?_⟩
    have e1 : rows.flatten.take (i * k) = (rows.take i).flatten := by
      conv => lhs; rw [← List.take_append_drop i rows, List.flatten_append]
      rw [List.take_append_of_le_length (by rw [hf, hl]; exact Nat.le_refl _), List.take_of_length_le (by rw [hf, hl]; exact Nat.le_refl _)]
    rw [← e1, ← htk, List.take_take, Nat.min_eq_left (Nat.mul_le_mul_right k hi)]
/-- cells written behind the rows -/
theorem OwnR.behind {w : World} {B : Nat} {e : TypeId} {k : Nat} {g n cap : Nat} {rows : List (List Value)} (h : OwnR w B e k (.slice (some ⟨g, 0, none⟩) n cap) rows) {o : Nat} (ho : rows.length * k ≤ o) (x : Value) : OwnR (w.setCell ⟨g, o, none⟩ x) B e k (.slice (some ⟨g, 0, none⟩) n cap) rows := by
  obtain ⟨k0, k1, k2⟩ := h
  refine ⟨k0, k1, ?_⟩
  rcases k2 with ⟨hv, h0⟩ | ⟨g', cap', cur, hv, hg, hh, hn, hm, hcs, htk⟩
  · cases hv
  · cases hv
    have hB : Blk w g e cur.toList := hh
    have hB' := hB.set o x
    refine .inr ⟨g, cap, (cur.toList.set o x).toArray, rfl, hg, hB', hn, hm, by simpa using hcs, ?_⟩
    rw [List.toList_toArray, ← htk, List.take_set_of_le ho]
theorem OwnR.behinds {B : Nat} {e : TypeId} {k : Nat} {g n cap : Nat} {rows : List (List Value)} : ∀ (Z : List Value) (o : Nat) (w : World), OwnR w B e k (.slice (some ⟨g, 0, none⟩) n cap) rows → rows.length * k ≤ o → OwnR (w.setCells g o Z) B e k (.slice (some ⟨g, 0, none⟩) n cap) rows
  | [], _, _, h, _ => h
  | x :: Z, o, w, h, ho => OwnR.behinds Z (o + 1) _ (h.behind ho x) (by omega)
theorem grown_setCells (g : Nat) : ∀ (Z : List Value) (o : Nat) (w : World), w.grownBy (w.setCells g o Z) (some g)
  | [], _, w => ⟨rfl, rfl, rfl, Nat.le_refl _, fun _ _ _ => rfl⟩
  | x :: Z, o, w => (grown_setCell w ⟨g, o, none⟩ x).trans (grown_setCells g Z (o + 1) _)
/-- rows moved to the left -/
theorem OwnR.moved {w : World} {B : Nat} {e : TypeId} {k : Nat} {g n cap : Nat} {rows : List (List Value)} (h : OwnR w B e k (.slice (some ⟨g, 0, none⟩) n cap) rows) {i j : Nat} (hij : i ≤ j) (hj : j ≤ rows.length) :
    OwnR (w.setCells g (0 + i * k) (rows.drop j).flatten) B e k (.slice (some ⟨g, 0, none⟩) (i + (rows.length - j)) cap) (rows.take i ++ rows.drop j) := by
  obtain ⟨k0, k1, k2⟩ := h
  have ka : ∀ r ∈ rows.take i, r.length = k := fun r hr => k0 r (List.mem_of_mem_take hr)
  have kb : ∀ r ∈ rows.drop j, r.length = k := fun r hr => k0 r (List.mem_of_mem_drop hr)
  have ha := flat_len ka
  have hb := flat_len kb
  have hla : (rows.take i).length = i := by rw [List.length_take]; omega
  have hlb : (rows.drop j).length = rows.length - j := List.length_drop
  rw [hla] at ha
  rw [hlb] at hb
  have kk : ∀ r ∈ rows.take i ++ rows.drop j, r.length = k := fun r hr => by
    rcases List.mem_append.1 hr with h | h
    · exact ka r h
    · exact kb r h
  have hL : (rows.take i ++ rows.drop j).length = i + (rows.length - j) := by rw [List.length_append, hla, hlb]
  refine ⟨kk, flat_len kk, ?_⟩
  rcases k2 with ⟨hv, h0⟩ | ⟨g', cap', cur, hv, hg, hh, hn, hm, hcs, htk⟩
  · cases hv
  · cases hv
    have hB : Blk w g e cur.toList := hh
    have hcl : cur.toList.length = cap * k := by simpa using hcs
    have hle : (i + (rows.length - j)) * k ≤ cap * k := Nat.mul_le_mul_right k (by omega)
    have hsum : (i + (rows.length - j)) * k = i * k + (rows.length - j) * k := Nat.add_mul _ _ _
    have hx : (cur.toList.take (i * k)).length = i * k := by rw [List.length_take]; omega
    have e0 : cur.toList = cur.toList.take (i * k) ++ ((cur.toList.drop (i * k)).take ((rows.length - j) * k) ++ (cur.toList.drop (i * k)).drop ((rows.length - j) * k)) := by
      rw [List.take_append_drop, List.take_append_drop]
    rw [e0] at hB
    have h1 := setCells_part _ (rows.drop j).flatten _ _ w hB (by rw [hb, List.length_take, List.length_drop]; omega)
    rw [hx] at h1
    rw [Nat.zero_add, hL]
    refine .inr ⟨g, cap, _, rfl, hg, h1, by omega, hm, ?_, ?_⟩
    · simp only [List.size_toArray, List.length_append, List.length_take, List.length_drop]
      rw [hb]
      omega
    · rw [List.toList_toArray, List.flatten_append, ← List.append_assoc]
      have e1 : cur.toList.take (i * k) = (rows.take i).flatten := by
        have e2 : rows.flatten.take (i * k) = (rows.take i).flatten := by
          conv => lhs; rw [← List.take_append_drop i rows, List.flatten_append]
          rw [List.take_append_of_le_length (by rw [ha]; exact Nat.le_refl _), List.take_of_length_le (by rw [ha]; exact Nat.le_refl _)]
        rw [← e2, ← htk, List.take_take, Nat.min_eq_left (Nat.mul_le_mul_right k (by omega))]
      rw [e1, List.take_append_of_le_length (by rw [List.length_append, ha, hb, hsum]; exact Nat.le_refl _), List.take_of_length_le (by rw [List.length_append, ha, hb, hsum]; exact Nat.le_refl _)]
theorem zero_ver (w : World) : (zeroValue 28).run Try.prog w = .ok (.agg zV.toArray) w := by kernel_rfl
theorem zero_len (z : Array Value) (n : Nat) : (Builtin.zeroCells z n).toList.length = n * z.size := by simp [Builtin.zeroCells]
theorem zero_one (n : Nat) : ∀ v ∈ (Builtin.zeroCells zV.toArray n).toList, v.oneCell' = true := by
  intro v hv
  simp only [Builtin.zeroCells, Array.toList_map, List.mem_map] at hv
  obtain ⟨i, _, rfl⟩ := hv
  have hlt : i % zV.toArray.size < 4 := Nat.mod_lt _ (by decide)
  have : ∀ m, m < 4 → (zV.toArray[m]!).oneCell' = true := by
    intro m hm
    match m, hm with
    | 0, _ | 1, _ | 2, _ | 3, _ => rfl
  exact this _ hlt
theorem run_clear_vers (w : World) (ty : TypeId) (b o n c : Nat) (hn : 0 < n) (hc : ∀ j, j < n * 4 → (w.cell? ⟨b, o + j, none⟩).isSome = true) (hf : ∀ j, j < n * 4 → w.frozen? ⟨b, o + j, none⟩ = false) :
    (Builtin.clear_ #[34] ty #[.slice (some ⟨b, o, none⟩) n c]).run Try.prog w = .ok (.tuple #[]) (w.setCells b o (Builtin.zeroCells zV.toArray n).toList) := by
  have hl : (Builtin.zeroCells zV.toArray n).toList.length = n * 4 := zero_len _ n
  have hst := run_storeCells_cells (P := Try.prog) b o (Builtin.zeroCells zV.toArray n).toList 0 w (by rw [hl]; simpa using hc) (by rw [hl]; simpa using hf) (zero_one n)
  simp only [Nat.add_zero] at hst
  obtain ⟨m, rfl⟩ : ∃ m, n = m + 1 := ⟨n - 1, by omega⟩
  have hz : (Value.agg #[Value.int IntKind.u32 0, Value.slice none 0 0, Value.slice none 0 0, Value.slice none 0 0]).cells = zV.toArray := rfl
  simp [Builtin.clear_, run_underlying (Try.underlying34), hz, hst]
section
variable {ops : Array Oper} {rest : List Oper} {o : Oper} {a : Act} {w : World} {Q : Exit → Act → World → Prop}
theorem wpList_clear_vers (hg : o.guard = none) (m : Operand) (hop : o.op = Op.call { callee := Callee.builtin Builtin.clear, args := #[m], argTypes := #[34] })
    (b p n c : Nat) (hm : a.eval m = .slice (some ⟨b, p, none⟩) n c) (hn : 0 < n) (hc : ∀ j, j < n * 4 → (w.cell? ⟨b, p + j, none⟩).isSome = true) (hf : ∀ j, j < n * 4 → w.frozen? ⟨b, p + j, none⟩ = false)
    (hK : wpList Try.prog ops Q rest (a.put o.dst (.tuple #[])) (w.setCells b p (Builtin.zeroCells zV.toArray n).toList)) : wpList Try.prog ops Q (o :: rest) a w := by
  refine wpList_plain hg fun K' hK' => ?_
  have hrun := run_clear_vers w o.type b p n c hn hc hf
  unfold Oper.wp
  simp [execOp, hop, resolve, invoke, builtin, hm, hrun, Result.andThen]
  exact hK' _ _ hK
end
theorem OwnR.cellOk {w : World} {B : Nat} {e : TypeId} {k : Nat} {g n cap : Nat} {rows : List (List Value)} (h : OwnR w B e k (.slice (some ⟨g, 0, none⟩) n cap) rows) : n = rows.length ∧ n ≤ cap ∧ cap ≤ maxLen ∧ B ≤ g ∧ ∀ j, j < cap * k → (w.cell? ⟨g, j, none⟩).isSome = true ∧ w.frozen? ⟨g, j, none⟩ = false := by
  obtain ⟨k0, k1, k2⟩ := h
  rcases k2 with ⟨hv, h0⟩ | ⟨g', cap', cur, hv, hg, hh, hn, hm, hcs, htk⟩
  · cases hv
  · cases hv
    have hB : Blk w g e cur.toList := hh
    refine ⟨rfl, hn, hm, hg, fun j hj => ⟨?_, hB.free j⟩⟩
    rw [hB.cell, List.getElem?_eq_getElem (by simpa [hcs] using hj)]
    rfl
set_option maxRecDepth 100000 in
set_option maxHeartbeats 2000000 in
theorem u_delete (B : Nat) (rows : List (List Value)) (p : Option Addr) (n cap i j : Nat) (w : World) (hO : OwnR w B 28 4 (.slice p n cap) rows) (hn : n = rows.length) (h1 : ∀ r ∈ rows, ∀ u ∈ r, u.oneCell' = true) (hl : n ≤ 100000) (hij : i ≤ j) (hj : j ≤ n) :
    Calls Try.prog 57 #[.slice p n cap, .int .i64 (i : Int), .int .i64 (j : Int)] w fun e w' => ∃ m c', e = .returned (.slice p m c') ∧ OwnR w' B 28 4 (.slice p m c') (rows.take i ++ rows.drop j) ∧ w.grownBy w' (Value.slice p n cap).ownBlock := by
  by_cases he : i = j
  · subst he
    have hle : n ≤ cap := by
      rcases hO.nilOk with h | ⟨ad, n', c', h, h'⟩
      · cases h; exact Nat.le_refl _
      · cases h; exact h'
    obtain ⟨R0, hR0⟩ : ∃ R0, rows.take i ++ rows.drop i = R0 := ⟨_, rfl⟩
    have HO : Hid (OwnR w B 28 4 (.slice p n cap) R0) := Lib.hid (by rw [← hR0, List.take_append_drop]; exact hO)
    rw [hR0]
    clear hR0
    have deq : ((i : Int) == (i : Int)) = true := by simp
    clear hO hn h1
    cases p with
    | none =>
      go_enter Try.func57, Try.ntmps57
      go_wp2
      go_ret
      exact ⟨_, _, rfl, HO.out, ⟨rfl, rfl, rfl, Nat.le_refl _, fun _ _ _ => rfl⟩⟩
    | some ad =>
      by_cases hni : n = i
      · subst hni
        go_enter Try.func57, Try.ntmps57
        go_wp2
        go_ret
        exact ⟨_, _, rfl, HO.out, ⟨rfl, rfl, rfl, Nat.le_refl _, fun _ _ _ => rfl⟩⟩
      · go_enter Try.func57, Try.ntmps57
        go_wp2
        go_ret
        exact ⟨_, _, rfl, HO.out, ⟨rfl, rfl, rfl, Nat.le_refl _, fun _ _ _ => rfl⟩⟩
  · have hlt : i < j := by omega
    rcases hO.2.2 with ⟨hv, h0⟩ | ⟨g, cap', cur, hv, _⟩
    · omega
    · cases hv
      obtain ⟨i0, hi0, hz0, hz1, hz2⟩ := info_parts2 info_verV
      obtain ⟨_, hle, hmx, hBg, hcell⟩ := hO.cellOk
      have hmx' : cap ≤ 9223372036854775807 := hmx
      obtain ⟨N, hN⟩ : ∃ N, rows.length = N := ⟨_, rfl⟩
      obtain ⟨M, hM⟩ : ∃ M, N - j = M := ⟨_, rfl⟩
      obtain ⟨R1, hR1⟩ : ∃ R1, rows.take i ++ rows.drop j = R1 := ⟨_, rfl⟩
      have HO := Lib.hid hO
      have HR1 := Lib.hid hR1
      have HN := Lib.hid hN
      have H1 := Lib.hid h1
      have HI0 := Lib.hid hi0
      have HZ0 := Lib.hid hz0
      have HZ1 := Lib.hid hz1
      have HZ2 := Lib.hid hz2
      have HCE := Lib.hid hcell
      rw [hR1]
      rw [hN] at hl hj hle HO ⊢
      clear hO h1 hcell hi0 hz0 hz1 hz2 hN hR1 hmx hBg
      have hic : i ≤ cap := by omega
      have hjc : j ≤ cap := by omega
      have dne : ((i : Int) == (j : Int)) = false := by rw [beq_eq_false_iff_ne]; omega
      have hMn : i + M < N := by omega
      have HMX := Lib.hid hmx'
      go_enter Try.func57, Try.ntmps57
      go_wp2_with fail
      refine region_drew_tail 6 mixed (by kernel_rfl) ?_
      simp only [List.take_succ_cons, List.take_zero, List.drop_succ_cons, List.drop_zero]
      repeat (first | go_big_quiet_step (fail) | (refine wpQuiet_step (fun K' hK' => ?_); go_simp; first | (refine hK' _ ?_; clear hK' K') | (refine ⟨_, fun _ _ => rfl, hK' _ ?_⟩; clear hK' K')))
      refine wpQuiet_nil ?_
      rintro _ ⟨m1, rfl⟩
      go_simp
      have hO : OwnR (w.drewN m1) B 28 4 (.slice (some ⟨g, 0, none⟩) N cap) rows := HO.out
      have hg0 : w.grownBy (w.drewN m1) (some g) := ⟨rfl, rfl, rfl, Nat.le_refl _, fun _ _ _ => rfl⟩
      have hcell : ∀ j, j < cap * 4 → ((w.drewN m1).cell? ⟨g, j, none⟩).isSome = true ∧ (w.drewN m1).frozen? ⟨g, j, none⟩ = false := HCE.out
      generalize w.drewN m1 = W0 at *
      obtain ⟨news, hnews⟩ : ∃ news, (rows.drop j).flatten = news := ⟨_, rfl⟩
      have hlen : news.length = M * 4 := by
        rw [← hnews, flat_len (k := 4) (fun r hr => hO.1 r (List.mem_of_mem_drop hr)), List.length_drop, HN.out, hM]
      obtain ⟨A, hA, hsrc⟩ : ∃ A : Addr, (if cap = j then some (⟨g, 0, none⟩ : Addr) else some ⟨g, j * 4, none⟩) = some A ∧ ∀ t u, news[t]? = some u → W0.cell? (A.add t) = some u := by
        by_cases hc : cap = j
        · refine ⟨⟨g, 0, none⟩, by simp [hc], fun t u hu => ?_⟩
          have h0 : news.length = 0 := by rw [hlen]; omega
          rw [List.length_eq_zero_iff.1 h0] at hu
          simp at hu
        · refine ⟨⟨g, j * 4, none⟩, by simp [hc], fun t u hu => ?_⟩
          have ks : ∀ r ∈ rows.drop j, r.length = 4 := fun r hr => hO.1 r (List.mem_of_mem_drop hr)
          rw [← hnews] at hu
          obtain ⟨x, r, m, hr, hm, rfl, _⟩ := flat_from (by decide) ks hu
          obtain ⟨_, p', c', e, hc'⟩ := hO.sl
          cases e
          rw [List.getElem?_drop] at hr
          obtain ⟨a', ea, _, hat⟩ := hc' (j + x) r hr
          cases ea
          have := hat m u hm
          rw [Addr.add_mid] at this ⊢
          rw [show j * 4 + (x * 4 + m) = 0 + ((j + x) * 4 + m) by omega]
          exact this
      have hone : ∀ u ∈ news, u.oneCell' = true := fun u hu => by
        rw [← hnews] at hu
        obtain ⟨r, hr, hur⟩ := List.mem_flatten.1 hu
        exact H1.out r (List.mem_of_mem_drop hr) u hur
      have ho1 := hO.moved (i := i) (j := j) hij (by rw [HN.out]; exact hj)
      rw [hnews, HR1.out, HN.out, hM] at ho1
      have hLm : R1.length = i + M := by rw [← HR1.out, List.length_append, List.length_take, List.length_drop, HN.out]; omega
      have hcellW := ho1.cellOk.2.2.2.2
      have hg1 := hg0.trans (grown_setCells g news (0 + i * 4) W0)
      have hfin := OwnR.behinds (Builtin.zeroCells zV.toArray (N - (i + M))).toList ((i + M) * 4) _ ho1 (by rw [hLm]; exact Nat.le_refl _)
      have hgf := hg1.trans (grown_setCells g (Builtin.zeroCells zV.toArray (N - (i + M))).toList ((i + M) * 4) _)
      rw [Nat.zero_add] at hcellW hfin hgf
      have HA := Lib.hid hA
      have HLEN := Lib.hid hlen
      have HSRC := Lib.hid hsrc
      have HONE := Lib.hid hone
      have HSP : Hid (i + M ≤ cap → ∀ t, t < news.length → (W0.cell? ⟨g, 0 + i * 4 + t, none⟩).isSome = true ∧ W0.frozen? ⟨g, 0 + i * 4 + t, none⟩ = false) := Lib.hid fun _ t ht => by
        rw [hlen] at ht
        exact hcell (0 + i * 4 + t) (by omega)
      have HCL1 : Hid (∀ t, t < (N - (i + M)) * 4 → ((W0.setCells g (i * 4) news).cell? ⟨g, (i + M) * 4 + t, none⟩).isSome = true) := Lib.hid fun t ht => (hcellW _ (by omega)).1
      have HCL2 : Hid (∀ t, t < (N - (i + M)) * 4 → (W0.setCells g (i * 4) news).frozen? ⟨g, (i + M) * 4 + t, none⟩ = false) := Lib.hid fun t ht => (hcellW _ (by omega)).2
      have HOL : Hid (∀ t u, ((rows.take i).flatten)[t]? = some u → W0.cell? ⟨g, 0 + t, none⟩ = some u) := Lib.hid fun t u hu => by
        obtain ⟨x, r, m, hr, hm, rfl, _⟩ := flat_from (by decide) (fun r hr => hO.1 r (List.mem_of_mem_take hr)) hu
        obtain ⟨_, p', c', e, hc'⟩ := hO.sl
        cases e
        rw [List.getElem?_take] at hr
        split at hr
        · obtain ⟨a', ea, _, hat⟩ := hc' x r hr
          cases ea
          have := hat m u hm
          rw [Addr.add_mid] at this
          exact this
        · cases hr
      have HOLL : Hid (((rows.take i).flatten).length = i * 4) := Lib.hid (by
        rw [flat_len (k := 4) (fun r hr => hO.1 r (List.mem_of_mem_take hr)), List.length_take, HN.out, Nat.min_eq_left (by omega)])
      have HFIN := Lib.hid hfin
      have HGF := Lib.hid hgf
      have HB1 : Hid (i + M ≤ maxLen) := Lib.hid (by unfold maxLen; omega)
      have HB2 : Hid ((i + M) * 80 ≤ 140737488355328) := Lib.hid (by omega)
      have hroom : i + M ≤ cap := by omega
      clear hO hg0 hcell hnews hlen hsrc hone ho1 hLm hcellW hg1 hfin hgf hA
      go_wp2_with (first | (refine wpList_append_arg _ rfl _ _ 34 rfl 28 i0 (.agg zV.toArray) 4 80 Try.underlying34 HI0.out HZ0.out HZ1.out HZ2.out rfl (by decide) g 0 i cap ((rows.take i).flatten) rfl HOLL.out HOL.out A M (cap - j) news (by exact congrArg (fun x => Value.slice x M (cap - j)) HA.out) HLEN.out HSRC.out HONE.out HSP.out HB1.out HB2.out ?_ (fun h => absurd h (by omega)); intro _) | (refine wpList_clear_vers rfl _ rfl g ((i + M) * 4) (N - (i + M)) (cap - (i + M)) rfl (by omega) HCL1.out HCL2.out ?_))
      all_goals (go_ret; first | exact ⟨_, _, rfl, HFIN.out, HGF.out⟩ | (have hcj : cap = j := by assumption
                                                                         subst hcj
                                                                         exact ⟨_, _, rfl, HFIN.out, HGF.out⟩))
end Go.Proofs.Ytogonbgelaehhaa
namespace Go.Proofs.Ytogonbgelaehhaa
open Go.RowKit
set_option linter.unusedVariables false

set_option maxRecDepth 100000 in
theorem u_isId (IB id i : Nat) (b : Bool) (p1 p2 p3 : Option Addr) (n1 n2 n3 c1 c2 c3 : Nat) (w : World) (hB : Blk w IB 23 [.int .u32 (id : Int)]) (hb : ((i : Int) == (id : Int)) = b) :
    Calls Try.prog 63 #[.agg (cellsV i (.slice p1 n1 c1) (.slice p2 n2 c2) (.slice p3 n3 c3)).toArray, .pointer (some ⟨IB, 0, none⟩)] w fun e w' => e = .returned (.bool b) ∧ Below w.heap.size w w' := by
  obtain ⟨R, hR⟩ : ∃ R, cellsV i (.slice p1 n1 c1) (.slice p2 n2 c2) (.slice p3 n3 c3) = R := ⟨_, rfl⟩
  rw [hR]
  have k0 := Blk.new w 28 R
  have c0 := k0.cellOf (j := 0) (x := .int .u32 (i : Int)) (by rw [← hR]; rfl)
  have c1 := (hB.alloc (.cells R.toArray 28)).cellOf (j := 0) rfl
  have KB := Lib.hid ((Below.refl w.heap.size w).alloc (Nat.le_refl _) (.cells R.toArray 28))
  clear k0 hB hR
  go_enter Try.func63, Try.ntmps63
  go_wp2
  go_ret
  exact ⟨rfl, KB.out⟩
set_option maxRecDepth 100000 in
set_option maxHeartbeats 1000000 in
theorem u_index (l : List RawV) (p : Option Addr) (c id : Nat) (r : Int) (IB : Nat) (w : World) (hl : l.length ≤ 1000000) (hr : findV l id = r) (hB : Blk w IB 23 [.int .u32 (id : Int)]) (hS : VsV w (.slice p l.length c) l) :
    Calls Try.prog 62 #[.slice p l.length c, .func (.func 63) #[] #[.pointer (some ⟨IB, 0, none⟩)]] w fun e w' => e = .returned (.int .i64 r) ∧ Below w.heap.size w w' := by
  have HS := Lib.hid hS
  have HR := Lib.hid hr
  have HB := Lib.hid hB
  clear hS hr hB
  go_enter Try.func62, Try.ntmps62
  go_wp2
  go_loopw [5, 8] (fun _ i wr => ∃ j : Nat, j ≤ l.length ∧ i = .int .i64 (j : Int) ∧ Hid (∀ k, k < j → (l.getD k noV).id ≠ id) ∧ Below w.heap.size w wr) (fun _ i _ => l.length - (intOf i).toNat)
  case atStart => exact ⟨0, by omega, rfl, Lib.hid fun k hk => absurd hk (Nat.not_lt_zero k), Below.refl _ _⟩
  case round =>
    obtain ⟨j, hj, rfl, HN, gb⟩ := hrel
    have GB := Lib.hid gb
    clear gb
    by_cases hlt : j < l.length
    · obtain ⟨a, q, rfl, _, hV, hq4, hcell⟩ := (HS.out.below GB.out).at hlt
      have d1 : (j : Int) < (l.length : Int) := by omega
      obtain ⟨p1, c1, p2, c2, p3, c3, hrow⟩ := hV.row
      have HCL := Lib.hid hcell
      have HQ := Lib.hid hq4
      have hC := fun b hb => u_isId IB id (l.getD j noV).id b p1 p2 p3 (l.getD j noV).bl.length (l.getD j noV).ns.length (l.getD j noV).zs.length c1 c2 c3 wr (HB.out.below GB.out HB.out.lt) hb
      rw [← hrow] at hC
      have HC := Lib.hid hC
      clear hcell hq4 hV hrow hC
      by_cases hx : (l.getD j noV).id = id
      · have HF := Lib.hid ((findV_at hlt hx HN.out).symm.trans HR.out)
        have HC1 := Lib.hid (HC.out true (by rw [hx]; simp))
        clear hx
        go_wp2_with (refine wpList_load_addr rfl 28 _ rfl (a.add (j * 4)) rfl q HCL.out Try.underlying28 rfl (by rw [size_ver, HQ.out]) ?_)
        (with_reducible refine HC1.out.mono ?_)
        rintro e w5 ⟨rfl, b5⟩
        have B5 := Lib.hid (GB.out.trans (b5.mono GB.out.size))
        clear b5
        go_wp2
        go_ret
        exact ⟨congrArg (fun x => Ending.returned (.int .i64 x)) HF.out, B5.out⟩
      · have HN2 : Hid (∀ k, k < j + 1 → (l.getD k noV).id ≠ id) := Lib.hid fun k hk => by
          rcases Nat.lt_succ_iff_lt_or_eq.1 hk with h | rfl
          · exact HN.out k h
          · exact hx
        have HC1 := Lib.hid (HC.out false (by rw [beq_eq_false_iff_ne]; omega))
        clear hx
        go_wp2_with (refine wpList_load_addr rfl 28 _ rfl (a.add (j * 4)) rfl q HCL.out Try.underlying28 rfl (by rw [size_ver, HQ.out]) ?_)
        (with_reducible refine HC1.out.mono ?_)
        rintro e w5 ⟨rfl, b5⟩
        have B5 := Lib.hid (GB.out.trans (b5.mono GB.out.size))
        clear b5
        go_wp2
        go_roundw
        case rel => exact ⟨j + 1, by omega, by go_num, HN2, B5.out⟩
        case measure => simp [intOf]; omega
    · obtain rfl : j = l.length := by omega
      have HF := Lib.hid ((findV_none HN.out).symm.trans HR.out)
      go_wp2
      go_ret
      exact ⟨congrArg (fun x => Ending.returned (.int .i64 x)) HF.out, GB.out⟩
set_option maxRecDepth 100000 in
theorem u_find (l : List RawV) (p : Option Addr) (c id b : Nat) (r : Int) (t : Bool) (w : World) (hl : l.length ≤ 1000000) (hr : findV l id = r) (ht : decide (0 ≤ r) = t) (hc : w.cell? ⟨b, 0, none⟩ = some (.slice p l.length c)) (hS : VsV w (.slice p l.length c) l) :
    Calls Try.prog 56 #[.pointer (some ⟨b, 0, none⟩), .int .u32 (id : Int)] w fun e w' => e = .returned (.tuple #[.int .i64 r, .bool t]) ∧ Below w.heap.size w w' := by
  have kb := (Below.refl w.heap.size w).alloc (Nat.le_refl _) (.cells #[.int .u32 (id : Int)] 23)
  have k0 := Blk.new' w 23 (c := #[.int .u32 (id : Int)]) [.int .u32 (id : Int)] rfl
  have HX := Lib.hid (u_index l p c id r w.heap.size _ hl hr k0 (hS.below kb))
  have KB := Lib.hid kb
  have c1 := Lib.cell?_alloc_some (.cells #[.int .u32 (id : Int)] 23) hc
  have ht' : decide ((0 : Int) ≤ r) = t := ht
  clear kb k0 hS hr ht
  go_enter Try.func56, Try.ntmps56
  go_wp2_with fail
  (with_reducible refine HX.out.mono ?_)
  rintro e w5 ⟨rfl, b5⟩
  have B5 := Lib.hid (KB.out.trans (b5.mono KB.out.size))
  clear b5 c1 hc
  go_wp2
  go_ret2
  exact ⟨rfl, B5.out⟩
theorem make_u32K (n : Nat) (h : n ≤ 1000000) (w : World) : (Instr.makeSlice 37 (.int .i64 (n : Int)) (.int .i64 (n : Int))).run Try.prog w = .ok (.slice (some ⟨w.heap.size, 0, none⟩) n n) (w.alloc (.cells (List.replicate n (Value.int .u32 0)).toArray 23)) := by
  obtain ⟨i0, hi0, hz0, hz1, hz2⟩ := info_parts2 info_u32r
  have hr := run_make (P := Try.prog) w 37 23 i0 (.int .u32 0) Try.underlying37 hi0 hz0 .i64 .i64 n n (by omega) (Int.le_refl _) (by rw [hz2]; omega) (by omega)
  simp only [Int.toNat_natCast, hz1, Nat.mul_one] at hr
  have e : madeCells (Value.int .u32 0).cells n = (List.replicate n (Value.int .u32 0)).toArray := by
    apply Array.ext'
    rw [show (Value.int .u32 0).cells = #[.int .u32 0] from rfl, toList_madeCells_one]
  rw [hr, e]
def idC (l : List RawV) : List Value := l.map fun v => .int .u32 (v.id : Int)
theorem idC_at {l : List RawV} {j : Nat} (h : j < l.length) : (idC l)[j]? = some (.int .u32 ((l.getD j noV).id : Int)) := by simp [idC, h]
theorem idC_len (l : List RawV) : (idC l).length = l.length := by simp [idC]
theorem idC_flat (l : List RawV) : idC l = (rowsU .u32 (l.map (·.id))).flatten := by
  induction l with
  | nil => rfl
  | cons f l ih => unfold idC rowsU at ih ⊢; simp [ih]
/-- a whole block of one's own, as an own slice of rows of one cell -/
theorem own_blk1 {w : World} {B g : Nat} {t : TypeId} {rows : List (List Value)} (hk : ∀ r ∈ rows, r.length = 1) (h : Blk w g t rows.flatten) (hB : B ≤ g) (hm : rows.length ≤ maxLen) : OwnR w B t 1 (.slice (some ⟨g, 0, none⟩) rows.length rows.length) rows := by
  have hl := flat_len hk
  refine ⟨hk, hl, .inr ⟨g, rows.length, rows.flatten.toArray, rfl, hB, h, Nat.le_refl _, hm, by simp [hl], ?_⟩⟩
  rw [List.toList_toArray, ← hl, List.take_length]
set_option maxRecDepth 100000 in
set_option maxHeartbeats 1000000 in
theorem u_ids (l : List RawV) (p : Option Addr) (c : Nat) (w : World) (hl : l.length ≤ 1000000) (hS : VsV w (.slice p l.length c) l) :
    Calls Try.prog 58 #[.slice p l.length c] w fun e w' => ∃ v, e = .returned v ∧ OwnR w' w.heap.size 23 1 v (rowsU .u32 (l.map (·.id))) ∧ Below w.heap.size w w' := by
  have hm1 := fun w => make_u32K l.length hl w
  have HS := Lib.hid hS
  obtain ⟨G, hG⟩ : ∃ G, w.heap.size = G := ⟨_, rfl⟩
  have k1 := Blk.newAt w G hG 23 (c := (List.replicate l.length (Value.int .u32 0)).toArray) _ rfl
  have kb := (Below.refl w.heap.size w).alloc (Nat.le_refl _) (.cells (List.replicate l.length (Value.int .u32 0)).toArray 23)
  have kz : (w.alloc (.cells (List.replicate l.length (Value.int .u32 0)).toArray 23)).heap.size = G + 1 := by simp [hG]
  have e1 := doneC_none (.int .u32 0) (idC l)
  rw [idC_len] at e1
  rw [← e1] at k1
  simp only [← e1] at hm1 k1 kb kz
  have K1 := Lib.hid k1
  have KB := Lib.hid kb
  have KZ := Lib.hid kz
  have HG := Lib.hid hG
  have HL := Lib.hid hl
  clear hS k1 kb kz e1
  go_enter Try.func58, Try.ntmps58
  go_wp2
  go_loopw [4, 5, 11] (fun _ _ i wr => ∃ j : Nat, j ≤ l.length ∧ i = .int .i64 (j : Int) ∧ Blk wr G 23 (doneC (.int .u32 0) (idC l) j) ∧ Below w.heap.size w wr) (fun _ _ i _ => l.length - (intOf i).toNat)
  case atStart => exact ⟨0, by omega, rfl, K1.out, KB.out⟩
  case round =>
    obtain ⟨j, hj, rfl, b1, gb⟩ := hrel
    clear K1 KB KZ hm1
    have B1 := Lib.hid b1
    have GB := Lib.hid gb
    clear b1 gb
    by_cases hlt : j < l.length
    · obtain ⟨a, q, rfl, _, hV, hq4, hcell⟩ := (HS.out.below GB.out).at hlt
      have d1 : (j : Int) < (l.length : Int) := by omega
      obtain ⟨pb, cb, pn, cn, pz, cz, hrow⟩ := hV.row
      have HCL := Lib.hid hcell
      have HQ := Lib.hid hq4
      obtain ⟨Y, hY⟩ : ∃ Y, wr.heap.size = Y := ⟨_, rfl⟩
      have y0 := Blk.newAt wr Y hY 28 (c := zV.toArray) zV rfl
      have y1 := y0.row q (by rw [hq4]; rfl)
      have cid := y1.cellOf (j := 0) (x := .int .u32 ((l.getD j noV).id : Int)) (by rw [hrow]; rfl)
      have hGY : G ≠ Y := fun e => by have := B1.out.lt; omega
      have g1 := (B1.out.alloc (.cells zV.toArray 28)).rowOther (g := Y) hGY q.toArray
      have cg := g1.cellOf (j := j) (doneC_at (.int .u32 0) (idC l) (by rw [idC_len]; exact hlt))
      have fg := g1.free j
      have g2 := g1.set j (.int .u32 ((l.getD j noV).id : Int))
      rw [doneC_set (.int .u32 0) (idC l) (idC_at hlt)] at g2
      have hone : q.toArray.all (·.oneCell') = true := by rw [hrow]; exact cellsV_one _ _ _ _ _ _ _ _ _ _
      have b2 := (below_setRow (GB.out.alloc GB.out.size (.cells zV.toArray 28)) (show w.heap.size ≤ Y by rw [← hY]; exact GB.out.size) q.toArray).setCell (p := ⟨G, j, none⟩) (show w.heap.size ≤ G by rw [HG.out]; exact Nat.le_refl _) (.int .u32 ((l.getD j noV).id : Int))
      have Y0 := Lib.hid y0
      have HY := Lib.hid hY
      have G2 := Lib.hid g2
      have HO := Lib.hid hone
      have B2 := Lib.hid b2
      generalize (l.getD j noV).id = X at *
      clear y0 hcell hq4 hV hrow hY y1 g1 g2 hone b2
      go_wp2_with (first | (refine wpList_load_addr rfl 28 _ rfl (a.add (j * 4)) rfl q HCL.out Try.underlying28 rfl (by rw [size_ver, HQ.out]) ?_) | (refine wpList_alloc_n rfl 28 rfl Y HY.out _ (alloc_ver _) ?_) | (refine wpList_store_blk rfl 28 _ _ rfl Y q rfl rfl Y0.out (by rw [size_ver, HQ.out]) (by rw [HQ.out]; rfl) HO.out ?_))
      go_roundw
      case rel => exact ⟨j + 1, by omega, by go_num, G2.out, B2.out⟩
      case measure => simp [intOf]; omega
    · obtain rfl : j = l.length := by omega
      have hO : OwnR wr w.heap.size 23 1 (.slice (some ⟨G, 0, none⟩) l.length l.length) (rowsU .u32 (l.map (·.id))) := by
        have hd : doneC (.int .u32 0) (idC l) l.length = idC l := by rw [← idC_len l, doneC_all]
        have hb := B1.out
        rw [hd, idC_flat] at hb
        have hll : (rowsU .u32 (l.map (·.id))).length = l.length := by rw [rowsU_len, List.length_map]
        have := own_blk1 (B := w.heap.size) (fun r hr => by obtain ⟨x, _, rfl⟩ := List.mem_map.1 hr; rfl) hb (by rw [HG.out]; exact Nat.le_refl _) (by rw [hll]; unfold maxLen; have := HL.out; omega)
        rw [hll] at this
        exact this
      have HO := Lib.hid hO
      clear hO
      go_wp2
      go_ret
      exact ⟨_, rfl, HO.out, GB.out⟩
end Go.Proofs.Ytogonbgelaehhaa
