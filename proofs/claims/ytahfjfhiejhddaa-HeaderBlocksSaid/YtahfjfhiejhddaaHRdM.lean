/- A version that a call fills: its cells in a block of its own, its slices the call's own; a block for the result. -/
import Derived.Test.YtahfjfhiejhddaaHRdN
import Derived.Great.BuildSlice
namespace Go.Proofs.Ytahfjfhiejhddaa
open Go.RowKit
set_option linter.unusedVariables false

theorem OwnR.rowApart {w : World} {base : Nat} {e : TypeId} {k : Nat} {v : Value} {rows : List (List Value)} (h : OwnR w base e k v rows) (r : Nat) (row : Array Value) (hne : ∀ b, v.ownBlock = some b → b ≠ r) : OwnR (w.setRow r row) base e k v rows := by
  obtain ⟨k0, k1, k2⟩ := h
  refine ⟨k0, k1, ?_⟩
  rcases k2 with h | ⟨g, cap, cur, hv, hg, hh, rest⟩
  · exact .inl h
  · refine .inr ⟨g, cap, cur, hv, hg, ?_, rest⟩
    have hB : Blk w g e cur.toList := by unfold Blk; exact hh
    have hB' := hB.rowOther (g := r) (hne g (by rw [hv]; rfl)) row
    unfold Blk at hB'
    exact hB'
/-! ### a slice literal of one row -/
theorem fold_row : ∀ (xs pre ys : List Value), ys.length = xs.length → (xs.zipIdx pre.length).foldl (fun (cs : Array Value) x => cs.setIfInBounds (0 + x.2) x.1) (pre ++ ys).toArray = (pre ++ xs).toArray
  | [], pre, ys, h => by
    obtain rfl := List.eq_nil_of_length_eq_zero h
    rfl
  | x :: xs, pre, [], h => by simp at h
  | x :: xs, pre, y :: ys, h => by
    have ih := fold_row xs (pre ++ [x]) ys (by simpa using h)
    rw [List.length_append, List.length_singleton] at ih
    rw [List.zipIdx_cons, List.foldl_cons]
    have e : ((pre ++ y :: ys).toArray.setIfInBounds (0 + pre.length) x) = ((pre ++ [x]) ++ ys).toArray := by
      rw [List.setIfInBounds_toArray, Nat.zero_add, List.set_append_right _ _ (Nat.le_refl _), Nat.sub_self]
      simp
    simp only [e]
    rw [ih]
    simp
theorem fill_row (k : Nat) (cells : Array Value) (r : List Value) (hr : r.length = k) (hc : cells.size = k) : Instr.fill (fun i => some (i * k, k)) cells [(0, .agg r.toArray)] = some r.toArray := by
  have hf := fold_row r [] cells.toList (by simp [hr, hc])
  have hv : (Value.agg r.toArray).cells = r.toArray := rfl
  simp only [Instr.fill, hv, List.size_toArray, hr, hc, Nat.zero_mul, Nat.zero_add]
  simp only [List.nil_append, List.length_nil, Nat.zero_add, Array.toArray_toList] at hf
  rw [← Array.foldl_toList, Array.toList_zipIdx, hf]
  simp
section
variable {P : Program} {ops : Array Oper} {rest : List Oper} {o : Oper} {a : Act} {w : World} {Q : Exit → Act → World → Prop}
/-- a slice literal of one row of k cells -/
theorem wpList_buildRow (hg : o.guard = none) (t e : TypeId) (parts : Array (Nat × Operand)) (ho : o.op = .buildSlice t 1 parts) (r : List Value) (ie : TypeInfo) (z : Value) (N : Nat) (hN : w.heap.size = N)
    (hu : P.underlying t = some (.slice e)) (hie : P.info? e = some ie) (hz : ie.zero = some z) (hk : ie.size = r.length) (h0 : 0 < r.length) (h1 : r.length ≤ 1000) (hp : (parts.map fun (i, x) => (i, a.eval x)).toList = [(0, .agg r.toArray)])
    (h : wpList P ops Q rest (a.put o.dst (.slice (some ⟨N, 0, none⟩) 1 1)) (w.alloc (.cells r.toArray e))) : wpList P ops Q (o :: rest) a w := by
  subst hN
  exact wpList_buildSlice hg t e 1 parts ho r.toArray ie z hu hie hz (by rw [hk]; omega) (by rw [hk]; omega) (by rw [hp]; exact fill_row _ _ r hk.symm (by rw [hk]; simp)) h
end
/-- the cells of no version -/
def zV : List Value := cellsV 0 (.slice none 0 0) (.slice none 0 0) (.slice none 0 0)
theorem zV_one : zV.toArray.all (·.oneCell') = true := cellsV_one 0 none none none 0 0 0 0 0 0
theorem alloc_ver (w : World) : (Instr.alloc 27 true (.tuple #[])).run Try.prog w = .ok (.pointer (some ⟨w.heap.size, 0, none⟩)) (w.alloc (.cells zV.toArray 27)) := by kernel_rfl
theorem build_ver (w : World) : (Instr.build 27 #[]).run Try.prog w = .ok (.agg zV.toArray) w := by kernel_rfl
/-- R: the result's block; V: the version's -/
structure RdM (w : World) (R V : Nat) (wx : World) (i : Nat) (vb vn vz : Value) (bl ns : List (List Nat)) (zs : List Int) : Prop where
  low : w.heap.size ≤ R ∧ w.heap.size ≤ V ∧ R ≠ V
  res : Blk wx R 27 zV
  ver : Blk wx V 27 (cellsV i vb vn vz)
  ob : OwnR wx w.heap.size 44 32 vb (rowsH bl)
  on : OwnR wx w.heap.size 9 1 vn (rowsS ns)
  oz : OwnR wx w.heap.size 3 1 vz (rowsZ zs)
  bel : Below w.heap.size w wx
section
variable {w wx wy : World} {R V i : Nat} {vb vn vz : Value} {bl ns : List (List Nat)} {zs : List Int}
theorem RdM.keep (h : RdM w R V wx i vb vn vz bl ns zs) (hb : Below wx.heap.size wx wy) : RdM w R V wy i vb vn vz bl ns zs :=
  ⟨h.low, h.res.below hb h.res.lt, h.ver.below hb h.ver.lt, h.ob.keep hb, h.on.keep hb, h.oz.keep hb, h.bel.trans (hb.mono h.bel.size)⟩
theorem RdM.alloc (h : RdM w R V wx i vb vn vz bl ns zs) (o : Obj) : RdM w R V (wx.alloc o) i vb vn vz bl ns zs := h.keep ((Below.refl _ _).alloc (Nat.le_refl _) o)
theorem RdM.shapes (h : RdM w R V wx i vb vn vz bl ns zs) : (∃ p c, vb = .slice p bl.length c) ∧ (∃ p c, vn = .slice p ns.length c) ∧ (∃ p c, vz = .slice p zs.length c) := by
  have q1 := h.ob.isSlice
  have q2 := h.on.isSlice
  have q3 := h.oz.isSlice
  rw [rowsH_len] at q1
  rw [rowsS_len] at q2
  rw [rowsZ_len] at q3
  exact ⟨q1, q2, q3⟩
theorem RdM.vv (h : RdM w R V wx i vb vn vz bl ns zs) : VV wx (.agg (cellsV i vb vn vz).toArray) ⟨i, bl, ns, zs⟩ :=
  ⟨vb, vn, vz, rfl, h.shapes.1, h.shapes.2.1, h.shapes.2.2, h.ob.sl, h.on.sl, h.oz.sl⟩
/-- memory was made, and written to -/
theorem RdM.fresh (h : RdM w R V wx i vb vn vz bl ns zs) {c : Array Value} {t : TypeId} (cs : Array Value) : RdM w R V ((wx.alloc (.cells c t)).setRow wx.heap.size cs) i vb vn vz bl ns zs :=
  h.keep (below_setRow ((Below.refl _ _).alloc (Nat.le_refl _) _) (Nat.le_refl _) _)
theorem RdM.cellB (h : RdM w R V wx i vb vn vz bl ns zs) : wx.cell? ⟨V, 1, none⟩ = some vb := by rw [h.ver.cell]; rfl
theorem RdM.cellN (h : RdM w R V wx i vb vn vz bl ns zs) : wx.cell? ⟨V, 2, none⟩ = some vn := by rw [h.ver.cell]; rfl
theorem RdM.cellZ (h : RdM w R V wx i vb vn vz bl ns zs) : wx.cell? ⟨V, 3, none⟩ = some vz := by rw [h.ver.cell]; rfl
theorem RdM.free (h : RdM w R V wx i vb vn vz bl ns zs) (j : Nat) : wx.frozen? ⟨V, j, none⟩ = false := h.ver.free j
/-- the number is written -/
theorem RdM.setI (h : RdM w R V wx i vb vn vz bl ns zs) (k : Nat) : RdM w R V (wx.setCell ⟨V, 0, none⟩ (.int .u32 (k : Int))) k vb vn vz bl ns zs :=
  ⟨h.low, h.res.other (a := ⟨V, 0, none⟩) (fun e => h.low.2.2 e.symm) _, h.ver.set 0 _, h.ob.cellOther h.ver (by decide) 0 _, h.on.cellOther h.ver (by decide) 0 _, h.oz.cellOther h.ver (by decide) 0 _, h.bel.setCell (p := ⟨V, 0, none⟩) h.low.2.1 _⟩
/-- one more block's name, and where they lie -/
theorem RdM.addB (h : RdM w R V wx i vb vn vz bl ns zs) {v' : Value} {bl' : List (List Nat)} (ho : OwnR wy w.heap.size 44 32 v' (rowsH bl')) (hg : wx.grownBy wy vb.ownBlock) : RdM w R V (wy.setCell ⟨V, 1, none⟩ v') i v' vn vz bl' ns zs := by
  have r1 := h.res.grownO hg (h.ob.ne h.res (by decide))
  have v1 := h.ver.grownO hg (h.ob.ne h.ver (by decide))
  have n1 := h.on.grownO hg (h.on.apart h.ob (by decide))
  have z1 := h.oz.grownO hg (h.oz.apart h.ob (by decide))
  have b1 := h.bel.grown hg h.bel.size (fun k e => (h.ob.lt k e).1)
  exact ⟨h.low, r1.other (a := ⟨V, 1, none⟩) (fun e => h.low.2.2 e.symm) _, v1.set 1 _, ho.cellOther v1 (by decide) 1 _, n1.cellOther v1 (by decide) 1 _, z1.cellOther v1 (by decide) 1 _, b1.setCell (p := ⟨V, 1, none⟩) h.low.2.1 _⟩
theorem RdM.addN (h : RdM w R V wx i vb vn vz bl ns zs) {v' : Value} {ns' : List (List Nat)} (ho : OwnR wy w.heap.size 9 1 v' (rowsS ns')) (hg : wx.grownBy wy vn.ownBlock) : RdM w R V (wy.setCell ⟨V, 2, none⟩ v') i vb v' vz bl ns' zs := by
  have r1 := h.res.grownO hg (h.on.ne h.res (by decide))
  have v1 := h.ver.grownO hg (h.on.ne h.ver (by decide))
  have n1 := h.ob.grownO hg (h.ob.apart h.on (by decide))
  have z1 := h.oz.grownO hg (h.oz.apart h.on (by decide))
  have b1 := h.bel.grown hg h.bel.size (fun k e => (h.on.lt k e).1)
  exact ⟨h.low, r1.other (a := ⟨V, 2, none⟩) (fun e => h.low.2.2 e.symm) _, v1.set 2 _, n1.cellOther v1 (by decide) 2 _, ho.cellOther v1 (by decide) 2 _, z1.cellOther v1 (by decide) 2 _, b1.setCell (p := ⟨V, 2, none⟩) h.low.2.1 _⟩
theorem RdM.addZ (h : RdM w R V wx i vb vn vz bl ns zs) {v' : Value} {zs' : List Int} (ho : OwnR wy w.heap.size 3 1 v' (rowsZ zs')) (hg : wx.grownBy wy vz.ownBlock) : RdM w R V (wy.setCell ⟨V, 3, none⟩ v') i vb vn v' bl ns zs' := by
  have r1 := h.res.grownO hg (h.oz.ne h.res (by decide))
  have v1 := h.ver.grownO hg (h.oz.ne h.ver (by decide))
  have n1 := h.ob.grownO hg (h.ob.apart h.oz (by decide))
  have z1 := h.on.grownO hg (h.on.apart h.oz (by decide))
  have b1 := h.bel.grown hg h.bel.size (fun k e => (h.oz.lt k e).1)
  exact ⟨h.low, r1.other (a := ⟨V, 3, none⟩) (fun e => h.low.2.2 e.symm) _, v1.set 3 _, n1.cellOther v1 (by decide) 3 _, z1.cellOther v1 (by decide) 3 _, ho.cellOther v1 (by decide) 3 _, b1.setCell (p := ⟨V, 3, none⟩) h.low.2.1 _⟩
/-- before the cell is written, once more has been appended -/
theorem RdM.grownVB (h : RdM w R V wx i vb vn vz bl ns zs) (hg : wx.grownBy wy vb.ownBlock) : Blk wy V 27 (cellsV i vb vn vz) := h.ver.grownO hg (h.ob.ne h.ver (by decide))
theorem RdM.grownVN (h : RdM w R V wx i vb vn vz bl ns zs) (hg : wx.grownBy wy vn.ownBlock) : Blk wy V 27 (cellsV i vb vn vz) := h.ver.grownO hg (h.on.ne h.ver (by decide))
theorem RdM.grownVZ (h : RdM w R V wx i vb vn vz bl ns zs) (hg : wx.grownBy wy vz.ownBlock) : Blk wy V 27 (cellsV i vb vn vz) := h.ver.grownO hg (h.oz.ne h.ver (by decide))
/-- as it begins -/
theorem RdM.start (w : World) : RdM w w.heap.size (w.heap.size + 1) (((w.alloc (.cells zV.toArray 27)).alloc (.cells zV.toArray 27)).setRow (w.heap.size + 1) zV.toArray) 0 (.slice none 0 0) (.slice none 0 0) (.slice none 0 0) [] [] [] := by
  have k0 := (Blk.new' w 27 (c := zV.toArray) _ rfl).alloc (.cells zV.toArray 27)
  have k1 := Blk.newAt (w.alloc (.cells zV.toArray 27)) (w.heap.size + 1) (by simp) 27 (c := zV.toArray) _ rfl
  have kb := ((Below.refl w.heap.size w).alloc (Nat.le_refl _) (.cells zV.toArray 27)).alloc (by simp) (.cells zV.toArray 27)
  exact ⟨⟨Nat.le_refl _, by omega, by omega⟩, k0.rowOther (by omega) _, k1.row zV rfl, OwnR.nil _ _ _ _, OwnR.nil _ _ _ _, OwnR.nil _ _ _ _, below_setRow kb (by omega) _⟩
end
/-- the value v is this version, its slices the call's own -/
def VO (w : World) (base : Nat) (v : Value) (a : RawV) : Prop :=
  ∃ vb vn vz, v = .agg (cellsV a.id vb vn vz).toArray ∧ OwnR w base 44 32 vb (rowsH a.bl) ∧ OwnR w base 9 1 vn (rowsS a.ns) ∧ OwnR w base 3 1 vz (rowsZ a.zs)
section
variable {w w' : World} {base : Nat} {v : Value} {a : RawV}
theorem VO.vv (h : VO w base v a) : VV w v a := by
  obtain ⟨vb, vn, vz, e, h1, h2, h3⟩ := h
  have q1 := h1.isSlice
  have q2 := h2.isSlice
  have q3 := h3.isSlice
  rw [rowsH_len] at q1
  rw [rowsS_len] at q2
  rw [rowsZ_len] at q3
  exact ⟨vb, vn, vz, e, q1, q2, q3, h1.sl, h2.sl, h3.sl⟩
theorem VO.keep (h : VO w base v a) (hb : Below w.heap.size w w') : VO w' base v a := by
  obtain ⟨vb, vn, vz, e, h1, h2, h3⟩ := h
  exact ⟨vb, vn, vz, e, h1.keep hb, h2.keep hb, h3.keep hb⟩
theorem VO.row (h : VO w base v a) {r : Nat} (hr : r < base) (cs : Array Value) : VO (w.setRow r cs) base v a := by
  obtain ⟨vb, vn, vz, e, h1, h2, h3⟩ := h
  exact ⟨vb, vn, vz, e, h1.rowApart r cs (fun b hb => by have := (h1.lt b hb).1; omega), h2.rowApart r cs (fun b hb => by have := (h2.lt b hb).1; omega), h3.rowApart r cs (fun b hb => by have := (h3.lt b hb).1; omega)⟩
theorem VO.lower (h : VO w base v a) {base' : Nat} (hb : base' ≤ base) : VO w base' v a := by
  obtain ⟨vb, vn, vz, e, h1, h2, h3⟩ := h
  exact ⟨vb, vn, vz, e, h1.lower hb, h2.lower hb, h3.lower hb⟩
theorem VO.none (w : World) (base : Nat) : VO w base (.agg zV.toArray) noV := ⟨_, _, _, rfl, OwnR.nil _ _ _ _, OwnR.nil _ _ _ _, OwnR.nil _ _ _ _⟩
end
/-- what a reading gives back -/
def RdRet (T : TellV) (w : World) (e : Ending) (w' : World) : Prop :=
  ∃ v, e = .returned (.tuple #[v, .string (tx T.2.1), .int .i64 ((T.2.2 : Nat) : Int)]) ∧ VO w' w.heap.size v T.1 ∧ Below w.heap.size w w'
theorem rd_err (w w' : World) (er : Nat) (hb : Below w.heap.size w w') : RdRet (errV er) w (.returned (.tuple #[.agg zV.toArray, .string ⟨#[]⟩, .int .i64 (er : Int)])) w' :=
  ⟨_, by unfold errV; rw [tx_nil], VO.none w' _, hb⟩
theorem rd_ok {w wx : World} {R V i : Nat} {vb vn vz : Value} {bl ns : List (List Nat)} {zs : List Int} (h : RdM w R V wx i vb vn vz bl ns zs) (rs : List Nat) :
    RdRet (⟨i, bl, ns, zs⟩, rs, 0) w (.returned (.tuple #[.agg (cellsV i vb vn vz).toArray, .string (tx rs), .int .i64 0])) (wx.setRow R (cellsV i vb vn vz).toArray) :=
  ⟨_, rfl, ⟨vb, vn, vz, rfl, h.ob.rowApart R _ (h.ob.ne h.res (by decide)), h.on.rowApart R _ (h.on.ne h.res (by decide)), h.oz.rowApart R _ (h.oz.ne h.res (by decide))⟩, below_setRow h.bel h.low.1 _⟩
/-- what a decoding tells, and gives back -/
def decT (T : TellV) : RawV × Nat := if T.2.2 ≠ 0 then (noV, T.2.2) else if T.2.1.length ≠ 0 then (noV, 42) else (T.1, 0)
def DeRet (D : RawV × Nat) (w : World) (e : Ending) (w' : World) : Prop :=
  ∃ v, e = .returned (.tuple #[v, .int .i64 ((D.2 : Nat) : Int)]) ∧ VO w' w.heap.size v D.1 ∧ Below w.heap.size w w'
end Go.Proofs.Ytahfjfhiejhddaa
