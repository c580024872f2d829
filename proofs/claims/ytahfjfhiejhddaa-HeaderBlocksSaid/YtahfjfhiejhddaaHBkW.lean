/- A version that a law makes: its cells in a block, its slices the law's own; and what is appended to an empty slice. -/
import Derived.Test.YtahfjfhiejhddaaHShw
import Derived.Test.YtahfjfhiejhddaaHBkN
import Derived.Test.YtahfjfhiejhddaaFD
import Derived.Test.YtahfjfhiejhddaaMxt
import Derived.Laws.AppendOwnNone
namespace Go.Proofs.Ytahfjfhiejhddaa
open Go.RowKit
set_option linter.unusedVariables false

structure VrQ (w : World) (V : Nat) (wx : World) (i : Nat) (vb vn vz : Value) (bl ns : List (List Nat)) (zs : List Int) : Prop where
  low : w.heap.size ≤ V
  ver : Blk wx V 27 (cellsV i vb vn vz)
  ob : OwnR wx w.heap.size 44 32 vb (rowsH bl)
  on : OwnR wx w.heap.size 9 1 vn (rowsS ns)
  oz : OwnR wx w.heap.size 3 1 vz (rowsZ zs)
  bel : Below w.heap.size w wx
section
variable {w wx wy : World} {V i : Nat} {vb vn vz : Value} {bl ns : List (List Nat)} {zs : List Int}
theorem VrQ.keep (h : VrQ w V wx i vb vn vz bl ns zs) (hb : Below wx.heap.size wx wy) : VrQ w V wy i vb vn vz bl ns zs :=
  ⟨h.low, h.ver.below hb h.ver.lt, h.ob.keep hb, h.on.keep hb, h.oz.keep hb, h.bel.trans (hb.mono h.bel.size)⟩
theorem VrQ.alloc (h : VrQ w V wx i vb vn vz bl ns zs) (o : Obj) : VrQ w V (wx.alloc o) i vb vn vz bl ns zs := h.keep ((Below.refl _ _).alloc (Nat.le_refl _) o)
theorem VrQ.shapes (h : VrQ w V wx i vb vn vz bl ns zs) : (∃ p c, vb = .slice p bl.length c) ∧ (∃ p c, vn = .slice p ns.length c) ∧ (∃ p c, vz = .slice p zs.length c) := by
  have q1 := h.ob.isSlice
  have q2 := h.on.isSlice
  have q3 := h.oz.isSlice
  rw [rowsH_len] at q1
  rw [rowsS_len] at q2
  rw [rowsZ_len] at q3
  exact ⟨q1, q2, q3⟩
theorem VrQ.vv (h : VrQ w V wx i vb vn vz bl ns zs) : VV wx (.agg (cellsV i vb vn vz).toArray) ⟨i, bl, ns, zs⟩ :=
  ⟨vb, vn, vz, rfl, h.shapes.1, h.shapes.2.1, h.shapes.2.2, h.ob.sl, h.on.sl, h.oz.sl⟩
theorem VrQ.cellB (h : VrQ w V wx i vb vn vz bl ns zs) : wx.cell? ⟨V, 1, none⟩ = some vb := by rw [h.ver.cell]; rfl
theorem VrQ.cellN (h : VrQ w V wx i vb vn vz bl ns zs) : wx.cell? ⟨V, 2, none⟩ = some vn := by rw [h.ver.cell]; rfl
theorem VrQ.cellZ (h : VrQ w V wx i vb vn vz bl ns zs) : wx.cell? ⟨V, 3, none⟩ = some vz := by rw [h.ver.cell]; rfl
theorem VrQ.addB (h : VrQ w V wx i vb vn vz bl ns zs) {v' : Value} {bl' : List (List Nat)} (ho : OwnR wy w.heap.size 44 32 v' (rowsH bl')) (hg : wx.grownBy wy vb.ownBlock) : VrQ w V (wy.setCell ⟨V, 1, none⟩ v') i v' vn vz bl' ns zs := by
  have v1 := h.ver.grownO hg (h.ob.ne h.ver (by decide))
  have n1 := h.on.grownO hg (h.on.apart h.ob (by decide))
  have z1 := h.oz.grownO hg (h.oz.apart h.ob (by decide))
  have b1 := h.bel.grown hg h.bel.size (fun k e => (h.ob.lt k e).1)
  exact ⟨h.low, v1.set 1 _, ho.cellOther v1 (by decide) 1 _, n1.cellOther v1 (by decide) 1 _, z1.cellOther v1 (by decide) 1 _, b1.setCell (p := ⟨V, 1, none⟩) h.low _⟩
theorem VrQ.addN (h : VrQ w V wx i vb vn vz bl ns zs) {v' : Value} {ns' : List (List Nat)} (ho : OwnR wy w.heap.size 9 1 v' (rowsS ns')) (hg : wx.grownBy wy vn.ownBlock) : VrQ w V (wy.setCell ⟨V, 2, none⟩ v') i vb v' vz bl ns' zs := by
  have v1 := h.ver.grownO hg (h.on.ne h.ver (by decide))
  have n1 := h.ob.grownO hg (h.ob.apart h.on (by decide))
  have z1 := h.oz.grownO hg (h.oz.apart h.on (by decide))
  have b1 := h.bel.grown hg h.bel.size (fun k e => (h.on.lt k e).1)
  exact ⟨h.low, v1.set 2 _, n1.cellOther v1 (by decide) 2 _, ho.cellOther v1 (by decide) 2 _, z1.cellOther v1 (by decide) 2 _, b1.setCell (p := ⟨V, 2, none⟩) h.low _⟩
theorem VrQ.addZ (h : VrQ w V wx i vb vn vz bl ns zs) {v' : Value} {zs' : List Int} (ho : OwnR wy w.heap.size 3 1 v' (rowsZ zs')) (hg : wx.grownBy wy vz.ownBlock) : VrQ w V (wy.setCell ⟨V, 3, none⟩ v') i vb vn v' bl ns zs' := by
  have v1 := h.ver.grownO hg (h.oz.ne h.ver (by decide))
  have n1 := h.ob.grownO hg (h.ob.apart h.oz (by decide))
  have z1 := h.on.grownO hg (h.on.apart h.oz (by decide))
  have b1 := h.bel.grown hg h.bel.size (fun k e => (h.oz.lt k e).1)
  exact ⟨h.low, v1.set 3 _, n1.cellOther v1 (by decide) 3 _, z1.cellOther v1 (by decide) 3 _, ho.cellOther v1 (by decide) 3 _, b1.setCell (p := ⟨V, 3, none⟩) h.low _⟩
theorem VrQ.grownVB (h : VrQ w V wx i vb vn vz bl ns zs) (hg : wx.grownBy wy vb.ownBlock) : Blk wy V 27 (cellsV i vb vn vz) := h.ver.grownO hg (h.ob.ne h.ver (by decide))
theorem VrQ.grownVN (h : VrQ w V wx i vb vn vz bl ns zs) (hg : wx.grownBy wy vn.ownBlock) : Blk wy V 27 (cellsV i vb vn vz) := h.ver.grownO hg (h.on.ne h.ver (by decide))
theorem VrQ.grownVZ (h : VrQ w V wx i vb vn vz bl ns zs) (hg : wx.grownBy wy vz.ownBlock) : Blk wy V 27 (cellsV i vb vn vz) := h.ver.grownO hg (h.oz.ne h.ver (by decide))
/-- a cell of another version is written -/
theorem VrQ.other (h : VrQ w V wx i vb vn vz bl ns zs) {X : Nat} {vs : List Value} (hX : Blk wx X 27 vs) (hne : X ≠ V) (hlo : w.heap.size ≤ X) (j : Nat) (u : Value) : VrQ w V (wx.setCell ⟨X, j, none⟩ u) i vb vn vz bl ns zs :=
  ⟨h.low, h.ver.other (a := ⟨X, j, none⟩) hne u, h.ob.cellOther hX (by decide) j u, h.on.cellOther hX (by decide) j u, h.oz.cellOther hX (by decide) j u, h.bel.setCell (p := ⟨X, j, none⟩) hlo u⟩
end
section
variable {P : Program} {ops : Array Oper} {rest : List Oper} {o : Oper} {a : Act} {w : World} {Q : Exit → Act → World → Prop}
/-- rows, or none, are appended to an empty slice of the call's own that has no room: no more than new memory -/
theorem wpList_append_emptyN (hgd : o.guard = none) (s x : Operand) (t : TypeId) (ho : o.op = .call { callee := .builtin .append, args := #[s, x], argTypes := #[t, t] })
    (base : Nat) (e : TypeId) (i : TypeInfo) (z : Value) (k bytes : Nat) (ht : P.underlying t = some (.slice e)) (hi : P.info? e = some i) (hz : i.zero = some z) (hsize : i.size = k) (hby : i.bytes = bytes) (hzs : z.cells.size = k) (hk : 0 < k)
    (B : Nat) (hs : a.eval s = .slice (some ⟨B, 0, none⟩) 0 0) (hown : OwnR w base e k (.slice (some ⟨B, 0, none⟩) 0 0) []) (hbase : base ≤ w.heap.size) (vx : Value) (news : List (List Value)) (hx : a.eval x = vx) (hnew : Sl w k vx news) (h1 : ∀ r ∈ news, ∀ u ∈ r, u.oneCell' = true)
    (hnil : news = [] → vx = .slice none 0 0) (h63 : news.length ≤ maxLen) (hbytes : news.length * bytes ≤ 140737488355328)
    (h : ∀ v' w', OwnR w' base e k v' news → Below w.heap.size w w' → wpList P ops Q rest (a.put o.dst v') w') : wpList P ops Q (o :: rest) a w := by
  by_cases h0 : news = []
  · have e0 := hnil h0
    subst h0
    rw [e0] at hx
    exact wpList_append_own_none hgd s x t ho base e i k ht hi _ 0 [] hs hown.2 hx (h _ _ hown (Below.refl _ _))
  · refine wpList_append_empty hgd s x t ho e i z k bytes ht hi hz hsize hby hzs hk B hs vx news hx hnew h1 (List.length_pos_iff.2 h0) h63 hbytes fun v' w' q1 q2 => h v' w' (q1.lower hbase) q2
end
theorem rowsH_rep (h : List Nat) : ∀ M, rowsH (List.replicate (M + 1) h) = rowsH (List.replicate M h) ++ [rowH h] := fun M => by
  rw [← rowsH_snoc, ← List.replicate_succ']
theorem rowsH_one {l : List (List Nat)} : ∀ r ∈ rowsH l, ∀ u ∈ r, u.oneCell' = true := fun r hr u hu => by
  obtain ⟨x, _, rfl⟩ := List.mem_map.1 hr
  simp only [rowH, ints, List.mem_map] at hu
  obtain ⟨n, _, rfl⟩ := hu
  rfl
theorem rowH_onel (x : List Nat) : ∀ r ∈ [rowH x], ∀ u ∈ r, u.oneCell' = true := fun r hr u hu => by
  rw [List.mem_singleton.1 hr] at hu
  simp only [rowH, ints, List.mem_map] at hu
  obtain ⟨n, _, rfl⟩ := hu
  rfl
theorem build_three (w : World) : (Instr.build 27 #[(0, .int .u32 3)]).run Try.prog w = .ok (.agg (cellsV 3 (.slice none 0 0) (.slice none 0 0) (.slice none 0 0)).toArray) w := by kernel_rfl
/-- a slice of rows, without its first -/
theorem cut_first_rows {w : World} {base : Nat} {p : Option Addr} {n c : Nat} {rows : List (List Value)} (h : OwnR w base 44 32 (.slice p n c) rows) (hn : 0 < n) : n = rows.length ∧
    ∃ pL cL, (∀ wx, (Instr.sliceAt 23 (.slice p n c) (some (.int .i64 1)) none none).run Try.prog wx = .ok (.slice pL (n - 1) cL) wx) ∧ ∀ wx, Sl wx 32 (.slice p n c) rows → Sl wx 32 (.slice pL (n - 1) cL) (rows.drop 1) := by
  have hlen : n = rows.length := by
    obtain ⟨p', c', e⟩ := h.isSlice
    cases e
    rfl
  have hne : Try.prog.elem 23 = 44 := by kernel_rfl
  have hu : Try.prog.underlying 23 = some (.slice (Try.prog.elem 23)) := by rw [hne]; exact Try.underlying23
  have hsz : ∀ wx, (sizeOf (Try.prog.elem 23)).run Try.prog wx = .ok 32 wx := fun wx => by
    rw [hne]
    obtain ⟨i0, hi0, _, hz1, _⟩ := info_parts2 info_hash
    simp [sizeOf, typeInfo, hi0, hz1]
  have hcap : n ≤ c ∧ ∃ g, p = some g := by
    rcases h.2.2 with ⟨hv, _⟩ | ⟨g, cap, cur, hv, _, _, hn', _⟩
    · cases hv; omega
    · cases hv
      exact ⟨by omega, _, rfl⟩
  obtain ⟨hc, g, rfl⟩ := hcap
  refine ⟨hlen, if c = 1 then some g else some (g.add 32), c - 1, fun wx => ?_, fun wx hS => ?_⟩
  · rw [run_sliceAt_slice wx _ _ _ _ _ hu, run_slice_l wx _ _ _ _ hu .i64 1 (by omega) (by omega), hsz]
    simp only [Result.andThen, sliced, Int.toNat_one, Nat.one_mul]
    by_cases h1 : c = 1
    · simp [h1]
    · simp [h1]
  · by_cases h1 : c = 1
    · have hd : rows.drop 1 = [] := List.drop_eq_nil_of_le (by omega)
      rw [hd]
      exact ⟨(fun r hr => (by cases hr)), _, _, (by rw [show n - 1 = 0 by omega]; rfl), (fun i r hr => by simp at hr)⟩
    · rw [if_neg h1]
      have := Sl.dropped hS (m := 1) (by omega) (c - 1)
      rwa [Nat.one_mul] at this
end Go.Proofs.Ytahfjfhiejhddaa
