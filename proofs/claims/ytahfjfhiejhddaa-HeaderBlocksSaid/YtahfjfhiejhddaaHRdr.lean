/- The program's reader of versions: what holds of it, and walks of the closures that keep what was read. -/
import Derived.Test.YtahfjfhiejhddaaHRdM
import Derived.Test.YtahfjfhiejhddaaHRRd
import Derived.Test.YtahfjfhiejhddaaG1
namespace Go.Proofs.Ytahfjfhiejhddaa
open Go.RowKit
set_option linter.unusedVariables false

/-- a reader's cells -/
def rdrC (i : Nat) (vb vn vz : Value) (left : ByteArray) (er : Nat) : List Value := [.int .u32 (i : Int), vb, vn, vz, .string left, .int .i64 (er : Int)]
theorem size_rdr : (Try.prog.info? 69).map (·.size) = some 6 := by kernel_rfl
/-- V: the reader's block; all that it holds was made behind w -/
structure RdQ (w : World) (V : Nat) (wx : World) (i : Nat) (vb vn vz : Value) (bl ns : List (List Nat)) (zs : List Int) (left : ByteArray) (er : Nat) : Prop where
  low : w.heap.size ≤ V
  ver : Blk wx V 69 (rdrC i vb vn vz left er)
  ob : OwnR wx w.heap.size 44 32 vb (rowsH bl)
  on : OwnR wx w.heap.size 9 1 vn (rowsS ns)
  oz : OwnR wx w.heap.size 3 1 vz (rowsZ zs)
  bel : Below w.heap.size w wx
/-- blocks of other types than a reader's and its slices' stay as they were -/
def KeepR (W W' : World) : Prop := W.heap.size ≤ W'.heap.size ∧ ∀ b t vs, Blk W b t vs → t ≠ 69 → t ≠ 44 → t ≠ 9 → t ≠ 3 → Blk W' b t vs
theorem KeepR.refl (W : World) : KeepR W W := ⟨Nat.le_refl _, fun _ _ _ h _ _ _ _ => h⟩
theorem KeepR.trans {W W' W'' : World} (h : KeepR W W') (h' : KeepR W' W'') : KeepR W W'' := ⟨Nat.le_trans h.1 h'.1, fun b t vs hb a1 a2 a3 a4 => h'.2 b t vs (h.2 b t vs hb a1 a2 a3 a4) a1 a2 a3 a4⟩
theorem KeepR.below {W W' : World} (h : Below W.heap.size W W') : KeepR W W' := ⟨h.size, fun b t vs hb _ _ _ _ => hb.below h hb.lt⟩
theorem KeepR.cell {W : World} {V : Nat} {vs : List Value} (h : Blk W V 69 vs) (j : Nat) (u : Value) : KeepR W (W.setCell ⟨V, j, none⟩ u) :=
  ⟨by have := (grown_setCell W ⟨V, j, none⟩ u).size; exact this, fun b t ws hb a1 _ _ _ => hb.other (a := ⟨V, j, none⟩) (fun e => by
    have e' : V = b := e
    subst e'
    unfold Blk at h hb
    rw [h] at hb
    simp at hb
    exact a1 hb.2.symm) u⟩
theorem KeepR.grown {W W' : World} {base : Nat} {e : TypeId} {k : Nat} {v : Value} {rows : List (List Value)} (h : OwnR W base e k v rows) (hg : W.grownBy W' v.ownBlock) (he : e = 44 ∨ e = 9 ∨ e = 3) : KeepR W W' :=
  ⟨hg.size, fun b t vs hb a1 a2 a3 a4 => hb.grownO hg (h.ne hb (by rcases he with rfl | rfl | rfl <;> assumption))⟩
section
variable {w wx wy : World} {V i : Nat} {vb vn vz : Value} {bl ns : List (List Nat)} {zs : List Int} {left : ByteArray} {er : Nat}
theorem RdQ.keep (h : RdQ w V wx i vb vn vz bl ns zs left er) (hb : Below wx.heap.size wx wy) : RdQ w V wy i vb vn vz bl ns zs left er :=
  ⟨h.low, h.ver.below hb h.ver.lt, h.ob.keep hb, h.on.keep hb, h.oz.keep hb, h.bel.trans (hb.mono h.bel.size)⟩
/-- a cell that is no slice is written -/
theorem RdQ.set (h : RdQ w V wx i vb vn vz bl ns zs left er) (j : Nat) (u : Value) (i' : Nat) (left' : ByteArray) (er' : Nat) (e : (rdrC i vb vn vz left er).set j u = rdrC i' vb vn vz left' er') : RdQ w V (wx.setCell ⟨V, j, none⟩ u) i' vb vn vz bl ns zs left' er' :=
  ⟨h.low, by rw [← e]; exact h.ver.set j u, h.ob.cellOther h.ver (by decide) j u, h.on.cellOther h.ver (by decide) j u, h.oz.cellOther h.ver (by decide) j u, h.bel.setCell (p := ⟨V, j, none⟩) h.low u⟩
end
/-! ### on -/
def k_nameC (w wx : World) (V X i : Nat) (vb vn vz : Value) (bl ns : List (List Nat)) (zs : List Int) (left : ByteArray) (er : Nat) (b : Bool) (W : World) : Prop :=
  Blk W V 69 (rdrC i vb vn vz left er) ∧ Blk W X 86 [.pointer (some ⟨V, 0, none⟩)] ∧ OwnR W w.heap.size 44 32 vb (rowsH bl) ∧ OwnR W w.heap.size 3 1 vz (rowsZ zs) ∧ Below w.heap.size w W ∧ KeepR wx W ∧ wx.heap.size ≤ W.heap.size ∧ (b = false → OwnR W w.heap.size 9 1 vn (rowsS ns))
theorem k_nameC_new {w wx : World} {V X : Nat} {i : Nat} {vb vn vz : Value} {bl ns : List (List Nat)} {zs : List Int} {left : ByteArray} {er : Nat} {b : Bool} {W W' : World} (h : k_nameC w wx V X i vb vn vz bl ns zs left er b W) (hb : Below W.heap.size W W') : k_nameC w wx V X i vb vn vz bl ns zs left er b W' := by
  obtain ⟨h1, h2, h3, h4, h5, h6, h7, h8⟩ := h
  exact ⟨h1.below hb h1.lt, h2.below hb h2.lt, h3.keep hb, h4.keep hb, h5.trans (hb.mono h5.size), h6.trans (.below hb), Nat.le_trans h7 hb.size, fun e => (h8 e).keep hb⟩
def k_nameS (w wx : World) (V : Nat) (v0 : Value) (rows : List (List Value)) (th : Value) (row : List Value) (i : Nat) (v : Value) (W : World) : Prop :=
  match i with
  | 0 | 1 | 2 | 3 | 9 | 10 => v = .pointer (some ⟨V, 0, none⟩)
  | 4 | 11 => v = .pointer (some ⟨V, 2, none⟩)
  | 5 => v = v0
  | 6 => v = th
  | 7 => ∃ y, wx.heap.size ≤ y ∧ v = .slice (some ⟨y, 0, none⟩) 1 1 ∧ Blk W y 9 row
  | 8 => OwnR W w.heap.size 9 1 v (rows ++ [row])
  | _ => True
def k_nameK (v0 : Value) (b : Bool) (W W' : World) : Prop := W.grownBy W' (match b with | true => none | false => v0.ownBlock)
theorem k_nameS_mono {w wx : World} {V : Nat} {v0 : Value} {rows : List (List Value)} {th : Value} {row : List Value} (hlo : ∀ b, v0.ownBlock = some b → b < wx.heap.size) (b : Bool) (i : Nat) (v : Value) (W W' : World) (hb : i = 8 → b = true) (h : k_nameS w wx V v0 rows th row i v W) (hk : k_nameK v0 b W W') : k_nameS w wx V v0 rows th row i v W' := by
  match i with
  | 0 | 1 | 2 | 3 | 4 | 5 | 6 | 9 | 10 | 11 => exact h
  | 7 =>
    obtain ⟨y, h1, h2, h3⟩ := h
    refine ⟨y, h1, h2, h3.grownO hk fun i hi e => ?_⟩
    subst e
    cases b
    · have := hlo i hi
      omega
    · cases hi
  | 8 =>
    obtain rfl := hb rfl
    exact OwnR.grownO h hk (fun _ _ e => by cases e)
  | _ + 12 => trivial
theorem k_nameK_new {v0 : Value} {b : Bool} {W W' : World} (hb : Below W.heap.size W W') : k_nameK v0 b W W' := (grown_below hb).but _
set_option maxRecDepth 100000 in
set_option maxHeartbeats 2000000 in
theorem k_name {w wx : World} {V X : Nat} {i : Nat} {vb vn vz : Value} {bl ns : List (List Nat)} {zs : List Int} {left : ByteArray} {er : Nat} (h : RdQ w V wx i vb vn vz bl ns zs left er) (hX : Blk wx X 86 [.pointer (some ⟨V, 0, none⟩)]) (t : List Nat) (hl : ns.length ≤ 1000000) :
    Calls Try.prog 64 #[.string (tx t), .pointer (some ⟨X, 0, none⟩)] wx fun e w' => e = .returned (.tuple #[]) ∧ (∃ v', RdQ w V w' i vb v' vz bl (ns ++ [t]) zs left er) ∧ KeepR wx w' := by
  obtain ⟨i0, hi0, hz0, hz1, hz2⟩ := info_parts2 info_str
  have hlo := h.on.lt
  have HLO := Lib.hid hlo
  have HL := Lib.hid hl
  have HNL : Hid ((rowsS ns).length = ns.length) := Lib.hid (rowsS_len ns)
  have HSN : Hid (rowsS (ns ++ [t]) = rowsS ns ++ [[Value.string (tx t)]]) := Lib.hid (rowsS_snoc ns t)
  obtain ⟨pa, ca, hv⟩ := h.on.isSlice
  have HV := Lib.hid hv
  have hone : ∀ r ∈ [[Value.string (tx t)]], ∀ z ∈ (r : List Value), z.oneCell' = true := by
    intro r hr z hz
    rw [List.mem_singleton.1 hr] at hz
    rw [List.mem_singleton.1 hz]
    rfl
  have HONE := Lib.hid hone
  have HC0 : Hid (k_nameC w wx V X i vb vn vz bl ns zs left er false wx.drew) := Lib.hid ⟨h.ver.drew, hX.drew, h.ob, h.oz, h.bel.drew, .below ((Below.refl _ _).drew), Nat.le_refl _, fun _ => h.on⟩
  have HLOW := Lib.hid h.low
  clear h hX hl hlo hv hone
  generalize tx t = Z at *
  go_enter Try.func64, Try.ntmps64
  go_wp2_with fail
  refine region_mix 8 12 (by decide) mixed (by kernel_rfl) (by kernel_rfl) (fun u => #[_, _, _, u 0, u 1, u 2, u 3, u 4, u 5, u 6, u 7, u 8, u 9, u 10, u 11]) [] (fun i => undef) rfl
    (k_nameC w wx V X i vb vn vz bl ns zs left er) HC0.out (k_nameK vn) (k_nameS w wx V vn (rowsS ns) (.string Z) ([Value.string Z])) ?mono ?step ?one ?last
  case mono => exact k_nameS_mono (fun b e => (HLO.out b e).2)
  case step =>
    intro bb u W j o hj hjk _ ho hC hd
    have hr : k_nameK vn bb W W := by cases bb <;> exact ⟨rfl, rfl, rfl, Nat.le_refl _, fun _ _ _ => rfl⟩
    rcases j with _ | _ | _ | _ | _ | _ | _ | _ | _ | _ | _ | _ | j
    all_goals try (simp only [List.getElem?_cons_zero, List.getElem?_cons_succ, Option.some.injEq] at ho; subst ho)
    · have c2 := hC.2.1.cell 0
      simp only [List.getElem?_cons_zero] at c2
      go_wp2_with fail
      exact ⟨_, rfl, rfl, hC, hr⟩
    · have c2 := hC.2.1.cell 0
      simp only [List.getElem?_cons_zero] at c2
      go_wp2_with fail
      exact ⟨_, rfl, rfl, hC, hr⟩
    · have h1 : u 1 = .pointer (some ⟨V, 0, none⟩) := hd ⟨1, .data⟩ (by simp) rfl
      rw [h1]
      go_wp2_with fail
      exact ⟨_, by simp [upd, h1], rfl, hC, hr⟩
    · have h1 : u 2 = .pointer (some ⟨V, 0, none⟩) := hd ⟨2, .data⟩ (by simp) rfl
      rw [h1]
      go_wp2_with fail
      exact ⟨_, by simp [upd, h1], rfl, hC, hr⟩
    · have h1 : u 3 = .pointer (some ⟨V, 0, none⟩) := hd ⟨3, .data⟩ (by simp) rfl
      rw [h1]
      go_wp2_with fail
      exact ⟨_, by simp [upd, h1], rfl, hC, hr⟩
    · have h1 : u 4 = .pointer (some ⟨V, 2, none⟩) := hd ⟨4, .data⟩ (by simp) rfl
      have c2 := hC.1.cell 2
      simp only [rdrC, List.getElem?_cons_zero, List.getElem?_cons_succ] at c2
      rw [HV.out] at c2
      rw [h1]
      go_wp2_with fail
      exact ⟨_, by simp [upd, h1], HV.out.symm, hC, hr⟩
    · go_wp2_with fail
      exact ⟨_, rfl, rfl, hC, hr⟩
    · have h1 : u 6 = .string Z := hd ⟨6, .data⟩ (by simp) rfl
      have hz := hC.2.2.2.2.2.2.1
      have hb := (Below.refl W.heap.size W).alloc (Nat.le_refl _) (.cells #[Value.string Z] 9)
      have HC := Lib.hid (k_nameC_new hC hb)
      have HK : Hid (k_nameK vn bb W (W.alloc (.cells #[Value.string Z] 9))) := Lib.hid (k_nameK_new hb)
      clear hC hb
      rw [h1]
      go_wp2_with fail
      exact ⟨_, by first | (simp [upd, h1]; done) | (simp [upd, h1]; rfl), ⟨W.heap.size, hz, rfl, Blk.new' W _ _ rfl⟩, HC.out, HK.out⟩
    · omega
    · have h1 : u 0 = .pointer (some ⟨V, 0, none⟩) := hd ⟨0, .data⟩ (by simp) rfl
      rw [h1]
      go_wp2_with fail
      exact ⟨_, by simp [upd, h1], rfl, hC, hr⟩
    · have h1 : u 9 = .pointer (some ⟨V, 0, none⟩) := hd ⟨9, .data⟩ (by simp) rfl
      rw [h1]
      go_wp2_with fail
      exact ⟨_, by simp [upd, h1], rfl, hC, hr⟩
    · have h1 : u 10 = .pointer (some ⟨V, 0, none⟩) := hd ⟨10, .data⟩ (by simp) rfl
      rw [h1]
      go_wp2_with fail
      exact ⟨_, by simp [upd, h1], rfl, hC, hr⟩
    · omega
  case one =>
    intro u W o ho hC hd
    simp only [List.getElem?_cons_zero, List.getElem?_cons_succ, Option.some.injEq] at ho
    subst ho
    have h4 : u 5 = vn := hd ⟨5, .data⟩ (by simp) rfl
    obtain ⟨y, hy, h8, hY8⟩ : ∃ y, wx.heap.size ≤ y ∧ u 7 = .slice (some ⟨y, 0, none⟩) 1 1 ∧ Blk W y 9 ([Value.string Z]) := hd ⟨7, .data⟩ (by simp) rfl
    obtain ⟨g1, g2, g3, g4, g5, g6, g7, g8⟩ := hC
    have hO := g8 rfl
    have hnw := sl_one hY8
    have hlen : (rowsS ns).length + [[Value.string Z]].length ≤ maxLen := by rw [HNL.out, List.length_singleton]; have := HL.out; unfold maxLen; omega
    have hby : ((rowsS ns).length + [[Value.string Z]].length) * 16 ≤ 140737488355328 := by rw [HNL.out, List.length_singleton]; have := HL.out; omega
    have hbase : w.heap.size ≤ W.heap.size := g5.size
    have hfin : ∀ v' w5, OwnR w5 w.heap.size 9 1 v' (rowsS ns ++ [[Value.string Z]]) → W.grownBy w5 vn.ownBlock → (k_nameC w wx V X i vb vn vz bl ns zs left er true w5 ∧ k_nameK vn false W w5) := fun v' w5 q1 q2 =>
      ⟨⟨g1.grownO q2 (hO.ne g1 (by decide)), g2.grownO q2 (hO.ne g2 (by decide)), g3.grownO q2 (g3.apart hO (by decide)), g4.grownO q2 (g4.apart hO (by decide)), g5.grown q2 hbase (fun i e => (hO.lt i e).1), g6.trans (.grown hO q2 (by decide)), Nat.le_trans g7 q2.size, fun e => (by cases e)⟩, q2⟩
    have HFIN := Lib.hid hfin
    have HO := Lib.hid hO
    have HNW := Lib.hid hnw
    have HLEN := Lib.hid hlen
    have HBY := Lib.hid hby
    have HBA := Lib.hid hbase
    clear hO hnw hlen hby hbase hY8 g1 g2 g3 g4 g5 g6 g7 g8 hd hfin
    rw [h4, h8]
    go_wp2_with (first | (refine wpList_append_rows rfl _ _ 24 rfl w.heap.size 9 i0 (.string ⟨#[]⟩) 1 16 Try.underlying24 hi0 hz0 hz1 hz2 (by decide) (by decide) vn (rowsS ns) rfl HO.out (.slice (some ⟨y, 0, none⟩) 1 1) [[Value.string Z]] rfl HNW.out HONE.out HLEN.out HBY.out HBA.out (.inr ⟨_, _, _, rfl⟩) ?_; intro v' w5 ho5 hg5 hv5))
    obtain ⟨q1, q2⟩ := HFIN.out v' w5 ho5 hg5
    exact ⟨v', by simp [upd, h4, h8]; rfl, ho5, q1, q2⟩
  case last =>
    intro u W o ho hC hS
    simp only [List.getElem?_cons_zero, List.getElem?_cons_succ, Option.some.injEq] at ho
    subst ho
    have h9 : OwnR W w.heap.size 9 1 (u 8) (rowsS ns ++ [[Value.string Z]]) := hS 8 (by decide)
    have h11 : u 11 = .pointer (some ⟨V, 2, none⟩) := hS 11 (by decide)
    clear hS
    obtain ⟨v5, hv5⟩ : ∃ v5, u 8 = v5 := ⟨_, rfl⟩
    rw [hv5] at h9 ⊢
    obtain ⟨A5, cap5, he5⟩ := h9.isSlice
    obtain ⟨n5, hn5⟩ : ∃ n, (rowsS ns ++ [[Value.string Z]]).length = n := ⟨_, rfl⟩
    rw [hn5] at he5
    have c2 := hC.1.cell 2
    have f2 := hC.1.free 2
    simp only [rdrC, List.getElem?_cons_zero, List.getElem?_cons_succ] at c2
    have HCC := Lib.hid hC
    have H9 := Lib.hid h9
    clear hC h9 hn5
    subst he5
    rw [h11]
    go_wp2_with fail
    go_end0
    obtain ⟨g1, g2, g3, g4, g5, g6, g7, g8⟩ := HCC.out
    have H10 := H9.out
    rw [← HSN.out] at H10
    exact ⟨rfl, ⟨_, HLOW.out, g1.set 2 _, g3.cellOther g1 (by decide) 2 _, H10.cellOther g1 (by decide) 2 _, g4.cellOther g1 (by decide) 2 _, g5.setCell (p := ⟨V, 2, none⟩) HLOW.out _⟩, g6.trans (.cell g1 2 _)⟩
/-! ### oz -/
def k_sizeC (w wx : World) (V X i : Nat) (vb vn vz : Value) (bl ns : List (List Nat)) (zs : List Int) (left : ByteArray) (er : Nat) (b : Bool) (W : World) : Prop :=
  Blk W V 69 (rdrC i vb vn vz left er) ∧ Blk W X 86 [.pointer (some ⟨V, 0, none⟩)] ∧ OwnR W w.heap.size 44 32 vb (rowsH bl) ∧ OwnR W w.heap.size 9 1 vn (rowsS ns) ∧ Below w.heap.size w W ∧ KeepR wx W ∧ wx.heap.size ≤ W.heap.size ∧ (b = false → OwnR W w.heap.size 3 1 vz (rowsZ zs))
theorem k_sizeC_new {w wx : World} {V X : Nat} {i : Nat} {vb vn vz : Value} {bl ns : List (List Nat)} {zs : List Int} {left : ByteArray} {er : Nat} {b : Bool} {W W' : World} (h : k_sizeC w wx V X i vb vn vz bl ns zs left er b W) (hb : Below W.heap.size W W') : k_sizeC w wx V X i vb vn vz bl ns zs left er b W' := by
  obtain ⟨h1, h2, h3, h4, h5, h6, h7, h8⟩ := h
  exact ⟨h1.below hb h1.lt, h2.below hb h2.lt, h3.keep hb, h4.keep hb, h5.trans (hb.mono h5.size), h6.trans (.below hb), Nat.le_trans h7 hb.size, fun e => (h8 e).keep hb⟩
def k_sizeS (w wx : World) (V : Nat) (v0 : Value) (rows : List (List Value)) (th : Value) (row : List Value) (i : Nat) (v : Value) (W : World) : Prop :=
  match i with
  | 0 | 1 | 2 | 3 | 9 | 10 => v = .pointer (some ⟨V, 0, none⟩)
  | 4 | 11 => v = .pointer (some ⟨V, 3, none⟩)
  | 5 => v = v0
  | 6 => v = th
  | 7 => ∃ y, wx.heap.size ≤ y ∧ v = .slice (some ⟨y, 0, none⟩) 1 1 ∧ Blk W y 3 row
  | 8 => OwnR W w.heap.size 3 1 v (rows ++ [row])
  | _ => True
def k_sizeK (v0 : Value) (b : Bool) (W W' : World) : Prop := W.grownBy W' (match b with | true => none | false => v0.ownBlock)
theorem k_sizeS_mono {w wx : World} {V : Nat} {v0 : Value} {rows : List (List Value)} {th : Value} {row : List Value} (hlo : ∀ b, v0.ownBlock = some b → b < wx.heap.size) (b : Bool) (i : Nat) (v : Value) (W W' : World) (hb : i = 8 → b = true) (h : k_sizeS w wx V v0 rows th row i v W) (hk : k_sizeK v0 b W W') : k_sizeS w wx V v0 rows th row i v W' := by
  match i with
  | 0 | 1 | 2 | 3 | 4 | 5 | 6 | 9 | 10 | 11 => exact h
  | 7 =>
    obtain ⟨y, h1, h2, h3⟩ := h
    refine ⟨y, h1, h2, h3.grownO hk fun i hi e => ?_⟩
    subst e
    cases b
    · have := hlo i hi
      omega
    · cases hi
  | 8 =>
    obtain rfl := hb rfl
    exact OwnR.grownO h hk (fun _ _ e => by cases e)
  | _ + 12 => trivial
theorem k_sizeK_new {v0 : Value} {b : Bool} {W W' : World} (hb : Below W.heap.size W W') : k_sizeK v0 b W W' := (grown_below hb).but _
set_option maxRecDepth 100000 in
set_option maxHeartbeats 2000000 in
theorem k_size {w wx : World} {V X : Nat} {i : Nat} {vb vn vz : Value} {bl ns : List (List Nat)} {zs : List Int} {left : ByteArray} {er : Nat} (h : RdQ w V wx i vb vn vz bl ns zs left er) (hX : Blk wx X 86 [.pointer (some ⟨V, 0, none⟩)]) (t : Int) (hl : zs.length ≤ 1000000) :
    Calls Try.prog 65 #[.int .i64 t, .pointer (some ⟨X, 0, none⟩)] wx fun e w' => e = .returned (.tuple #[]) ∧ (∃ v', RdQ w V w' i vb vn v' bl ns (zs ++ [t]) left er) ∧ KeepR wx w' := by
  obtain ⟨i0, hi0, hz0, hz1, hz2⟩ := info_parts2 info_intK
  have hlo := h.oz.lt
  have HLO := Lib.hid hlo
  have HL := Lib.hid hl
  have HNL : Hid ((rowsZ zs).length = zs.length) := Lib.hid (rowsZ_len zs)
  have HSN : Hid (rowsZ (zs ++ [t]) = rowsZ zs ++ [[Value.int .i64 t]]) := Lib.hid (rowsZ_snoc zs t)
  obtain ⟨pa, ca, hv⟩ := h.oz.isSlice
  have HV := Lib.hid hv
  have hone : ∀ r ∈ [[Value.int .i64 t]], ∀ z ∈ (r : List Value), z.oneCell' = true := by
    intro r hr z hz
    rw [List.mem_singleton.1 hr] at hz
    rw [List.mem_singleton.1 hz]
    rfl
  have HONE := Lib.hid hone
  have HC0 : Hid (k_sizeC w wx V X i vb vn vz bl ns zs left er false wx.drew) := Lib.hid ⟨h.ver.drew, hX.drew, h.ob, h.on, h.bel.drew, .below ((Below.refl _ _).drew), Nat.le_refl _, fun _ => h.oz⟩
  have HLOW := Lib.hid h.low
  clear h hX hl hlo hv hone
  go_enter Try.func65, Try.ntmps65
  go_wp2_with fail
  refine region_mix 8 12 (by decide) mixed (by kernel_rfl) (by kernel_rfl) (fun u => #[_, _, _, u 0, u 1, u 2, u 3, u 4, u 5, u 6, u 7, u 8, u 9, u 10, u 11]) [] (fun i => undef) rfl
    (k_sizeC w wx V X i vb vn vz bl ns zs left er) HC0.out (k_sizeK vz) (k_sizeS w wx V vz (rowsZ zs) (.int .i64 t) ([Value.int .i64 t])) ?mono ?step ?one ?last
  case mono => exact k_sizeS_mono (fun b e => (HLO.out b e).2)
  case step =>
    intro bb u W j o hj hjk _ ho hC hd
    have hr : k_sizeK vz bb W W := by cases bb <;> exact ⟨rfl, rfl, rfl, Nat.le_refl _, fun _ _ _ => rfl⟩
    rcases j with _ | _ | _ | _ | _ | _ | _ | _ | _ | _ | _ | _ | j
    all_goals try (simp only [List.getElem?_cons_zero, List.getElem?_cons_succ, Option.some.injEq] at ho; subst ho)
    · have c2 := hC.2.1.cell 0
      simp only [List.getElem?_cons_zero] at c2
      go_wp2_with fail
      exact ⟨_, rfl, rfl, hC, hr⟩
    · have c2 := hC.2.1.cell 0
      simp only [List.getElem?_cons_zero] at c2
      go_wp2_with fail
      exact ⟨_, rfl, rfl, hC, hr⟩
    · have h1 : u 1 = .pointer (some ⟨V, 0, none⟩) := hd ⟨1, .data⟩ (by simp) rfl
      rw [h1]
      go_wp2_with fail
      exact ⟨_, by simp [upd, h1], rfl, hC, hr⟩
    · have h1 : u 2 = .pointer (some ⟨V, 0, none⟩) := hd ⟨2, .data⟩ (by simp) rfl
      rw [h1]
      go_wp2_with fail
      exact ⟨_, by simp [upd, h1], rfl, hC, hr⟩
    · have h1 : u 3 = .pointer (some ⟨V, 0, none⟩) := hd ⟨3, .data⟩ (by simp) rfl
      rw [h1]
      go_wp2_with fail
      exact ⟨_, by simp [upd, h1], rfl, hC, hr⟩
    · have h1 : u 4 = .pointer (some ⟨V, 3, none⟩) := hd ⟨4, .data⟩ (by simp) rfl
      have c2 := hC.1.cell 3
      simp only [rdrC, List.getElem?_cons_zero, List.getElem?_cons_succ] at c2
      rw [HV.out] at c2
      rw [h1]
      go_wp2_with fail
      exact ⟨_, by simp [upd, h1], HV.out.symm, hC, hr⟩
    · go_wp2_with fail
      exact ⟨_, rfl, rfl, hC, hr⟩
    · have h1 : u 6 = .int .i64 t := hd ⟨6, .data⟩ (by simp) rfl
      have hz := hC.2.2.2.2.2.2.1
      have hb := (Below.refl W.heap.size W).alloc (Nat.le_refl _) (.cells #[Value.int .i64 t] 3)
      have HC := Lib.hid (k_sizeC_new hC hb)
      have HK : Hid (k_sizeK vz bb W (W.alloc (.cells #[Value.int .i64 t] 3))) := Lib.hid (k_sizeK_new hb)
      clear hC hb
      rw [h1]
      go_wp2_with fail
      exact ⟨_, by first | (simp [upd, h1]; done) | (simp [upd, h1]; rfl), ⟨W.heap.size, hz, rfl, Blk.new' W _ _ rfl⟩, HC.out, HK.out⟩
    · omega
    · have h1 : u 0 = .pointer (some ⟨V, 0, none⟩) := hd ⟨0, .data⟩ (by simp) rfl
      rw [h1]
      go_wp2_with fail
      exact ⟨_, by simp [upd, h1], rfl, hC, hr⟩
    · have h1 : u 9 = .pointer (some ⟨V, 0, none⟩) := hd ⟨9, .data⟩ (by simp) rfl
      rw [h1]
      go_wp2_with fail
      exact ⟨_, by simp [upd, h1], rfl, hC, hr⟩
    · have h1 : u 10 = .pointer (some ⟨V, 0, none⟩) := hd ⟨10, .data⟩ (by simp) rfl
      rw [h1]
      go_wp2_with fail
      exact ⟨_, by simp [upd, h1], rfl, hC, hr⟩
    · omega
  case one =>
    intro u W o ho hC hd
    simp only [List.getElem?_cons_zero, List.getElem?_cons_succ, Option.some.injEq] at ho
    subst ho
    have h4 : u 5 = vz := hd ⟨5, .data⟩ (by simp) rfl
    obtain ⟨y, hy, h8, hY8⟩ : ∃ y, wx.heap.size ≤ y ∧ u 7 = .slice (some ⟨y, 0, none⟩) 1 1 ∧ Blk W y 3 ([Value.int .i64 t]) := hd ⟨7, .data⟩ (by simp) rfl
    obtain ⟨g1, g2, g3, g4, g5, g6, g7, g8⟩ := hC
    have hO := g8 rfl
    have hnw := sl_one hY8
    have hlen : (rowsZ zs).length + [[Value.int .i64 t]].length ≤ maxLen := by rw [HNL.out, List.length_singleton]; have := HL.out; unfold maxLen; omega
    have hby : ((rowsZ zs).length + [[Value.int .i64 t]].length) * 8 ≤ 140737488355328 := by rw [HNL.out, List.length_singleton]; have := HL.out; omega
    have hbase : w.heap.size ≤ W.heap.size := g5.size
    have hfin : ∀ v' w5, OwnR w5 w.heap.size 3 1 v' (rowsZ zs ++ [[Value.int .i64 t]]) → W.grownBy w5 vz.ownBlock → (k_sizeC w wx V X i vb vn vz bl ns zs left er true w5 ∧ k_sizeK vz false W w5) := fun v' w5 q1 q2 =>
      ⟨⟨g1.grownO q2 (hO.ne g1 (by decide)), g2.grownO q2 (hO.ne g2 (by decide)), g3.grownO q2 (g3.apart hO (by decide)), g4.grownO q2 (g4.apart hO (by decide)), g5.grown q2 hbase (fun i e => (hO.lt i e).1), g6.trans (.grown hO q2 (by decide)), Nat.le_trans g7 q2.size, fun e => (by cases e)⟩, q2⟩
    have HFIN := Lib.hid hfin
    have HO := Lib.hid hO
    have HNW := Lib.hid hnw
    have HLEN := Lib.hid hlen
    have HBY := Lib.hid hby
    have HBA := Lib.hid hbase
    clear hO hnw hlen hby hbase hY8 g1 g2 g3 g4 g5 g6 g7 g8 hd hfin
    rw [h4, h8]
    go_wp2_with (first | (refine wpList_append_rows rfl _ _ 25 rfl w.heap.size 3 i0 (.int .i64 0) 1 8 Try.underlying25 hi0 hz0 hz1 hz2 (by decide) (by decide) vz (rowsZ zs) rfl HO.out (.slice (some ⟨y, 0, none⟩) 1 1) [[Value.int .i64 t]] rfl HNW.out HONE.out HLEN.out HBY.out HBA.out (.inr ⟨_, _, _, rfl⟩) ?_; intro v' w5 ho5 hg5 hv5))
    obtain ⟨q1, q2⟩ := HFIN.out v' w5 ho5 hg5
    exact ⟨v', by simp [upd, h4, h8]; rfl, ho5, q1, q2⟩
  case last =>
    intro u W o ho hC hS
    simp only [List.getElem?_cons_zero, List.getElem?_cons_succ, Option.some.injEq] at ho
    subst ho
    have h9 : OwnR W w.heap.size 3 1 (u 8) (rowsZ zs ++ [[Value.int .i64 t]]) := hS 8 (by decide)
    have h11 : u 11 = .pointer (some ⟨V, 3, none⟩) := hS 11 (by decide)
    clear hS
    obtain ⟨v5, hv5⟩ : ∃ v5, u 8 = v5 := ⟨_, rfl⟩
    rw [hv5] at h9 ⊢
    obtain ⟨A5, cap5, he5⟩ := h9.isSlice
    obtain ⟨n5, hn5⟩ : ∃ n, (rowsZ zs ++ [[Value.int .i64 t]]).length = n := ⟨_, rfl⟩
    rw [hn5] at he5
    have c2 := hC.1.cell 3
    have f2 := hC.1.free 3
    simp only [rdrC, List.getElem?_cons_zero, List.getElem?_cons_succ] at c2
    have HCC := Lib.hid hC
    have H9 := Lib.hid h9
    clear hC h9 hn5
    subst he5
    rw [h11]
    go_wp2_with fail
    go_end0
    obtain ⟨g1, g2, g3, g4, g5, g6, g7, g8⟩ := HCC.out
    have H10 := H9.out
    rw [← HSN.out] at H10
    exact ⟨rfl, ⟨_, HLOW.out, g1.set 3 _, g3.cellOther g1 (by decide) 3 _, g4.cellOther g1 (by decide) 3 _, H10.cellOther g1 (by decide) 3 _, g5.setCell (p := ⟨V, 3, none⟩) HLOW.out _⟩, g6.trans (.cell g1 3 _)⟩
/-! ### ob -/
def k_blockC (w wx : World) (V X i : Nat) (vb vn vz : Value) (bl ns : List (List Nat)) (zs : List Int) (left : ByteArray) (er : Nat) (t : List Nat) (Y : Nat) (b : Bool) (W : World) : Prop :=
  Blk W V 69 (rdrC i vb vn vz left er) ∧ Blk W X 86 [.pointer (some ⟨V, 0, none⟩)] ∧ OwnR W w.heap.size 9 1 vn (rowsS ns) ∧ OwnR W w.heap.size 3 1 vz (rowsZ zs) ∧ Below w.heap.size w W ∧ KeepR wx W ∧ wx.heap.size ≤ W.heap.size ∧ (b = false → OwnR W w.heap.size 44 32 vb (rowsH bl)) ∧ Blk W Y 44 (rowH t)
theorem k_blockC_new {w wx : World} {V X : Nat} {i : Nat} {vb vn vz : Value} {bl ns : List (List Nat)} {zs : List Int} {left : ByteArray} {er : Nat} {t : List Nat} {Y : Nat} {b : Bool} {W W' : World} (h : k_blockC w wx V X i vb vn vz bl ns zs left er t Y b W) (hb : Below W.heap.size W W') : k_blockC w wx V X i vb vn vz bl ns zs left er t Y b W' := by
  obtain ⟨h1, h2, h3, h4, h5, h6, h7, h8, h9⟩ := h
  exact ⟨h1.below hb h1.lt, h2.below hb h2.lt, h3.keep hb, h4.keep hb, h5.trans (hb.mono h5.size), h6.trans (.below hb), Nat.le_trans h7 hb.size, fun e => (h8 e).keep hb, h9.below hb h9.lt⟩
def k_blockS (w wx : World) (V : Nat) (v0 : Value) (rows : List (List Value)) (th : Value) (row : List Value) (i : Nat) (v : Value) (W : World) : Prop :=
  match i with
  | 0 | 1 | 2 | 3 | 9 | 10 => v = .pointer (some ⟨V, 0, none⟩)
  | 4 | 11 => v = .pointer (some ⟨V, 1, none⟩)
  | 5 => v = v0
  | 6 => v = th
  | 7 => ∃ y, wx.heap.size ≤ y ∧ v = .slice (some ⟨y, 0, none⟩) 1 1 ∧ Blk W y 44 row
  | 8 => OwnR W w.heap.size 44 32 v (rows ++ [row])
  | _ => True
def k_blockK (v0 : Value) (b : Bool) (W W' : World) : Prop := W.grownBy W' (match b with | true => none | false => v0.ownBlock)
theorem k_blockS_mono {w wx : World} {V : Nat} {v0 : Value} {rows : List (List Value)} {th : Value} {row : List Value} (hlo : ∀ b, v0.ownBlock = some b → b < wx.heap.size) (b : Bool) (i : Nat) (v : Value) (W W' : World) (hb : i = 8 → b = true) (h : k_blockS w wx V v0 rows th row i v W) (hk : k_blockK v0 b W W') : k_blockS w wx V v0 rows th row i v W' := by
  match i with
  | 0 | 1 | 2 | 3 | 4 | 5 | 6 | 9 | 10 | 11 => exact h
  | 7 =>
    obtain ⟨y, h1, h2, h3⟩ := h
    refine ⟨y, h1, h2, h3.grownO hk fun i hi e => ?_⟩
    subst e
    cases b
    · have := hlo i hi
      omega
    · cases hi
  | 8 =>
    obtain rfl := hb rfl
    exact OwnR.grownO h hk (fun _ _ e => by cases e)
  | _ + 12 => trivial
theorem k_blockK_new {v0 : Value} {b : Bool} {W W' : World} (hb : Below W.heap.size W W') : k_blockK v0 b W W' := (grown_below hb).but _
set_option maxRecDepth 100000 in
set_option maxHeartbeats 2000000 in
theorem k_block {w wx : World} {V X : Nat} {i : Nat} {vb vn vz : Value} {bl ns : List (List Nat)} {zs : List Int} {left : ByteArray} {er : Nat} (h : RdQ w V wx i vb vn vz bl ns zs left er) (hX : Blk wx X 86 [.pointer (some ⟨V, 0, none⟩)]) (t : List Nat) (ht : t.length = 32) (hl : bl.length ≤ 1000000) :
    Calls Try.prog 61 #[.agg (rowH t).toArray, .pointer (some ⟨X, 0, none⟩)] wx fun e w' => e = .returned (.tuple #[]) ∧ (∃ v', RdQ w V w' i v' vn vz (bl ++ [t]) ns zs left er) ∧ KeepR wx w' := by
  obtain ⟨i0, hi0, hz0, hz1, hz2⟩ := info_parts2 info_hash
  have hlo := h.ob.lt
  have HLO := Lib.hid hlo
  have HL := Lib.hid hl
  have HNL : Hid ((rowsH bl).length = bl.length) := Lib.hid (rowsH_len bl)
  have HSN : Hid (rowsH (bl ++ [t]) = rowsH bl ++ [rowH t]) := Lib.hid (rowsH_snoc bl t)
  obtain ⟨pa, ca, hv⟩ := h.ob.isSlice
  have HV := Lib.hid hv
  obtain ⟨Y, hY⟩ : ∃ Y, wx.heap.size = Y := ⟨_, rfl⟩
  have kY := Blk.newAt wx Y hY 44 (c := (rowH t).toArray) (rowH t) rfl
  have hb0 := (Below.refl wx.heap.size wx).alloc (Nat.le_refl _) (.cells (rowH t).toArray 44)
  have h0 := h.keep hb0
  have hX0 := hX.below hb0 hX.lt
  have hK0 : KeepR wx (wx.alloc (.cells (rowH t).toArray 44)) := .below hb0
  obtain ⟨W0, hW0⟩ : ∃ W0, wx.alloc (.cells (rowH t).toArray 44) = W0 := ⟨_, rfl⟩
  rw [hW0] at kY hb0 h0 hX0 hK0
  have hrl := rowH_len ht
  obtain ⟨R, hR⟩ : ∃ R, rowH t = R := ⟨_, rfl⟩
  have hR1 : R.toArray.all (·.oneCell') = true := by rw [← hR]; exact rowH_one t
  have hone : ∀ r ∈ [R], ∀ z ∈ r, z.oneCell' = true := by
    intro r hr z hz
    rw [List.mem_singleton.1 hr, ← hR] at hz
    simp only [rowH, ints, List.mem_map] at hz
    obtain ⟨n, _, rfl⟩ := hz
    rfl
  have HYL := Lib.hid (show ∀ b, vb.ownBlock = some b → b ≠ Y from fun b hb e => by have := (h.ob.lt b hb).2; omega)
  rw [hR] at hrl
  have HRL := Lib.hid hrl
  have HONE := Lib.hid hone
  have HH := Lib.hid h0
  have HXX := Lib.hid hX0
  have HKY := Lib.hid kY
  have HK0 := Lib.hid hK0
  have HC0 : Hid (k_blockC w wx V X i vb vn vz bl ns zs left er t Y false W0.drew) := Lib.hid ⟨h0.ver.drew, hX0.drew, h0.on, h0.oz, h0.bel.drew, hK0.trans (.below ((Below.refl _ _).drew)), hb0.size, fun _ => h0.ob, kY.drew⟩
  have hWE : wx.alloc (.cells R.toArray 44) = W0 := by rw [← hR]; exact hW0
  clear h hX hl hlo hv h0 hX0 kY hK0 hb0 hone hrl hW0
  rw [hR]
  go_enter Try.func61, Try.ntmps61
  go_wp2_with fail
  refine region_mix 8 12 (by decide) mixed (by kernel_rfl) (by kernel_rfl) (fun u => #[_, _, _, u 0, u 1, u 2, u 3, u 4, u 5, u 6, u 7, u 8, u 9, u 10, u 11]) [] (fun i => undef) rfl
    (k_blockC w wx V X i vb vn vz bl ns zs left er t Y) HC0.out (k_blockK vb) (k_blockS w wx V vb (rowsH bl) (.agg R.toArray) (R)) ?mono ?step ?one ?last
  case mono => exact k_blockS_mono (fun b e => (HLO.out b e).2)
  case step =>
    intro bb u W j o hj hjk _ ho hC hd
    have hr : k_blockK vb bb W W := by cases bb <;> exact ⟨rfl, rfl, rfl, Nat.le_refl _, fun _ _ _ => rfl⟩
    rcases j with _ | _ | _ | _ | _ | _ | _ | _ | _ | _ | _ | _ | j
    all_goals try (simp only [List.getElem?_cons_zero, List.getElem?_cons_succ, Option.some.injEq] at ho; subst ho)
    · have c2 := hC.2.1.cell 0
      simp only [List.getElem?_cons_zero] at c2
      go_wp2_with fail
      exact ⟨_, rfl, rfl, hC, hr⟩
    · have c2 := hC.2.1.cell 0
      simp only [List.getElem?_cons_zero] at c2
      go_wp2_with fail
      exact ⟨_, rfl, rfl, hC, hr⟩
    · have h1 : u 1 = .pointer (some ⟨V, 0, none⟩) := hd ⟨1, .data⟩ (by simp) rfl
      rw [h1]
      go_wp2_with fail
      exact ⟨_, by simp [upd, h1], rfl, hC, hr⟩
    · have h1 : u 2 = .pointer (some ⟨V, 0, none⟩) := hd ⟨2, .data⟩ (by simp) rfl
      rw [h1]
      go_wp2_with fail
      exact ⟨_, by simp [upd, h1], rfl, hC, hr⟩
    · have h1 : u 3 = .pointer (some ⟨V, 0, none⟩) := hd ⟨3, .data⟩ (by simp) rfl
      rw [h1]
      go_wp2_with fail
      exact ⟨_, by simp [upd, h1], rfl, hC, hr⟩
    · have h1 : u 4 = .pointer (some ⟨V, 1, none⟩) := hd ⟨4, .data⟩ (by simp) rfl
      have c2 := hC.1.cell 1
      simp only [rdrC, List.getElem?_cons_zero, List.getElem?_cons_succ] at c2
      rw [HV.out] at c2
      rw [h1]
      go_wp2_with fail
      exact ⟨_, by simp [upd, h1], HV.out.symm, hC, hr⟩
    · have HCW := Lib.hid (hC.2.2.2.2.2.2.2.2)
      rw [hR] at HCW
      go_wp2_with (refine wpList_load_blk rfl 44 _ rfl Y rfl HCW.out Try.underlying44 rfl (by rw [size_hashV, HRL.out]) ?_)
      exact ⟨_, rfl, rfl, hC, hr⟩
    · have h1 : u 6 = .agg R.toArray := hd ⟨6, .data⟩ (by simp) rfl
      have hz := hC.2.2.2.2.2.2.1
      have hb := (Below.refl W.heap.size W).alloc (Nat.le_refl _) (.cells R.toArray 44)
      have HC := Lib.hid (k_blockC_new hC hb)
      have HK : Hid (k_blockK vb bb W (W.alloc (.cells R.toArray 44))) := Lib.hid (k_blockK_new hb)
      clear hC hb
      rw [h1]
      go_wp2_with (refine wpList_buildRow rfl 23 44 _ rfl R i0 (.agg (ints .u8 (nn (zerN 32))).toArray) W.heap.size rfl Try.underlying23 hi0 hz0 (by rw [hz1, HRL.out]) (by rw [HRL.out]; decide) (by rw [HRL.out]; decide) (by simp only [List.map_toArray, List.map_cons, List.map_nil]; rfl) ?_)
      exact ⟨_, by first | (simp [upd, h1]; done) | (simp [upd, h1]; rfl), ⟨W.heap.size, hz, rfl, Blk.new' W _ _ rfl⟩, HC.out, HK.out⟩
    · omega
    · have h1 : u 0 = .pointer (some ⟨V, 0, none⟩) := hd ⟨0, .data⟩ (by simp) rfl
      rw [h1]
      go_wp2_with fail
      exact ⟨_, by simp [upd, h1], rfl, hC, hr⟩
    · have h1 : u 9 = .pointer (some ⟨V, 0, none⟩) := hd ⟨9, .data⟩ (by simp) rfl
      rw [h1]
      go_wp2_with fail
      exact ⟨_, by simp [upd, h1], rfl, hC, hr⟩
    · have h1 : u 10 = .pointer (some ⟨V, 0, none⟩) := hd ⟨10, .data⟩ (by simp) rfl
      rw [h1]
      go_wp2_with fail
      exact ⟨_, by simp [upd, h1], rfl, hC, hr⟩
    · omega
  case one =>
    intro u W o ho hC hd
    simp only [List.getElem?_cons_zero, List.getElem?_cons_succ, Option.some.injEq] at ho
    subst ho
    have h4 : u 5 = vb := hd ⟨5, .data⟩ (by simp) rfl
    obtain ⟨y, hy, h8, hY8⟩ : ∃ y, wx.heap.size ≤ y ∧ u 7 = .slice (some ⟨y, 0, none⟩) 1 1 ∧ Blk W y 44 (R) := hd ⟨7, .data⟩ (by simp) rfl
    obtain ⟨g1, g2, g3, g4, g5, g6, g7, g8, g9⟩ := hC
    have hO := g8 rfl
    have hnw := sl_one hY8
    have hlen : (rowsH bl).length + [R].length ≤ maxLen := by rw [HNL.out, List.length_singleton]; have := HL.out; unfold maxLen; omega
    have hby : ((rowsH bl).length + [R].length) * 32 ≤ 140737488355328 := by rw [HNL.out, List.length_singleton]; have := HL.out; omega
    have hbase : w.heap.size ≤ W.heap.size := g5.size
    have hfin : ∀ v' w5, OwnR w5 w.heap.size 44 32 v' (rowsH bl ++ [R]) → W.grownBy w5 vb.ownBlock → (k_blockC w wx V X i vb vn vz bl ns zs left er t Y true w5 ∧ k_blockK vb false W w5) := fun v' w5 q1 q2 =>
      ⟨⟨g1.grownO q2 (hO.ne g1 (by decide)), g2.grownO q2 (hO.ne g2 (by decide)), g3.grownO q2 (g3.apart hO (by decide)), g4.grownO q2 (g4.apart hO (by decide)), g5.grown q2 hbase (fun i e => (hO.lt i e).1), g6.trans (.grown hO q2 (by decide)), Nat.le_trans g7 q2.size, fun e => (by cases e), g9.grownO q2 HYL.out⟩, q2⟩
    have HFIN := Lib.hid hfin
    have HO := Lib.hid hO
    have HNW := Lib.hid hnw
    have HLEN := Lib.hid hlen
    have HBY := Lib.hid hby
    have HBA := Lib.hid hbase
    clear hO hnw hlen hby hbase hY8 g1 g2 g3 g4 g5 g6 g7 g8 g9 hd hfin
    rw [h4, h8]
    rw [HRL.out] at HNW
    go_wp2_with (first | (refine wpList_append_rows rfl _ _ 23 rfl w.heap.size 44 i0 (.agg (ints .u8 (nn (zerN 32))).toArray) 32 32 Try.underlying23 hi0 hz0 hz1 hz2 (by rfl) (by decide) vb (rowsH bl) rfl HO.out (.slice (some ⟨y, 0, none⟩) 1 1) [R] rfl HNW.out HONE.out HLEN.out HBY.out HBA.out (.inr ⟨_, _, _, rfl⟩) ?_; intro v' w5 ho5 hg5 hv5))
    obtain ⟨q1, q2⟩ := HFIN.out v' w5 ho5 hg5
    exact ⟨v', by simp [upd, h4, h8]; rfl, ho5, q1, q2⟩
  case last =>
    intro u W o ho hC hS
    simp only [List.getElem?_cons_zero, List.getElem?_cons_succ, Option.some.injEq] at ho
    subst ho
    have h9 : OwnR W w.heap.size 44 32 (u 8) (rowsH bl ++ [R]) := hS 8 (by decide)
    have h11 : u 11 = .pointer (some ⟨V, 1, none⟩) := hS 11 (by decide)
    clear hS
    obtain ⟨v5, hv5⟩ : ∃ v5, u 8 = v5 := ⟨_, rfl⟩
    rw [hv5] at h9 ⊢
    obtain ⟨A5, cap5, he5⟩ := h9.isSlice
    obtain ⟨n5, hn5⟩ : ∃ n, (rowsH bl ++ [R]).length = n := ⟨_, rfl⟩
    rw [hn5] at he5
    have c2 := hC.1.cell 1
    have f2 := hC.1.free 1
    simp only [rdrC, List.getElem?_cons_zero, List.getElem?_cons_succ] at c2
    have HCC := Lib.hid hC
    have H9 := Lib.hid h9
    clear hC h9 hn5
    subst he5
    rw [h11]
    go_wp2_with fail
    go_end0
    obtain ⟨g1, g2, g3, g4, g5, g6, g7, g8, g9⟩ := HCC.out
    have H10 := H9.out
    rw [← hR, ← HSN.out] at H10
    exact ⟨rfl, ⟨_, HH.out.low, g1.set 1 _, H10.cellOther g1 (by decide) 1 _, g3.cellOther g1 (by decide) 1 _, g4.cellOther g1 (by decide) 1 _, g5.setCell (p := ⟨V, 1, none⟩) HH.out.low _⟩, g6.trans (.cell g1 1 _)⟩
end Go.Proofs.Ytahfjfhiejhddaa
