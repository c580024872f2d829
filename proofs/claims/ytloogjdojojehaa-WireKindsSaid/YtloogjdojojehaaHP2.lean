/- The program's reader of versions: what holds of it, and walks of the closures that keep what was read. -/
import Derived.Test.YtloogjdojojehaaHG
import Derived.Test.YtloogjdojojehaaHP1
import Derived.Test.YtloogjdojojehaaG1
import Derived.Test.YtloogjdojojehaaV1
namespace Go.Proofs.Ytloogjdojojehaa
open Go.RowKit
set_option linter.unusedVariables false

/-- a reader's cells -/
def rdrC (i : Nat) (vb vn vz : Value) (left : ByteArray) (er : Nat) : List Value := [.int .u32 (i : Int), vb, vn, vz, .string left, .int .i64 (er : Int)]
theorem size_rdr : (Try.prog.info? 130).map (·.size) = some 6 := by kernel_rfl
/-- V: the reader's block; all that it holds was made behind w -/
structure RdQ (w : World) (V : Nat) (wx : World) (i : Nat) (vb vn vz : Value) (bl ns : List (List Nat)) (zs : List Int) (left : ByteArray) (er : Nat) : Prop where
  low : w.heap.size ≤ V
  ver : Blk wx V 130 (rdrC i vb vn vz left er)
  ob : OwnR wx w.heap.size 34 32 vb (rowsH bl)
  on : OwnR wx w.heap.size 9 1 vn (rowsS ns)
  oz : OwnR wx w.heap.size 3 1 vz (rowsZF zs)
  bel : Below w.heap.size w wx
/-- blocks of other types than a reader's and its slices' stay as they were -/
def KeepR (W W' : World) : Prop := W.heap.size ≤ W'.heap.size ∧ ∀ b t vs, Blk W b t vs → t ≠ 130 → t ≠ 34 → t ≠ 9 → t ≠ 3 → Blk W' b t vs
theorem KeepR.refl (W : World) : KeepR W W := ⟨Nat.le_refl _, fun _ _ _ h _ _ _ _ => h⟩
theorem KeepR.trans {W W' W'' : World} (h : KeepR W W') (h' : KeepR W' W'') : KeepR W W'' := ⟨Nat.le_trans h.1 h'.1, fun b t vs hb a1 a2 a3 a4 => h'.2 b t vs (h.2 b t vs hb a1 a2 a3 a4) a1 a2 a3 a4⟩
theorem KeepR.below {W W' : World} (h : Below W.heap.size W W') : KeepR W W' := ⟨h.size, fun b t vs hb _ _ _ _ => hb.below h hb.lt⟩
theorem KeepR.cell {W : World} {V : Nat} {vs : List Value} (h : Blk W V 130 vs) (j : Nat) (u : Value) : KeepR W (W.setCell ⟨V, j, none⟩ u) :=
  ⟨by have := (grown_setCell W ⟨V, j, none⟩ u).size; exact this, fun b t ws hb a1 _ _ _ => hb.other (a := ⟨V, j, none⟩) (fun e => by
    have e' : V = b := e
    subst e'
    unfold Blk at h hb
    rw [h] at hb
    simp at hb
    exact a1 hb.2.symm) u⟩
theorem KeepR.grown {W W' : World} {base : Nat} {e : TypeId} {k : Nat} {v : Value} {rows : List (List Value)} (h : OwnR W base e k v rows) (hg : W.grownBy W' v.ownBlock) (he : e = 34 ∨ e = 9 ∨ e = 3) : KeepR W W' :=
  ⟨hg.size, fun b t vs hb a1 a2 a3 a4 => hb.grownO hg (h.ne hb (by rcases he with rfl | rfl | rfl <;> assumption))⟩
section
variable {w wx wy : World} {V i : Nat} {vb vn vz : Value} {bl ns : List (List Nat)} {zs : List Int} {left : ByteArray} {er : Nat}
theorem RdQ.keep (h : RdQ w V wx i vb vn vz bl ns zs left er) (hb : Below wx.heap.size wx wy) : RdQ w V wy i vb vn vz bl ns zs left er :=
  ⟨h.low, h.ver.below hb h.ver.lt, h.ob.keep hb, h.on.keep hb, h.oz.keep hb, h.bel.trans (hb.mono h.bel.size)⟩
/-- a cell that is no slice is written -/
theorem RdQ.set (h : RdQ w V wx i vb vn vz bl ns zs left er) (j : Nat) (u : Value) (i' : Nat) (left' : ByteArray) (er' : Nat) (e : (rdrC i vb vn vz left er).set j u = rdrC i' vb vn vz left' er') : RdQ w V (wx.setCell ⟨V, j, none⟩ u) i' vb vn vz bl ns zs left' er' :=
  ⟨h.low, by rw [← e]; exact h.ver.set j u, h.ob.cellOther h.ver (by decide) j u, h.on.cellOther h.ver (by decide) j u, h.oz.cellOther h.ver (by decide) j u, h.bel.setCell (p := ⟨V, j, none⟩) h.low u⟩
end
/-! ### on -/
def k_nameC (w wx : World) (V X i : Nat) (vb vn vz : Value) (bl ns : List (List Nat)) (zs : List Int) (left : ByteArray) (er : Nat) (b : Bool) (W : World) : Prop :=
  Blk W V 130 (rdrC i vb vn vz left er) ∧ Blk W X 143 [.pointer (some ⟨V, 0, none⟩)] ∧ OwnR W w.heap.size 34 32 vb (rowsH bl) ∧ OwnR W w.heap.size 3 1 vz (rowsZF zs) ∧ Below w.heap.size w W ∧ KeepR wx W ∧ wx.heap.size ≤ W.heap.size ∧ (b = false → OwnR W w.heap.size 9 1 vn (rowsS ns))
theorem k_nameC_new {w wx : World} {V X : Nat} {i : Nat} {vb vn vz : Value} {bl ns : List (List Nat)} {zs : List Int} {left : ByteArray} {er : Nat} {b : Bool} {W W' : World} (h : k_nameC w wx V X i vb vn vz bl ns zs left er b W) (hb : Below W.heap.size W W') : k_nameC w wx V X i vb vn vz bl ns zs left er b W' := by
  obtain ⟨h1, h2, h3, h4, h5, h6, h7, h8⟩ := h
  exact ⟨h1.below hb h1.lt, h2.below hb h2.lt, h3.keep hb, h4.keep hb, h5.trans (hb.mono h5.size), h6.trans (.below hb), Nat.le_trans h7 hb.size, fun e => (h8 e).keep hb⟩
def k_nameS (w wx : World) (V : Nat) (v0 : Value) (rows : List (List Value)) (th : Value) (row : List Value) (i : Nat) (v : Value) (W : World) : Prop :=
  match i with
  | 0 | 1 | 2 | 3 | 9 | 10 => v = .pointer (some ⟨V, 0, none⟩)
  | 4 | 11 => v = .pointer (some ⟨V, 2, none⟩)
  | 5 => v = v0
  | 6 => v = th
  | 7 => ∃ y, wx.heap.size ≤ y ∧ v = .slice (some ⟨y, 0, none⟩) 1 1 ∧ Blk W y 9 row
  | 8 => OwnR W w.heap.size 9 1 v (rows ++ [row])
  | _ => True
def k_nameK (v0 : Value) (b : Bool) (W W' : World) : Prop := W.grownBy W' (match b with | true => none | false => v0.ownBlock)
theorem k_nameS_mono {w wx : World} {V : Nat} {v0 : Value} {rows : List (List Value)} {th : Value} {row : List Value} (hlo : ∀ b, v0.ownBlock = some b → b < wx.heap.size) (b : Bool) (i : Nat) (v : Value) (W W' : World) (hb : i = 8 → b = true) (h : k_nameS w wx V v0 rows th row i v W) (hk : k_nameK v0 b W W') : k_nameS w wx V v0 rows th row i v W' := by
  match i with
  | 0 | 1 | 2 | 3 | 4 | 5 | 6 | 9 | 10 | 11 => exact h
  | 7 =>
    obtain ⟨y, h1, h2, h3⟩ := h
    refine ⟨y, h1, h2, h3.grownO hk fun i hi e => ?_⟩
    subst e
    cases b
    · have := hlo i hi
      omega
    · cases hi
  | 8 =>
    obtain rfl := hb rfl
    exact OwnR.grownO h hk (fun _ _ e => by cases e)
  | _ + 12 => trivial
theorem k_nameK_new {v0 : Value} {b : Bool} {W W' : World} (hb : Below W.heap.size W W') : k_nameK v0 b W W' := (grown_below hb).but _
set_option maxRecDepth 100000 in
set_option maxHeartbeats 2000000 in
theorem k_name {w wx : World} {V X : Nat} {i : Nat} {vb vn vz : Value} {bl ns : List (List Nat)} {zs : List Int} {left : ByteArray} {er : Nat} (h : RdQ w V wx i vb vn vz bl ns zs left er) (hX : Blk wx X 143 [.pointer (some ⟨V, 0, none⟩)]) (t : List Nat) (hl : ns.length ≤ 1000000) :
    Calls Try.prog 103 #[.string (tx t), .pointer (some ⟨X, 0, none⟩)] wx fun e w' => e = .returned (.tuple #[]) ∧ (∃ v', RdQ w V w' i vb v' vz bl (ns ++ [t]) zs left er) ∧ KeepR wx w' := by
  obtain ⟨i0, hi0, hz0, hz1, hz2⟩ := info_parts2 info_str
  have hlo := h.on.lt
  have HLO := Lib.hid hlo
  have HL := Lib.hid hl
  have HNL : Hid ((rowsS ns).length = ns.length) := Lib.hid (rowsS_len ns)
  have HSN : Hid (rowsS (ns ++ [t]) = rowsS ns ++ [[Value.string (tx t)]]) := Lib.hid (rowsS_snoc ns t)
  obtain ⟨pa, ca, hv⟩ := h.on.isSlice
  have HV := Lib.hid hv
  have hone : ∀ r ∈ [[Value.string (tx t)]], ∀ z ∈ (r : List Value), z.oneCell' = true := by
    intro r hr z hz
    rw [List.mem_singleton.1 hr] at hz
    rw [List.mem_singleton.1 hz]
    rfl
  have HONE := Lib.hid hone
  have HC0 : Hid (k_nameC w wx V X i vb vn vz bl ns zs left er false wx.drew) := Lib.hid ⟨h.ver.drew, hX.drew, h.ob, h.oz, h.bel.drew, .below ((Below.refl _ _).drew), Nat.le_refl _, fun _ => h.on⟩
  have HLOW := Lib.hid h.low
  clear h hX hl hlo hv hone
  generalize tx t = Z at *
  go_enter Try.func103, Try.ntmps103
  go_wp2_with fail
  refine region_mix 8 12 (by decide) mixed (by kernel_rfl) (by kernel_rfl) (fun u => #[_, _, _, u 0, u 1, u 2, u 3, u 4, u 5, u 6, u 7, u 8, u 9, u 10, u 11]) [] (fun i => undef) rfl
    (k_nameC w wx V X i vb vn vz bl ns zs left er) HC0.out (k_nameK vn) (k_nameS w wx V vn (rowsS ns) (.string Z) ([Value.string Z])) ?mono ?step ?one ?last
  case mono => exact k_nameS_mono (fun b e => (HLO.out b e).2)
  case step =>
    intro bb u W j o hj hjk _ ho hC hd
    have hr : k_nameK vn bb W W := by cases bb <;> exact ⟨rfl, rfl, rfl, Nat.le_refl _, fun _ _ _ => rfl⟩
    rcases j with _ | _ | _ | _ | _ | _ | _ | _ | _ | _ | _ | _ | j
    all_goals try (simp only [List.getElem?_cons_zero, List.getElem?_cons_succ, Option.some.injEq] at ho; subst ho)
    · have c2 := hC.2.1.cell 0
      simp only [List.getElem?_cons_zero] at c2
      go_wp2_with fail
      exact ⟨_, rfl, rfl, hC, hr⟩
    · have c2 := hC.2.1.cell 0
      simp only [List.getElem?_cons_zero] at c2
      go_wp2_with fail
      exact ⟨_, rfl, rfl, hC, hr⟩
    · have h1 : u 1 = .pointer (some ⟨V, 0, none⟩) := hd ⟨1, .data⟩ (by simp) rfl
      rw [h1]
      go_wp2_with fail
      exact ⟨_, by simp [upd, h1], rfl, hC, hr⟩
    · have h1 : u 2 = .pointer (some ⟨V, 0, none⟩) := hd ⟨2, .data⟩ (by simp) rfl
      rw [h1]
      go_wp2_with fail
      exact ⟨_, by simp [upd, h1], rfl, hC, hr⟩
    · have h1 : u 3 = .pointer (some ⟨V, 0, none⟩) := hd ⟨3, .data⟩ (by simp) rfl
      rw [h1]
      go_wp2_with fail
      exact ⟨_, by simp [upd, h1], rfl, hC, hr⟩
    · have h1 : u 4 = .pointer (some ⟨V, 2, none⟩) := hd ⟨4, .data⟩ (by simp) rfl
      have c2 := hC.1.cell 2
      simp only [rdrC, List.getElem?_cons_zero, List.getElem?_cons_succ] at c2
      rw [HV.out] at c2
      rw [h1]
      go_wp2_with fail
      exact ⟨_, by simp [upd, h1], HV.out.symm, hC, hr⟩
    · go_wp2_with fail
      exact ⟨_, rfl, rfl, hC, hr⟩
    · have h1 : u 6 = .string Z := hd ⟨6, .data⟩ (by simp) rfl
      have hz := hC.2.2.2.2.2.2.1
      have hb := (Below.refl W.heap.size W).alloc (Nat.le_refl _) (.cells #[Value.string Z] 9)
      have HC := Lib.hid (k_nameC_new hC hb)
      have HK : Hid (k_nameK vn bb W (W.alloc (.cells #[Value.string Z] 9))) := Lib.hid (k_nameK_new hb)
      clear hC hb
      rw [h1]
      go_wp2_with fail
      exact ⟨_, by first | (simp [upd, h1]; done) | (simp [upd, h1]; rfl), ⟨W.heap.size, hz, rfl, Blk.new' W _ _ rfl⟩, HC.out, HK.out⟩
    · omega
    · have h1 : u 0 = .pointer (some ⟨V, 0, none⟩) := hd ⟨0, .data⟩ (by simp) rfl
      rw [h1]
      go_wp2_with fail
      exact ⟨_, by simp [upd, h1], rfl, hC, hr⟩
    · have h1 : u 9 = .pointer (some ⟨V, 0, none⟩) := hd ⟨9, .data⟩ (by simp) rfl
      rw [h1]
      go_wp2_with fail
      exact ⟨_, by simp [upd, h1], rfl, hC, hr⟩
    · have h1 : u 10 = .pointer (some ⟨V, 0, none⟩) := hd ⟨10, .data⟩ (by simp) rfl
      rw [h1]
      go_wp2_with fail
      exact ⟨_, by simp [upd, h1], rfl, hC, hr⟩
    · omega
  case one =>
    intro u W o ho hC hd
    simp only [List.getElem?_cons_zero, List.getElem?_cons_succ, Option.some.injEq] at ho
    subst ho
    have h4 : u 5 = vn := hd ⟨5, .data⟩ (by simp) rfl
    obtain ⟨y, hy, h8, hY8⟩ : ∃ y, wx.heap.size ≤ y ∧ u 7 = .slice (some ⟨y, 0, none⟩) 1 1 ∧ Blk W y 9 ([Value.string Z]) := hd ⟨7, .data⟩ (by simp) rfl
    obtain ⟨g1, g2, g3, g4, g5, g6, g7, g8⟩ := hC
    have hO := g8 rfl
    have hnw := sl_one hY8
    have hlen : (rowsS ns).length + [[Value.string Z]].length ≤ maxLen := by rw [HNL.out, List.length_singleton]; have := HL.out; unfold maxLen; omega
    have hby : ((rowsS ns).length + [[Value.string Z]].length) * 16 ≤ 140737488355328 := by rw [HNL.out, List.length_singleton]; have := HL.out; omega
    have hbase : w.heap.size ≤ W.heap.size := g5.size
    have hfin : ∀ v' w5, OwnR w5 w.heap.size 9 1 v' (rowsS ns ++ [[Value.string Z]]) → W.grownBy w5 vn.ownBlock → (k_nameC w wx V X i vb vn vz bl ns zs left er true w5 ∧ k_nameK vn false W w5) := fun v' w5 q1 q2 =>
      ⟨⟨g1.grownO q2 (hO.ne g1 (by decide)), g2.grownO q2 (hO.ne g2 (by decide)), g3.grownO q2 (g3.apart hO (by decide)), g4.grownO q2 (g4.apart hO (by decide)), g5.grown q2 hbase (fun i e => (hO.lt i e).1), g6.trans (.grown hO q2 (by decide)), Nat.le_trans g7 q2.size, fun e => (by cases e)⟩, q2⟩
    have HFIN := Lib.hid hfin
    have HO := Lib.hid hO
    have HNW := Lib.hid hnw
    have HLEN := Lib.hid hlen
    have HBY := Lib.hid hby
    have HBA := Lib.hid hbase
    clear hO hnw hlen hby hbase hY8 g1 g2 g3 g4 g5 g6 g7 g8 hd hfin
    rw [h4, h8]
    go_wp2_with (first | (refine wpList_append_rows rfl _ _ 27 rfl w.heap.size 9 i0 (.string ⟨#[]⟩) 1 16 Try.underlying27 hi0 hz0 hz1 hz2 (by decide) (by decide) vn (rowsS ns) rfl HO.out (.slice (some ⟨y, 0, none⟩) 1 1) [[Value.string Z]] rfl HNW.out HONE.out HLEN.out HBY.out HBA.out (.inr ⟨_, _, _, rfl⟩) ?_; intro v' w5 ho5 hg5 hv5))
    obtain ⟨q1, q2⟩ := HFIN.out v' w5 ho5 hg5
    exact ⟨v', by simp [upd, h4, h8]; rfl, ho5, q1, q2⟩
  case last =>
    intro u W o ho hC hS
    simp only [List.getElem?_cons_zero, List.getElem?_cons_succ, Option.some.injEq] at ho
    subst ho
    have h9 : OwnR W w.heap.size 9 1 (u 8) (rowsS ns ++ [[Value.string Z]]) := hS 8 (by decide)
    have h11 : u 11 = .pointer (some ⟨V, 2, none⟩) := hS 11 (by decide)
    clear hS
    obtain ⟨v5, hv5⟩ : ∃ v5, u 8 = v5 := ⟨_, rfl⟩
    rw [hv5] at h9 ⊢
    obtain ⟨A5, cap5, he5⟩ := h9.isSlice
    obtain ⟨n5, hn5⟩ : ∃ n, (rowsS ns ++ [[Value.string Z]]).length = n := ⟨_, rfl⟩
    rw [hn5] at he5
    have c2 := hC.1.cell 2
    have f2 := hC.1.free 2
    simp only [rdrC, List.getElem?_cons_zero, List.getElem?_cons_succ] at c2
    have HCC := Lib.hid hC
    have H9 := Lib.hid h9
    clear hC h9 hn5
    subst he5
    rw [h11]
    go_wp2_with fail
    go_end0
    obtain ⟨g1, g2, g3, g4, g5, g6, g7, g8⟩ := HCC.out
    have H10 := H9.out
    rw [← HSN.out] at H10
    exact ⟨rfl, ⟨_, HLOW.out, g1.set 2 _, g3.cellOther g1 (by decide) 2 _, H10.cellOther g1 (by decide) 2 _, g4.cellOther g1 (by decide) 2 _, g5.setCell (p := ⟨V, 2, none⟩) HLOW.out _⟩, g6.trans (.cell g1 2 _)⟩
/-! ### oz -/
def k_sizeC (w wx : World) (V X i : Nat) (vb vn vz : Value) (bl ns : List (List Nat)) (zs : List Int) (left : ByteArray) (er : Nat) (b : Bool) (W : World) : Prop :=
  Blk W V 130 (rdrC i vb vn vz left er) ∧ Blk W X 143 [.pointer (some ⟨V, 0, none⟩)] ∧ OwnR W w.heap.size 34 32 vb (rowsH bl) ∧ OwnR W w.heap.size 9 1 vn (rowsS ns) ∧ Below w.heap.size w W ∧ KeepR wx W ∧ wx.heap.size ≤ W.heap.size ∧ (b = false → OwnR W w.heap.size 3 1 vz (rowsZF zs))
theorem k_sizeC_new {w wx : World} {V X : Nat} {i : Nat} {vb vn vz : Value} {bl ns : List (List Nat)} {zs : List Int} {left : ByteArray} {er : Nat} {b : Bool} {W W' : World} (h : k_sizeC w wx V X i vb vn vz bl ns zs left er b W) (hb : Below W.heap.size W W') : k_sizeC w wx V X i vb vn vz bl ns zs left er b W' := by
  obtain ⟨h1, h2, h3, h4, h5, h6, h7, h8⟩ := h
  exact ⟨h1.below hb h1.lt, h2.below hb h2.lt, h3.keep hb, h4.keep hb, h5.trans (hb.mono h5.size), h6.trans (.below hb), Nat.le_trans h7 hb.size, fun e => (h8 e).keep hb⟩
def k_sizeS (w wx : World) (V : Nat) (v0 : Value) (rows : List (List Value)) (th : Value) (row : List Value) (i : Nat) (v : Value) (W : World) : Prop :=
  match i with
  | 0 | 1 | 2 | 3 | 9 | 10 => v = .pointer (some ⟨V, 0, none⟩)
  | 4 | 11 => v = .pointer (some ⟨V, 3, none⟩)
  | 5 => v = v0
  | 6 => v = th
  | 7 => ∃ y, wx.heap.size ≤ y ∧ v = .slice (some ⟨y, 0, none⟩) 1 1 ∧ Blk W y 3 row
  | 8 => OwnR W w.heap.size 3 1 v (rows ++ [row])
  | _ => True
def k_sizeK (v0 : Value) (b : Bool) (W W' : World) : Prop := W.grownBy W' (match b with | true => none | false => v0.ownBlock)
theorem k_sizeS_mono {w wx : World} {V : Nat} {v0 : Value} {rows : List (List Value)} {th : Value} {row : List Value} (hlo : ∀ b, v0.ownBlock = some b → b < wx.heap.size) (b : Bool) (i : Nat) (v : Value) (W W' : World) (hb : i = 8 → b = true) (h : k_sizeS w wx V v0 rows th row i v W) (hk : k_sizeK v0 b W W') : k_sizeS w wx V v0 rows th row i v W' := by
  match i with
  | 0 | 1 | 2 | 3 | 4 | 5 | 6 | 9 | 10 | 11 => exact h
  | 7 =>
    obtain ⟨y, h1, h2, h3⟩ := h
    refine ⟨y, h1, h2, h3.grownO hk fun i hi e => ?_⟩
    subst e
    cases b
    · have := hlo i hi
      omega
    · cases hi
  | 8 =>
    obtain rfl := hb rfl
    exact OwnR.grownO h hk (fun _ _ e => by cases e)
  | _ + 12 => trivial
theorem k_sizeK_new {v0 : Value} {b : Bool} {W W' : World} (hb : Below W.heap.size W W') : k_sizeK v0 b W W' := (grown_below hb).but _
set_option maxRecDepth 100000 in
set_option maxHeartbeats 2000000 in
theorem k_size {w wx : World} {V X : Nat} {i : Nat} {vb vn vz : Value} {bl ns : List (List Nat)} {zs : List Int} {left : ByteArray} {er : Nat} (h : RdQ w V wx i vb vn vz bl ns zs left er) (hX : Blk wx X 143 [.pointer (some ⟨V, 0, none⟩)]) (t : Int) (hl : zs.length ≤ 1000000) :
    Calls Try.prog 104 #[.int .i64 t, .pointer (some ⟨X, 0, none⟩)] wx fun e w' => e = .returned (.tuple #[]) ∧ (∃ v', RdQ w V w' i vb vn v' bl ns (zs ++ [t]) left er) ∧ KeepR wx w' := by
  obtain ⟨i0, hi0, hz0, hz1, hz2⟩ := info_parts2 info_intK
  have hlo := h.oz.lt
  have HLO := Lib.hid hlo
  have HL := Lib.hid hl
  have HNL : Hid ((rowsZF zs).length = zs.length) := Lib.hid (rowsZF_len zs)
  have HSN : Hid (rowsZF (zs ++ [t]) = rowsZF zs ++ [[Value.int .i64 t]]) := Lib.hid (rowsZ_snoc zs t)
  obtain ⟨pa, ca, hv⟩ := h.oz.isSlice
  have HV := Lib.hid hv
  have hone : ∀ r ∈ [[Value.int .i64 t]], ∀ z ∈ (r : List Value), z.oneCell' = true := by
    intro r hr z hz
    rw [List.mem_singleton.1 hr] at hz
    rw [List.mem_singleton.1 hz]
    rfl
  have HONE := Lib.hid hone
  have HC0 : Hid (k_sizeC w wx V X i vb vn vz bl ns zs left er false wx.drew) := Lib.hid ⟨h.ver.drew, hX.drew, h.ob, h.on, h.bel.drew, .below ((Below.refl _ _).drew), Nat.le_refl _, fun _ => h.oz⟩
  have HLOW := Lib.hid h.low
  clear h hX hl hlo hv hone
  go_enter Try.func104, Try.ntmps104
  go_wp2_with fail
  refine region_mix 8 12 (by decide) mixed (by kernel_rfl) (by kernel_rfl) (fun u => #[_, _, _, u 0, u 1, u 2, u 3, u 4, u 5, u 6, u 7, u 8, u 9, u 10, u 11]) [] (fun i => undef) rfl
    (k_sizeC w wx V X i vb vn vz bl ns zs left er) HC0.out (k_sizeK vz) (k_sizeS w wx V vz (rowsZF zs) (.int .i64 t) ([Value.int .i64 t])) ?mono ?step ?one ?last
  case mono => exact k_sizeS_mono (fun b e => (HLO.out b e).2)
  case step =>
    intro bb u W j o hj hjk _ ho hC hd
    have hr : k_sizeK vz bb W W := by cases bb <;> exact ⟨rfl, rfl, rfl, Nat.le_refl _, fun _ _ _ => rfl⟩
    rcases j with _ | _ | _ | _ | _ | _ | _ | _ | _ | _ | _ | _ | j
    all_goals try (simp only [List.getElem?_cons_zero, List.getElem?_cons_succ, Option.some.injEq] at ho; subst ho)
    · have c2 := hC.2.1.cell 0
      simp only [List.getElem?_cons_zero] at c2
      go_wp2_with fail
      exact ⟨_, rfl, rfl, hC, hr⟩
    · have c2 := hC.2.1.cell 0
      simp only [List.getElem?_cons_zero] at c2
      go_wp2_with fail
      exact ⟨_, rfl, rfl, hC, hr⟩
    · have h1 : u 1 = .pointer (some ⟨V, 0, none⟩) := hd ⟨1, .data⟩ (by simp) rfl
      rw [h1]
      go_wp2_with fail
      exact ⟨_, by simp [upd, h1], rfl, hC, hr⟩
    · have h1 : u 2 = .pointer (some ⟨V, 0, none⟩) := hd ⟨2, .data⟩ (by simp) rfl
      rw [h1]
      go_wp2_with fail
      exact ⟨_, by simp [upd, h1], rfl, hC, hr⟩
    · have h1 : u 3 = .pointer (some ⟨V, 0, none⟩) := hd ⟨3, .data⟩ (by simp) rfl
      rw [h1]
      go_wp2_with fail
      exact ⟨_, by simp [upd, h1], rfl, hC, hr⟩
    · have h1 : u 4 = .pointer (some ⟨V, 3, none⟩) := hd ⟨4, .data⟩ (by simp) rfl
      have c2 := hC.1.cell 3
      simp only [rdrC, List.getElem?_cons_zero, List.getElem?_cons_succ] at c2
      rw [HV.out] at c2
      rw [h1]
      go_wp2_with fail
      exact ⟨_, by simp [upd, h1], HV.out.symm, hC, hr⟩
    · go_wp2_with fail
      exact ⟨_, rfl, rfl, hC, hr⟩
    · have h1 : u 6 = .int .i64 t := hd ⟨6, .data⟩ (by simp) rfl
      have hz := hC.2.2.2.2.2.2.1
      have hb := (Below.refl W.heap.size W).alloc (Nat.le_refl _) (.cells #[Value.int .i64 t] 3)
      have HC := Lib.hid (k_sizeC_new hC hb)
      have HK : Hid (k_sizeK vz bb W (W.alloc (.cells #[Value.int .i64 t] 3))) := Lib.hid (k_sizeK_new hb)
      clear hC hb
      rw [h1]
      go_wp2_with fail
      exact ⟨_, by first | (simp [upd, h1]; done) | (simp [upd, h1]; rfl), ⟨W.heap.size, hz, rfl, Blk.new' W _ _ rfl⟩, HC.out, HK.out⟩
    · omega
    · have h1 : u 0 = .pointer (some ⟨V, 0, none⟩) := hd ⟨0, .data⟩ (by simp) rfl
      rw [h1]
      go_wp2_with fail
      exact ⟨_, by simp [upd, h1], rfl, hC, hr⟩
    · have h1 : u 9 = .pointer (some ⟨V, 0, none⟩) := hd ⟨9, .data⟩ (by simp) rfl
      rw [h1]
      go_wp2_with fail
      exact ⟨_, by simp [upd, h1], rfl, hC, hr⟩
    · have h1 : u 10 = .pointer (some ⟨V, 0, none⟩) := hd ⟨10, .data⟩ (by simp) rfl
      rw [h1]
      go_wp2_with fail
      exact ⟨_, by simp [upd, h1], rfl, hC, hr⟩
    · omega
  case one =>
    intro u W o ho hC hd
    simp only [List.getElem?_cons_zero, List.getElem?_cons_succ, Option.some.injEq] at ho
    subst ho
    have h4 : u 5 = vz := hd ⟨5, .data⟩ (by simp) rfl
    obtain ⟨y, hy, h8, hY8⟩ : ∃ y, wx.heap.size ≤ y ∧ u 7 = .slice (some ⟨y, 0, none⟩) 1 1 ∧ Blk W y 3 ([Value.int .i64 t]) := hd ⟨7, .data⟩ (by simp) rfl
    obtain ⟨g1, g2, g3, g4, g5, g6, g7, g8⟩ := hC
    have hO := g8 rfl
    have hnw := sl_one hY8
    have hlen : (rowsZF zs).length + [[Value.int .i64 t]].length ≤ maxLen := by rw [HNL.out, List.length_singleton]; have := HL.out; unfold maxLen; omega
    have hby : ((rowsZF zs).length + [[Value.int .i64 t]].length) * 8 ≤ 140737488355328 := by rw [HNL.out, List.length_singleton]; have := HL.out; omega
    have hbase : w.heap.size ≤ W.heap.size := g5.size
    have hfin : ∀ v' w5, OwnR w5 w.heap.size 3 1 v' (rowsZF zs ++ [[Value.int .i64 t]]) → W.grownBy w5 vz.ownBlock → (k_sizeC w wx V X i vb vn vz bl ns zs left er true w5 ∧ k_sizeK vz false W w5) := fun v' w5 q1 q2 =>
      ⟨⟨g1.grownO q2 (hO.ne g1 (by decide)), g2.grownO q2 (hO.ne g2 (by decide)), g3.grownO q2 (g3.apart hO (by decide)), g4.grownO q2 (g4.apart hO (by decide)), g5.grown q2 hbase (fun i e => (hO.lt i e).1), g6.trans (.grown hO q2 (by decide)), Nat.le_trans g7 q2.size, fun e => (by cases e)⟩, q2⟩
    have HFIN := Lib.hid hfin
    have HO := Lib.hid hO
    have HNW := Lib.hid hnw
    have HLEN := Lib.hid hlen
    have HBY := Lib.hid hby
    have HBA := Lib.hid hbase
    clear hO hnw hlen hby hbase hY8 g1 g2 g3 g4 g5 g6 g7 g8 hd hfin
    rw [h4, h8]
    go_wp2_with (first | (refine wpList_append_rows rfl _ _ 28 rfl w.heap.size 3 i0 (.int .i64 0) 1 8 Try.underlying28 hi0 hz0 hz1 hz2 (by decide) (by decide) vz (rowsZF zs) rfl HO.out (.slice (some ⟨y, 0, none⟩) 1 1) [[Value.int .i64 t]] rfl HNW.out HONE.out HLEN.out HBY.out HBA.out (.inr ⟨_, _, _, rfl⟩) ?_; intro v' w5 ho5 hg5 hv5))
    obtain ⟨q1, q2⟩ := HFIN.out v' w5 ho5 hg5
    exact ⟨v', by simp [upd, h4, h8]; rfl, ho5, q1, q2⟩
  case last =>
    intro u W o ho hC hS
    simp only [List.getElem?_cons_zero, List.getElem?_cons_succ, Option.some.injEq] at ho
    subst ho
    have h9 : OwnR W w.heap.size 3 1 (u 8) (rowsZF zs ++ [[Value.int .i64 t]]) := hS 8 (by decide)
    have h11 : u 11 = .pointer (some ⟨V, 3, none⟩) := hS 11 (by decide)
    clear hS
    obtain ⟨v5, hv5⟩ : ∃ v5, u 8 = v5 := ⟨_, rfl⟩
    rw [hv5] at h9 ⊢
    obtain ⟨A5, cap5, he5⟩ := h9.isSlice
    obtain ⟨n5, hn5⟩ : ∃ n, (rowsZF zs ++ [[Value.int .i64 t]]).length = n := ⟨_, rfl⟩
    rw [hn5] at he5
    have c2 := hC.1.cell 3
    have f2 := hC.1.free 3
    simp only [rdrC, List.getElem?_cons_zero, List.getElem?_cons_succ] at c2
    have HCC := Lib.hid hC
    have H9 := Lib.hid h9
    clear hC h9 hn5
    subst he5
    rw [h11]
    go_wp2_with fail
    go_end0
    obtain ⟨g1, g2, g3, g4, g5, g6, g7, g8⟩ := HCC.out
    have H10 := H9.out
    rw [← HSN.out] at H10
    exact ⟨rfl, ⟨_, HLOW.out, g1.set 3 _, g3.cellOther g1 (by decide) 3 _, g4.cellOther g1 (by decide) 3 _, H10.cellOther g1 (by decide) 3 _, g5.setCell (p := ⟨V, 3, none⟩) HLOW.out _⟩, g6.trans (.cell g1 3 _)⟩
/-! ### ob -/
def k_blockC (w wx : World) (V X i : Nat) (vb vn vz : Value) (bl ns : List (List Nat)) (zs : List Int) (left : ByteArray) (er : Nat) (t : List Nat) (Y : Nat) (b : Bool) (W : World) : Prop :=
  Blk W V 130 (rdrC i vb vn vz left er) ∧ Blk W X 143 [.pointer (some ⟨V, 0, none⟩)] ∧ OwnR W w.heap.size 9 1 vn (rowsS ns) ∧ OwnR W w.heap.size 3 1 vz (rowsZF zs) ∧ Below w.heap.size w W ∧ KeepR wx W ∧ wx.heap.size ≤ W.heap.size ∧ (b = false → OwnR W w.heap.size 34 32 vb (rowsH bl)) ∧ Blk W Y 34 (rowH t)
theorem k_blockC_new {w wx : World} {V X : Nat} {i : Nat} {vb vn vz : Value} {bl ns : List (List Nat)} {zs : List Int} {left : ByteArray} {er : Nat} {t : List Nat} {Y : Nat} {b : Bool} {W W' : World} (h : k_blockC w wx V X i vb vn vz bl ns zs left er t Y b W) (hb : Below W.heap.size W W') : k_blockC w wx V X i vb vn vz bl ns zs left er t Y b W' := by
  obtain ⟨h1, h2, h3, h4, h5, h6, h7, h8, h9⟩ := h
  exact ⟨h1.below hb h1.lt, h2.below hb h2.lt, h3.keep hb, h4.keep hb, h5.trans (hb.mono h5.size), h6.trans (.below hb), Nat.le_trans h7 hb.size, fun e => (h8 e).keep hb, h9.below hb h9.lt⟩
def k_blockS (w wx : World) (V : Nat) (v0 : Value) (rows : List (List Value)) (th : Value) (row : List Value) (i : Nat) (v : Value) (W : World) : Prop :=
  match i with
  | 0 | 1 | 2 | 3 | 9 | 10 => v = .pointer (some ⟨V, 0, none⟩)
  | 4 | 11 => v = .pointer (some ⟨V, 1, none⟩)
  | 5 => v = v0
  | 6 => v = th
  | 7 => ∃ y, wx.heap.size ≤ y ∧ v = .slice (some ⟨y, 0, none⟩) 1 1 ∧ Blk W y 34 row
  | 8 => OwnR W w.heap.size 34 32 v (rows ++ [row])
  | _ => True
def k_blockK (v0 : Value) (b : Bool) (W W' : World) : Prop := W.grownBy W' (match b with | true => none | false => v0.ownBlock)
theorem k_blockS_mono {w wx : World} {V : Nat} {v0 : Value} {rows : List (List Value)} {th : Value} {row : List Value} (hlo : ∀ b, v0.ownBlock = some b → b < wx.heap.size) (b : Bool) (i : Nat) (v : Value) (W W' : World) (hb : i = 8 → b = true) (h : k_blockS w wx V v0 rows th row i v W) (hk : k_blockK v0 b W W') : k_blockS w wx V v0 rows th row i v W' := by
  match i with
  | 0 | 1 | 2 | 3 | 4 | 5 | 6 | 9 | 10 | 11 => exact h
  | 7 =>
    obtain ⟨y, h1, h2, h3⟩ := h
    refine ⟨y, h1, h2, h3.grownO hk fun i hi e => ?_⟩
    subst e
    cases b
    · have := hlo i hi
      omega
    · cases hi
  | 8 =>
    obtain rfl := hb rfl
    exact OwnR.grownO h hk (fun _ _ e => by cases e)
  | _ + 12 => trivial
theorem k_blockK_new {v0 : Value} {b : Bool} {W W' : World} (hb : Below W.heap.size W W') : k_blockK v0 b W W' := (grown_below hb).but _
set_option maxRecDepth 100000 in
set_option maxHeartbeats 2000000 in
theorem k_block {w wx : World} {V X : Nat} {i : Nat} {vb vn vz : Value} {bl ns : List (List Nat)} {zs : List Int} {left : ByteArray} {er : Nat} (h : RdQ w V wx i vb vn vz bl ns zs left er) (hX : Blk wx X 143 [.pointer (some ⟨V, 0, none⟩)]) (t : List Nat) (ht : t.length = 32) (hl : bl.length ≤ 1000000) :
    Calls Try.prog 101 #[.agg (rowH t).toArray, .pointer (some ⟨X, 0, none⟩)] wx fun e w' => e = .returned (.tuple #[]) ∧ (∃ v', RdQ w V w' i v' vn vz (bl ++ [t]) ns zs left er) ∧ KeepR wx w' := by
  obtain ⟨i0, hi0, hz0, hz1, hz2⟩ := info_parts2 info_hash
  have hlo := h.ob.lt
  have HLO := Lib.hid hlo
  have HL := Lib.hid hl
  have HNL : Hid ((rowsH bl).length = bl.length) := Lib.hid (rowsH_len bl)
  have HSN : Hid (rowsH (bl ++ [t]) = rowsH bl ++ [rowH t]) := Lib.hid (rowsH_snoc bl t)
  obtain ⟨pa, ca, hv⟩ := h.ob.isSlice
  have HV := Lib.hid hv
  obtain ⟨Y, hY⟩ : ∃ Y, wx.heap.size = Y := ⟨_, rfl⟩
  have kY := Blk.newAt wx Y hY 34 (c := (rowH t).toArray) (rowH t) rfl
  have hb0 := (Below.refl wx.heap.size wx).alloc (Nat.le_refl _) (.cells (rowH t).toArray 34)
  have h0 := h.keep hb0
  have hX0 := hX.below hb0 hX.lt
  have hK0 : KeepR wx (wx.alloc (.cells (rowH t).toArray 34)) := .below hb0
  obtain ⟨W0, hW0⟩ : ∃ W0, wx.alloc (.cells (rowH t).toArray 34) = W0 := ⟨_, rfl⟩
  rw [hW0] at kY hb0 h0 hX0 hK0
  have hrl := rowH_len ht
  obtain ⟨R, hR⟩ : ∃ R, rowH t = R := ⟨_, rfl⟩
  have hR1 : R.toArray.all (·.oneCell') = true := by rw [← hR]; exact rowH_one t
  have hone : ∀ r ∈ [R], ∀ z ∈ r, z.oneCell' = true := by
    intro r hr z hz
    rw [List.mem_singleton.1 hr, ← hR] at hz
    simp only [rowH, ints, List.mem_map] at hz
    obtain ⟨n, _, rfl⟩ := hz
    rfl
  have HYL := Lib.hid (show ∀ b, vb.ownBlock = some b → b ≠ Y from fun b hb e => by have := (h.ob.lt b hb).2; omega)
  rw [hR] at hrl
  have HRL := Lib.hid hrl
  have HONE := Lib.hid hone
  have HH := Lib.hid h0
  have HXX := Lib.hid hX0
  have HKY := Lib.hid kY
  have HK0 := Lib.hid hK0
  have HC0 : Hid (k_blockC w wx V X i vb vn vz bl ns zs left er t Y false W0.drew) := Lib.hid ⟨h0.ver.drew, hX0.drew, h0.on, h0.oz, h0.bel.drew, hK0.trans (.below ((Below.refl _ _).drew)), hb0.size, fun _ => h0.ob, kY.drew⟩
  have hWE : wx.alloc (.cells R.toArray 34) = W0 := by rw [← hR]; exact hW0
  clear h hX hl hlo hv h0 hX0 kY hK0 hb0 hone hrl hW0
  rw [hR]
  go_enter Try.func101, Try.ntmps101
  go_wp2_with fail
  refine region_mix 8 12 (by decide) mixed (by kernel_rfl) (by kernel_rfl) (fun u => #[_, _, _, u 0, u 1, u 2, u 3, u 4, u 5, u 6, u 7, u 8, u 9, u 10, u 11]) [] (fun i => undef) rfl
    (k_blockC w wx V X i vb vn vz bl ns zs left er t Y) HC0.out (k_blockK vb) (k_blockS w wx V vb (rowsH bl) (.agg R.toArray) (R)) ?mono ?step ?one ?last
  case mono => exact k_blockS_mono (fun b e => (HLO.out b e).2)
  case step =>
    intro bb u W j o hj hjk _ ho hC hd
    have hr : k_blockK vb bb W W := by cases bb <;> exact ⟨rfl, rfl, rfl, Nat.le_refl _, fun _ _ _ => rfl⟩
    rcases j with _ | _ | _ | _ | _ | _ | _ | _ | _ | _ | _ | _ | j
    all_goals try (simp only [List.getElem?_cons_zero, List.getElem?_cons_succ, Option.some.injEq] at ho; subst ho)
    · have c2 := hC.2.1.cell 0
      simp only [List.getElem?_cons_zero] at c2
      go_wp2_with fail
      exact ⟨_, rfl, rfl, hC, hr⟩
    · have c2 := hC.2.1.cell 0
      simp only [List.getElem?_cons_zero] at c2
      go_wp2_with fail
      exact ⟨_, rfl, rfl, hC, hr⟩
    · have h1 : u 1 = .pointer (some ⟨V, 0, none⟩) := hd ⟨1, .data⟩ (by simp) rfl
      rw [h1]
      go_wp2_with fail
      exact ⟨_, by simp [upd, h1], rfl, hC, hr⟩
    · have h1 : u 2 = .pointer (some ⟨V, 0, none⟩) := hd ⟨2, .data⟩ (by simp) rfl
      rw [h1]
      go_wp2_with fail
      exact ⟨_, by simp [upd, h1], rfl, hC, hr⟩
    · have h1 : u 3 = .pointer (some ⟨V, 0, none⟩) := hd ⟨3, .data⟩ (by simp) rfl
      rw [h1]
      go_wp2_with fail
      exact ⟨_, by simp [upd, h1], rfl, hC, hr⟩
    · have h1 : u 4 = .pointer (some ⟨V, 1, none⟩) := hd ⟨4, .data⟩ (by simp) rfl
      have c2 := hC.1.cell 1
      simp only [rdrC, List.getElem?_cons_zero, List.getElem?_cons_succ] at c2
      rw [HV.out] at c2
      rw [h1]
      go_wp2_with fail
      exact ⟨_, by simp [upd, h1], HV.out.symm, hC, hr⟩
    · have HCW := Lib.hid (hC.2.2.2.2.2.2.2.2)
      rw [hR] at HCW
      go_wp2_with (refine wpList_load_blk rfl 34 _ rfl Y rfl HCW.out Try.underlying34 rfl (by rw [size_hashV, HRL.out]) ?_)
      exact ⟨_, rfl, rfl, hC, hr⟩
    · have h1 : u 6 = .agg R.toArray := hd ⟨6, .data⟩ (by simp) rfl
      have hz := hC.2.2.2.2.2.2.1
      have hb := (Below.refl W.heap.size W).alloc (Nat.le_refl _) (.cells R.toArray 34)
      have HC := Lib.hid (k_blockC_new hC hb)
      have HK : Hid (k_blockK vb bb W (W.alloc (.cells R.toArray 34))) := Lib.hid (k_blockK_new hb)
      clear hC hb
      rw [h1]
      go_wp2_with (refine wpList_buildRow rfl 26 34 _ rfl R i0 (.agg (ints .u8 (nn (zerN 32))).toArray) W.heap.size rfl Try.underlying26 hi0 hz0 (by rw [hz1, HRL.out]) (by rw [HRL.out]; decide) (by rw [HRL.out]; decide) (by simp only [List.map_toArray, List.map_cons, List.map_nil]; rfl) ?_)
      exact ⟨_, by first | (simp [upd, h1]; done) | (simp [upd, h1]; rfl), ⟨W.heap.size, hz, rfl, Blk.new' W _ _ rfl⟩, HC.out, HK.out⟩
    · omega
    · have h1 : u 0 = .pointer (some ⟨V, 0, none⟩) := hd ⟨0, .data⟩ (by simp) rfl
      rw [h1]
      go_wp2_with fail
      exact ⟨_, by simp [upd, h1], rfl, hC, hr⟩
    · have h1 : u 9 = .pointer (some ⟨V, 0, none⟩) := hd ⟨9, .data⟩ (by simp) rfl
      rw [h1]
      go_wp2_with fail
      exact ⟨_, by simp [upd, h1], rfl, hC, hr⟩
    · have h1 : u 10 = .pointer (some ⟨V, 0, none⟩) := hd ⟨10, .data⟩ (by simp) rfl
      rw [h1]
      go_wp2_with fail
      exact ⟨_, by simp [upd, h1], rfl, hC, hr⟩
    · omega
  case one =>
    intro u W o ho hC hd
    simp only [List.getElem?_cons_zero, List.getElem?_cons_succ, Option.some.injEq] at ho
    subst ho
    have h4 : u 5 = vb := hd ⟨5, .data⟩ (by simp) rfl
    obtain ⟨y, hy, h8, hY8⟩ : ∃ y, wx.heap.size ≤ y ∧ u 7 = .slice (some ⟨y, 0, none⟩) 1 1 ∧ Blk W y 34 (R) := hd ⟨7, .data⟩ (by simp) rfl
    obtain ⟨g1, g2, g3, g4, g5, g6, g7, g8, g9⟩ := hC
    have hO := g8 rfl
    have hnw := sl_one hY8
    have hlen : (rowsH bl).length + [R].length ≤ maxLen := by rw [HNL.out, List.length_singleton]; have := HL.out; unfold maxLen; omega
    have hby : ((rowsH bl).length + [R].length) * 32 ≤ 140737488355328 := by rw [HNL.out, List.length_singleton]; have := HL.out; omega
    have hbase : w.heap.size ≤ W.heap.size := g5.size
    have hfin : ∀ v' w5, OwnR w5 w.heap.size 34 32 v' (rowsH bl ++ [R]) → W.grownBy w5 vb.ownBlock → (k_blockC w wx V X i vb vn vz bl ns zs left er t Y true w5 ∧ k_blockK vb false W w5) := fun v' w5 q1 q2 =>
      ⟨⟨g1.grownO q2 (hO.ne g1 (by decide)), g2.grownO q2 (hO.ne g2 (by decide)), g3.grownO q2 (g3.apart hO (by decide)), g4.grownO q2 (g4.apart hO (by decide)), g5.grown q2 hbase (fun i e => (hO.lt i e).1), g6.trans (.grown hO q2 (by decide)), Nat.le_trans g7 q2.size, fun e => (by cases e), g9.grownO q2 HYL.out⟩, q2⟩
    have HFIN := Lib.hid hfin
    have HO := Lib.hid hO
    have HNW := Lib.hid hnw
    have HLEN := Lib.hid hlen
    have HBY := Lib.hid hby
    have HBA := Lib.hid hbase
    clear hO hnw hlen hby hbase hY8 g1 g2 g3 g4 g5 g6 g7 g8 g9 hd hfin
    rw [h4, h8]
    rw [HRL.out] at HNW
    go_wp2_with (first | (refine wpList_append_rows rfl _ _ 26 rfl w.heap.size 34 i0 (.agg (ints .u8 (nn (zerN 32))).toArray) 32 32 Try.underlying26 hi0 hz0 hz1 hz2 (by rfl) (by decide) vb (rowsH bl) rfl HO.out (.slice (some ⟨y, 0, none⟩) 1 1) [R] rfl HNW.out HONE.out HLEN.out HBY.out HBA.out (.inr ⟨_, _, _, rfl⟩) ?_; intro v' w5 ho5 hg5 hv5))
    obtain ⟨q1, q2⟩ := HFIN.out v' w5 ho5 hg5
    exact ⟨v', by simp [upd, h4, h8]; rfl, ho5, q1, q2⟩
  case last =>
    intro u W o ho hC hS
    simp only [List.getElem?_cons_zero, List.getElem?_cons_succ, Option.some.injEq] at ho
    subst ho
    have h9 : OwnR W w.heap.size 34 32 (u 8) (rowsH bl ++ [R]) := hS 8 (by decide)
    have h11 : u 11 = .pointer (some ⟨V, 1, none⟩) := hS 11 (by decide)
    clear hS
    obtain ⟨v5, hv5⟩ : ∃ v5, u 8 = v5 := ⟨_, rfl⟩
    rw [hv5] at h9 ⊢
    obtain ⟨A5, cap5, he5⟩ := h9.isSlice
    obtain ⟨n5, hn5⟩ : ∃ n, (rowsH bl ++ [R]).length = n := ⟨_, rfl⟩
    rw [hn5] at he5
    have c2 := hC.1.cell 1
    have f2 := hC.1.free 1
    simp only [rdrC, List.getElem?_cons_zero, List.getElem?_cons_succ] at c2
    have HCC := Lib.hid hC
    have H9 := Lib.hid h9
    clear hC h9 hn5
    subst he5
    rw [h11]
    go_wp2_with fail
    go_end0
    obtain ⟨g1, g2, g3, g4, g5, g6, g7, g8, g9⟩ := HCC.out
    have H10 := H9.out
    rw [← hR, ← HSN.out] at H10
    exact ⟨rfl, ⟨_, HH.out.low, g1.set 1 _, H10.cellOther g1 (by decide) 1 _, g3.cellOther g1 (by decide) 1 _, g4.cellOther g1 (by decide) 1 _, g5.setCell (p := ⟨V, 1, none⟩) HH.out.low _⟩, g6.trans (.cell g1 1 _)⟩
end Go.Proofs.Ytloogjdojojehaa
namespace Go.Proofs.Ytloogjdojojehaa
set_option linter.unusedVariables false

abbrev RSt := RawV × List Nat × Nat
def stI (S : RSt) : RSt := if S.2.2 ≠ 0 then S else if S.2.1.length < 4 then (S.1, S.2.1, 40) else (⟨fixN S.2.1 4, S.1.bl, S.1.ns, S.1.zs⟩, S.2.1.drop 4, 0)
def stB (S : RSt) : RSt := if S.2.2 ≠ 0 then S else if S.2.1.length < 32 then (S.1, S.2.1, 40) else (⟨S.1.id, S.1.bl ++ [S.2.1.take 32], S.1.ns, S.1.zs⟩, S.2.1.drop 32, 0)
def stN (S : RSt) : RSt := if S.2.2 ≠ 0 then S else if (readL S.2.1).2.2 ≠ 0 then (S.1, S.2.1, (readL S.2.1).2.2) else (⟨S.1.id, S.1.bl, S.1.ns ++ [(readL S.2.1).1], S.1.zs⟩, (readL S.2.1).2.1, 0)
def stZ (S : RSt) : RSt := if S.2.2 ≠ 0 then S else if (getL S.2.1).2.2 ≠ 0 then (S.1, S.2.1, (getL S.2.1).2.2) else if 300 < (getL S.2.1).1 then (S.1, S.2.1, 111) else (⟨S.1.id, S.1.bl, S.1.ns, S.1.zs ++ [((getL S.2.1).1 : Int)]⟩, S.2.1.drop (getL S.2.1).2.1, 0)
def stF (S : RSt) : RSt := stZ (stN S)
def iterS (f : RSt → RSt) : Nat → RSt → RSt
  | 0, S => S
  | n + 1, S => iterS f n (f S)
def stM (most : Nat) (one : RSt → RSt) (S : RSt) : RSt := if S.2.2 ≠ 0 then S else if (getL S.2.1).2.2 ≠ 0 then (S.1, S.2.1, (getL S.2.1).2.2) else if most < (getL S.2.1).1 then (S.1, S.2.1, 111) else iterS one (getL S.2.1).1 (S.1, S.2.1.drop (getL S.2.1).2.1, 0)
def stE (S : RSt) : RSt := if S.2.2 ≠ 0 then S else if mayH S.1.bl.length S.1.ns S.1.zs then S else (S.1, S.2.1, 1)
def stOut (S : RSt) : TellV := if S.2.2 ≠ 0 then errV S.2.2 else (S.1, S.2.1, 0)
theorem iter_same {f : RSt → RSt} {S : RSt} (h : f S = S) : ∀ n, iterS f n S = S
  | 0 => rfl
  | n + 1 => by rw [iterS, h]; exact iter_same h n
theorem iter_snoc (f : RSt → RSt) : ∀ (n : Nat) (S : RSt), iterS f (n + 1) S = f (iterS f n S)
  | 0, S => rfl
  | n + 1, S => by rw [iterS, iter_snoc f n (f S), iterS]
theorem stB_err {S : RSt} (h : S.2.2 ≠ 0) : stB S = S := by unfold stB; rw [if_pos h]
theorem stN_err {S : RSt} (h : S.2.2 ≠ 0) : stN S = S := by unfold stN; rw [if_pos h]
theorem stZ_err {S : RSt} (h : S.2.2 ≠ 0) : stZ S = S := by unfold stZ; rw [if_pos h]
theorem stF_err {S : RSt} (h : S.2.2 ≠ 0) : stF S = S := by unfold stF; rw [stN_err h, stZ_err h]
theorem stM_err {most : Nat} {one : RSt → RSt} {S : RSt} (h : S.2.2 ≠ 0) : stM most one S = S := by unfold stM; rw [if_pos h]
theorem stE_err {S : RSt} (h : S.2.2 ≠ 0) : stE S = S := by unfold stE; rw [if_pos h]
theorem stOut_err {S : RSt} (h : S.2.2 ≠ 0) : stOut (stE S) = errV S.2.2 := by rw [stE_err h]; unfold stOut; rw [if_pos h]
theorem st_tellD (i : Nat) (bl : List (List Nat)) : ∀ (k : Nat) (ns : List (List Nat)) (zs : List Int) (s : List Nat), stOut (stE (iterS stF k (⟨i, bl, ns, zs⟩, s, 0))) = tellD i bl ns zs k s
  | 0, ns, zs, s => by
    unfold iterS tellD stE stOut
    by_cases h : mayH bl.length ns zs = true
    · simp [h]
    · simp [h]
  | k + 1, ns, zs, s => by
    rw [iterS, tellD]
    by_cases h1 : (readL s).2.2 ≠ 0
    · have e : stF (⟨i, bl, ns, zs⟩, s, 0) = (⟨i, bl, ns, zs⟩, s, (readL s).2.2) := by
        unfold stF
        have : stN (⟨i, bl, ns, zs⟩, s, 0) = (⟨i, bl, ns, zs⟩, s, (readL s).2.2) := by unfold stN; rw [if_neg (by simp), if_pos h1]
        rw [this, stZ_err h1]
      rw [if_pos h1, e, iter_same (stF_err h1), stOut_err h1]
    · have e : stN (⟨i, bl, ns, zs⟩, s, 0) = (⟨i, bl, ns ++ [(readL s).1], zs⟩, (readL s).2.1, 0) := by unfold stN; rw [if_neg (by simp), if_neg h1]
      rw [if_neg h1]
      unfold stF
      by_cases h2 : (getL (readL s).2.1).2.2 ≠ 0
      · have e2 : stZ (stN (⟨i, bl, ns, zs⟩, s, 0)) = (⟨i, bl, ns ++ [(readL s).1], zs⟩, (readL s).2.1, (getL (readL s).2.1).2.2) := by rw [e]; unfold stZ; rw [if_neg (by simp), if_pos h2]
        rw [if_pos h2, e2]
        have := iter_same (f := stF) (stF_err (S := (⟨i, bl, ns ++ [(readL s).1], zs⟩, (readL s).2.1, (getL (readL s).2.1).2.2)) h2) k
        unfold stF at this
        rw [this, stOut_err h2]
      · rw [if_neg h2]
        by_cases h3 : 300 < (getL (readL s).2.1).1
        · have e2 : stZ (stN (⟨i, bl, ns, zs⟩, s, 0)) = (⟨i, bl, ns ++ [(readL s).1], zs⟩, (readL s).2.1, 111) := by rw [e]; unfold stZ; rw [if_neg (by simp), if_neg h2, if_pos h3]
          rw [if_pos h3, e2]
          have h4 : ((⟨i, bl, ns ++ [(readL s).1], zs⟩, (readL s).2.1, 111) : RSt).2.2 ≠ 0 := by simp
          have := iter_same (f := stF) (stF_err h4) k
          unfold stF at this
          rw [this, stOut_err h4]
        · have e2 : stZ (stN (⟨i, bl, ns, zs⟩, s, 0)) = (⟨i, bl, ns ++ [(readL s).1], zs ++ [((getL (readL s).2.1).1 : Int)]⟩, (readL s).2.1.drop (getL (readL s).2.1).2.1, 0) := by rw [e]; unfold stZ; rw [if_neg (by simp), if_neg h2, if_neg h3]
          rw [if_neg h3, e2]
          have := st_tellD i bl k (ns ++ [(readL s).1]) (zs ++ [((getL (readL s).2.1).1 : Int)]) ((readL s).2.1.drop (getL (readL s).2.1).2.1)
          unfold stF at this
          exact this
theorem st_tellC (i : Nat) (bl : List (List Nat)) (s : List Nat) : stOut (stE (stM 12 stF (⟨i, bl, [], []⟩, s, 0))) = tellC i bl s := by
  unfold stM tellC
  rw [if_neg (by simp)]
  by_cases h1 : (getL s).2.2 ≠ 0
  · rw [if_pos h1, if_pos h1, stOut_err h1]
  · rw [if_neg h1, if_neg h1]
    by_cases h2 : 12 < (getL s).1
    · rw [if_pos h2, if_pos h2, stOut_err (by simp)]
    · rw [if_neg h2, if_neg h2]
      exact st_tellD i bl _ [] [] _
theorem st_tellB (i : Nat) : ∀ (n : Nat) (bl : List (List Nat)) (s : List Nat), stOut (stE (stM 12 stF (iterS stB n (⟨i, bl, [], []⟩, s, 0)))) = tellB i bl n s
  | 0, bl, s => st_tellC i bl s
  | n + 1, bl, s => by
    rw [iterS, tellB]
    by_cases h : s.length < 32
    · have e : stB (⟨i, bl, [], []⟩, s, 0) = (⟨i, bl, [], []⟩, s, 40) := by unfold stB; rw [if_neg (by simp), if_pos h]
      have h4 : ((⟨i, bl, [], []⟩, s, 40) : RSt).2.2 ≠ 0 := by simp
      rw [if_pos h, e, iter_same (stB_err h4), stM_err h4, stOut_err h4]
    · have e : stB (⟨i, bl, [], []⟩, s, 0) = (⟨i, bl ++ [s.take 32], [], []⟩, s.drop 32, 0) := by unfold stB; rw [if_neg (by simp), if_neg h]
      rw [if_neg h, e]
      exact st_tellB i n _ _
/-- THE FACT: the steps come to what is told -/
theorem st_tell (s : List Nat) : stOut (stE (stM 12 stF (stM 16 stB (stI (noV, s, 0))))) = tellA s := by
  unfold tellA
  by_cases h0 : s.length < 4
  · have e : stI (noV, s, 0) = (noV, s, 40) := by unfold stI; rw [if_neg (by simp), if_pos h0]
    have h4 : ((noV, s, 40) : RSt).2.2 ≠ 0 := by simp
    rw [if_pos h0, e, stM_err h4, stM_err h4, stOut_err h4]
  · have e : stI (noV, s, 0) = (⟨fixN s 4, [], [], []⟩, s.drop 4, 0) := by unfold stI; rw [if_neg (by simp), if_neg h0]; rfl
    rw [if_neg h0, e]
    conv => lhs; unfold stM
    by_cases h1 : (getL (s.drop 4)).2.2 ≠ 0
    · have h4 : ((⟨fixN s 4, [], [], []⟩, s.drop 4, (getL (s.drop 4)).2.2) : RSt).2.2 ≠ 0 := h1
      simp only [ne_eq, not_true_eq_false, if_false, if_pos h1]
      exact stOut_err h4
    · by_cases h2 : 16 < (getL (s.drop 4)).1
      · have h4 : ((⟨fixN s 4, [], [], []⟩, s.drop 4, 111) : RSt).2.2 ≠ 0 := by simp
        simp only [ne_eq, not_true_eq_false, if_false, if_neg h1, if_pos h2]
        exact stOut_err h4
      · have := st_tellB (fixN s 4) (getL (s.drop 4)).1 [] ((s.drop 4).drop (getL (s.drop 4)).2.1)
        unfold stM at this
        simp only [ne_eq, not_true_eq_false, if_false, if_neg h1, if_neg h2]
        exact this
/-! ### what stays true of it -/
structure RdOk (S : RSt) (k : Nat) : Prop where
  bys : Bys S.2.1
  len : S.2.1.length ≤ 65536
  nb : S.1.bl.length ≤ k
  nn' : S.1.ns.length ≤ k
  nz : S.1.zs.length ≤ k
  nby : ∀ x ∈ S.1.ns, Bys x
theorem RdOk.more {S : RSt} {k k' : Nat} (h : RdOk S k) (hk : k ≤ k') : RdOk S k' := ⟨h.bys, h.len, Nat.le_trans h.nb hk, Nat.le_trans h.nn' hk, Nat.le_trans h.nz hk, h.nby⟩
theorem RdOk.err {S : RSt} {k : Nat} (h : RdOk S k) (e : Nat) : RdOk (S.1, S.2.1, e) k := ⟨h.bys, h.len, h.nb, h.nn', h.nz, h.nby⟩
theorem RdOk.drop {S : RSt} {k : Nat} (h : RdOk S k) (n e : Nat) : RdOk (S.1, S.2.1.drop n, e) k := ⟨h.bys.drop n, by show (S.2.1.drop n).length ≤ 65536; rw [List.length_drop]; have := h.len; omega, h.nb, h.nn', h.nz, h.nby⟩
theorem ok_I {S : RSt} {k : Nat} (h : RdOk S k) : RdOk (stI S) k := by
  unfold stI
  split
  · exact h
  · split
    · exact h.err 40
    · exact ⟨(h.drop 4 0).bys, (h.drop 4 0).len, h.nb, h.nn', h.nz, h.nby⟩
theorem ok_B {S : RSt} {k : Nat} (h : RdOk S k) : RdOk (stB S) (k + 1) := by
  unfold stB
  split
  · exact h.more (by omega)
  · split
    · exact (h.err 40).more (by omega)
    · exact ⟨(h.drop 32 0).bys, (h.drop 32 0).len, by show (S.1.bl ++ [S.2.1.take 32]).length ≤ k + 1; rw [List.length_append]; have := h.nb; simp; omega, (h.more (Nat.le_succ k)).nn', (h.more (Nat.le_succ k)).nz, h.nby⟩
theorem ok_N {S : RSt} {k : Nat} (h : RdOk S k) : RdOk (stN S) (k + 1) := by
  unfold stN
  split
  · exact h.more (by omega)
  · split
    · exact (h.err _).more (by omega)
    · obtain ⟨f1, f2, f3, f4⟩ := read_facts h.bys h.len
      refine ⟨f2, f3, (h.more (Nat.le_succ k)).nb, by show (S.1.ns ++ [_]).length ≤ k + 1; rw [List.length_append]; have := h.nn'; simp; omega, (h.more (Nat.le_succ k)).nz, fun x hx => ?_⟩
      rcases List.mem_append.1 hx with hx | hx
      · exact h.nby x hx
      · rw [List.mem_singleton.1 hx]; exact f1
theorem ok_Z {S : RSt} {k : Nat} (h : RdOk S k) : RdOk (stZ S) (k + 1) := by
  unfold stZ
  split
  · exact h.more (by omega)
  · split
    · exact (h.err _).more (by omega)
    · split
      · exact (h.err _).more (by omega)
      · exact ⟨(h.drop _ 0).bys, (h.drop _ 0).len, (h.more (Nat.le_succ k)).nb, (h.more (Nat.le_succ k)).nn', by show (S.1.zs ++ [_]).length ≤ k + 1; rw [List.length_append]; have := h.nz; simp; omega, h.nby⟩
theorem ok_F {S : RSt} {k : Nat} (h : RdOk S k) : RdOk (stF S) (k + 2) := ok_Z (ok_N h)
theorem ok_iter {f : RSt → RSt} {d : Nat} (hf : ∀ S k, RdOk S k → RdOk (f S) (k + d)) : ∀ (n : Nat) (S : RSt) (k : Nat), RdOk S k → RdOk (iterS f n S) (k + d * n)
  | 0, S, k, h => h
  | n + 1, S, k, h => by
    have := ok_iter hf n (f S) (k + d) (hf S k h)
    rw [iterS, Nat.mul_succ]
    rw [show k + (d * n + d) = k + d + d * n by omega]
    exact this
theorem ok_M {f : RSt → RSt} {d most : Nat} (hf : ∀ S k, RdOk S k → RdOk (f S) (k + d)) {S : RSt} {k : Nat} (h : RdOk S k) : RdOk (stM most f S) (k + d * most) := by
  unfold stM
  split
  · exact h.more (by omega)
  · split
    · exact (h.err _).more (by omega)
    · split
      · exact (h.err _).more (by omega)
      · rename_i h3
        refine (ok_iter hf _ _ k (h.drop _ 0)).more ?_
        have : d * (getL S.2.1).1 ≤ d * most := Nat.mul_le_mul_left _ (by omega)
        omega
end Go.Proofs.Ytloogjdojojehaa
namespace Go.Proofs.Ytloogjdojojehaa
open Go.RowKit
set_option linter.unusedVariables false

set_option maxRecDepth 100000 in
theorem k_id {w wx : World} {V X : Nat} {i : Nat} {vb vn vz : Value} {bl ns : List (List Nat)} {zs : List Int} {left : ByteArray} {er : Nat} (h : RdQ w V wx i vb vn vz bl ns zs left er) (hX : Blk wx X 143 [.pointer (some ⟨V, 0, none⟩)]) (n : Nat) (hn : n < 4294967296) :
    Calls Try.prog 95 #[.int .u64 (n : Int), .pointer (some ⟨X, 0, none⟩)] wx fun e w' => e = .returned (.tuple #[]) ∧ RdQ w V w' n vb vn vz bl ns zs left er ∧ KeepR wx w' := by
  have c0 := h.ver.cell 0
  have f0 := h.ver.free 0
  have cX := hX.cell 0
  simp only [rdrC, List.getElem?_cons_zero] at c0 cX
  have i1 : (n : Int) < 4294967296 := by omega
  have u1 : IntKind.u32.wrap (n : Int) = (n : Int) := by rw [IntKind.wrap_u32]; omega
  have HQ := Lib.hid (h.set 0 (.int .u32 (n : Int)) n left er rfl)
  have HK := Lib.hid (KeepR.cell h.ver 0 (.int .u32 (n : Int)))
  clear h hX
  go_enter Try.func95, Try.ntmps95
  go_wp2
  go_end0
  exact ⟨rfl, HQ.out, HK.out⟩
set_option maxRecDepth 100000 in
theorem rd_fixed (s : ByteArray) (w : World) (hs : s.size ≤ 65536) (n er : Nat) (r : ByteArray) (hw : (4 ≤ s.size ∧ fixN (sl s) 4 = n ∧ s.extract 4 s.size = r ∧ er = 0) ∨ (s.size < 4 ∧ n = 0 ∧ r = ⟨#[]⟩ ∧ er = 40)) :
    Calls Try.prog 93 #[.string s] w fun e w' => e = .returned (.tuple #[.int .u64 (n : Int), .string r, .int .i64 (er : Int)]) ∧ Below w.heap.size w w' := by
  have HC := Lib.hid (v_Fixed s 4 w (by decide) (by decide) hs n er r hw)
  clear hw hs
  go_enter Try.func93, Try.ntmps93
  go_wp2_with fail
  refine HC.out.mono ?_
  rintro e w1 ⟨rfl, hb1⟩
  have G1 := Lib.hid hb1
  clear hb1
  go_wp2
  go_ret3
  exact ⟨rfl, G1.out⟩
/-- a number that is too great, or none, or one -/
def upT (most : Nat) (s : List Nat) : Nat × List Nat × Nat := if (getL s).2.2 ≠ 0 then (0, [], (getL s).2.2) else if most < (getL s).1 then (0, [], 111) else ((getL s).1, s.drop (getL s).2.1, 0)
set_option maxRecDepth 100000 in
theorem rd_upTo (most Y : Nat) (s : ByteArray) (w : World) (hY : Blk w Y 104 [.int .u64 (most : Int)]) (hm : most ≤ 1000) (hs : s.size ≤ 65536) (n er : Nat) (r : ByteArray) (hu : upT most (sl s) = (n, sl r, er)) :
    Calls Try.prog 107 #[.string s, .pointer (some ⟨Y, 0, none⟩)] w fun e w' => e = .returned (.tuple #[.int .i64 (n : Int), .string r, .int .i64 (er : Int)]) ∧ Below w.heap.size w w' := by
  obtain ⟨m, k, e2, hg⟩ : ∃ m k e2, getL (sl s) = (m, k, e2) := ⟨_, _, _, rfl⟩
  have hlt : m < 18446744073709551616 := by have := get_lt (sl s); rwa [hg] at this
  have HC := Lib.hid (v_Get s w hs m k e2 _ hg rfl)
  unfold upT at hu
  rw [hg] at hu
  dsimp only at hu
  have HY := Lib.hid hY
  clear hY hs hg
  by_cases h1 : e2 = 0
  · subst h1
    rw [if_neg (by simp)] at hu
    by_cases h2 : most < m
    · rw [if_pos h2] at hu
      simp only [Prod.mk.injEq] at hu
      obtain ⟨rfl, hr, rfl⟩ := hu
      obtain rfl : r = ⟨#[]⟩ := by rw [← tx_sl r, ← hr]; rfl
      have d1 : (most : Int) < (m : Int) := by omega
      clear h2
      go_enter Try.func107, Try.ntmps107
      go_wp2_with fail
      refine HC.out.mono ?_
      rintro e w1 ⟨rfl, hb1⟩
      have G1 := Lib.hid hb1
      have c0 := (HY.out.below hb1 HY.out.lt).cell 0
      simp only [List.getElem?_cons_zero] at c0
      clear hb1
      go_wp2
      go_ret3
      exact ⟨rfl, G1.out⟩
    · rw [if_neg h2] at hu
      simp only [Prod.mk.injEq] at hu
      obtain ⟨rfl, hr, rfl⟩ := hu
      have hr2 : tx ((sl s).drop k) = r := by rw [hr, tx_sl]
      have d1 : ¬ (most : Int) < (m : Int) := by omega
      have d2 : (m : Int) ≤ 1000 := by omega
      have u1 : IntKind.i64.wrap (m : Int) = (m : Int) := by rw [IntKind.wrap_i64]; omega
      rw [hr2] at HC
      clear h2 hr hr2
      go_enter Try.func107, Try.ntmps107
      go_wp2_with fail
      refine HC.out.mono ?_
      rintro e w1 ⟨rfl, hb1⟩
      have G1 := Lib.hid hb1
      have c0 := (HY.out.below hb1 HY.out.lt).cell 0
      simp only [List.getElem?_cons_zero] at c0
      clear hb1
      go_wp2
      go_ret3
      exact ⟨rfl, G1.out⟩
  · rw [if_pos h1] at hu
    simp only [Prod.mk.injEq] at hu
    obtain ⟨rfl, hr, rfl⟩ := hu
    obtain rfl : r = ⟨#[]⟩ := by rw [← tx_sl r, ← hr]; rfl
    have g1 : ((e2 : Int) != 0) = true := by rw [bne_iff_ne]; omega
    clear h1
    go_enter Try.func107, Try.ntmps107
    go_wp2_with fail
    refine HC.out.mono ?_
    rintro e w1 ⟨rfl, hb1⟩
    have G1 := Lib.hid hb1
    clear hb1
    go_wp2
    go_ret3
    exact ⟨rfl, G1.out⟩
/-! ### step[u] -/
set_option maxRecDepth 100000 in
theorem st_u_no {V : Nat} {wx : World} {i er : Nat} {vb vn vz : Value} {left : ByteArray} (hV : Blk wx V 130 (rdrC i vb vn vz left er)) (he : er ≠ 0) (rf kf : Value) :
    Calls Try.prog 94 #[.pointer (some ⟨V, 0, none⟩), rf, kf] wx fun e w' => e = .returned (.tuple #[]) ∧ w' = wx := by
  have c5 := hV.cell 5
  simp only [rdrC, List.getElem?_cons_zero, List.getElem?_cons_succ] at c5
  have g1 : ((er : Int) != 0) = true := by rw [bne_iff_ne]; omega
  clear hV he
  go_enter Try.func94, Try.ntmps94
  go_wp2
  refine bodyPost_ret (results_none rfl _ _ _) rfl ?_
  exact ⟨rfl, rfl⟩
set_option maxRecDepth 100000 in
set_option maxHeartbeats 1000000 in
theorem st_u_err {V : Nat} {wx : World} {i : Nat} {vb vn vz : Value} {left : ByteArray} (hV : Blk wx V 130 (rdrC i vb vn vz left 0)) (RF KF X : Nat) (n : Nat) (rest : ByteArray) (e2 : Nat) (he : e2 ≠ 0)
    (eR : ∀ args w, (callFunc RF args).run Try.prog w = .ok (.enter RF args) w) (eK : ∀ args w, (callFunc KF args).run Try.prog w = .ok (.enter KF args) w) (hR : Calls Try.prog RF #[.string left] wx fun e w' => e = .returned (.tuple #[.int .u64 (n : Int), .string rest, .int .i64 (e2 : Int)]) ∧ Below wx.heap.size wx w') :
    Calls Try.prog 94 #[.pointer (some ⟨V, 0, none⟩), .func (.func RF) #[] #[], .func (.func KF) #[] #[.pointer (some ⟨X, 0, none⟩)]] wx fun e w' => e = .returned (.tuple #[]) ∧ ∃ w2, Below wx.heap.size wx w2 ∧ w' = w2.setCell ⟨V, 5, none⟩ (.int .i64 (e2 : Int)) := by
  have c5 := hV.cell 5
  have c4 := hV.cell 4
  simp only [rdrC, List.getElem?_cons_zero, List.getElem?_cons_succ] at c4 c5
  have g1 : ((e2 : Int) != 0) = true := by rw [bne_iff_ne]; omega
  have HR := Lib.hid hR
  have HV := Lib.hid hV
  clear hV he hR
  go_enter Try.func94, Try.ntmps94
  go_wp2_with fail
  refine HR.out.mono ?_
  rintro e w1 ⟨rfl, hb1⟩
  have V2 := HV.out.below hb1 HV.out.lt
  have c5 := V2.cell 5
  have f5 := V2.free 5
  simp only [rdrC, List.getElem?_cons_zero, List.getElem?_cons_succ] at c5
  have G1 := Lib.hid hb1
  clear hb1 V2
  go_wp2
  refine bodyPost_ret (results_none rfl _ _ _) rfl ?_
  exact ⟨rfl, _, G1.out, rfl⟩
set_option maxRecDepth 100000 in
set_option maxHeartbeats 1000000 in
theorem st_u_ok {V : Nat} {wx : World} {i : Nat} {vb vn vz : Value} {left : ByteArray} (hV : Blk wx V 130 (rdrC i vb vn vz left 0)) (RF KF X : Nat) (n : Nat) (rest : ByteArray) (Rel : World → Prop)
    (eR : ∀ args w, (callFunc RF args).run Try.prog w = .ok (.enter RF args) w) (eK : ∀ args w, (callFunc KF args).run Try.prog w = .ok (.enter KF args) w) (hR : Calls Try.prog RF #[.string left] wx fun e w' => e = .returned (.tuple #[.int .u64 (n : Int), .string rest, .int .i64 0]) ∧ Below wx.heap.size wx w')
    (hK : ∀ w2, Below wx.heap.size wx w2 → Calls Try.prog KF #[.int .u64 (n : Int), .pointer (some ⟨X, 0, none⟩)] (w2.setCell ⟨V, 4, none⟩ (.string rest)) fun e w' => e = .returned (.tuple #[]) ∧ Rel w') :
    Calls Try.prog 94 #[.pointer (some ⟨V, 0, none⟩), .func (.func RF) #[] #[], .func (.func KF) #[] #[.pointer (some ⟨X, 0, none⟩)]] wx fun e w' => e = .returned (.tuple #[]) ∧ Rel w' := by
  have c5 := hV.cell 5
  have c4 := hV.cell 4
  simp only [rdrC, List.getElem?_cons_zero, List.getElem?_cons_succ] at c4 c5
  have HR := Lib.hid hR
  have HK := Lib.hid hK
  have HV := Lib.hid hV
  clear hV hR hK
  go_enter Try.func94, Try.ntmps94
  go_wp2_with fail
  refine HR.out.mono ?_
  rintro e w1 ⟨rfl, hb1⟩
  have V2 := HV.out.below hb1 HV.out.lt
  have c4 := V2.cell 4
  have f4 := V2.free 4
  simp only [rdrC, List.getElem?_cons_zero, List.getElem?_cons_succ] at c4
  have G1 := Lib.hid hb1
  clear hb1 V2
  go_wp2_with fail
  refine (HK.out w1 G1.out).mono ?_
  rintro e w9 ⟨rfl, h9⟩
  have H9 := Lib.hid h9
  clear h9
  go_wp2
  go_end0
  exact ⟨rfl, H9.out⟩
/-! ### step[s] -/
set_option maxRecDepth 100000 in
theorem st_s_no {V : Nat} {wx : World} {i er : Nat} {vb vn vz : Value} {left : ByteArray} (hV : Blk wx V 130 (rdrC i vb vn vz left er)) (he : er ≠ 0) (rf kf : Value) :
    Calls Try.prog 102 #[.pointer (some ⟨V, 0, none⟩), rf, kf] wx fun e w' => e = .returned (.tuple #[]) ∧ w' = wx := by
  have c5 := hV.cell 5
  simp only [rdrC, List.getElem?_cons_zero, List.getElem?_cons_succ] at c5
  have g1 : ((er : Int) != 0) = true := by rw [bne_iff_ne]; omega
  clear hV he
  go_enter Try.func102, Try.ntmps102
  go_wp2
  refine bodyPost_ret (results_none rfl _ _ _) rfl ?_
  exact ⟨rfl, rfl⟩
set_option maxRecDepth 100000 in
set_option maxHeartbeats 1000000 in
theorem st_s_err {V : Nat} {wx : World} {i : Nat} {vb vn vz : Value} {left : ByteArray} (hV : Blk wx V 130 (rdrC i vb vn vz left 0)) (RF KF X : Nat) (x : ByteArray) (rest : ByteArray) (e2 : Nat) (he : e2 ≠ 0)
    (eR : ∀ args w, (callFunc RF args).run Try.prog w = .ok (.enter RF args) w) (eK : ∀ args w, (callFunc KF args).run Try.prog w = .ok (.enter KF args) w) (hR : Calls Try.prog RF #[.string left] wx fun e w' => e = .returned (.tuple #[.string x, .string rest, .int .i64 (e2 : Int)]) ∧ Below wx.heap.size wx w') :
    Calls Try.prog 102 #[.pointer (some ⟨V, 0, none⟩), .func (.func RF) #[] #[], .func (.func KF) #[] #[.pointer (some ⟨X, 0, none⟩)]] wx fun e w' => e = .returned (.tuple #[]) ∧ ∃ w2, Below wx.heap.size wx w2 ∧ w' = w2.setCell ⟨V, 5, none⟩ (.int .i64 (e2 : Int)) := by
  have c5 := hV.cell 5
  have c4 := hV.cell 4
  simp only [rdrC, List.getElem?_cons_zero, List.getElem?_cons_succ] at c4 c5
  have g1 : ((e2 : Int) != 0) = true := by rw [bne_iff_ne]; omega
  have HR := Lib.hid hR
  have HV := Lib.hid hV
  clear hV he hR
  go_enter Try.func102, Try.ntmps102
  go_wp2_with fail
  refine HR.out.mono ?_
  rintro e w1 ⟨rfl, hb1⟩
  have V2 := HV.out.below hb1 HV.out.lt
  have c5 := V2.cell 5
  have f5 := V2.free 5
  simp only [rdrC, List.getElem?_cons_zero, List.getElem?_cons_succ] at c5
  have G1 := Lib.hid hb1
  clear hb1 V2
  go_wp2
  refine bodyPost_ret (results_none rfl _ _ _) rfl ?_
  exact ⟨rfl, _, G1.out, rfl⟩
set_option maxRecDepth 100000 in
set_option maxHeartbeats 1000000 in
theorem st_s_ok {V : Nat} {wx : World} {i : Nat} {vb vn vz : Value} {left : ByteArray} (hV : Blk wx V 130 (rdrC i vb vn vz left 0)) (RF KF X : Nat) (x : ByteArray) (rest : ByteArray) (Rel : World → Prop)
    (eR : ∀ args w, (callFunc RF args).run Try.prog w = .ok (.enter RF args) w) (eK : ∀ args w, (callFunc KF args).run Try.prog w = .ok (.enter KF args) w) (hR : Calls Try.prog RF #[.string left] wx fun e w' => e = .returned (.tuple #[.string x, .string rest, .int .i64 0]) ∧ Below wx.heap.size wx w')
    (hK : ∀ w2, Below wx.heap.size wx w2 → Calls Try.prog KF #[.string x, .pointer (some ⟨X, 0, none⟩)] (w2.setCell ⟨V, 4, none⟩ (.string rest)) fun e w' => e = .returned (.tuple #[]) ∧ Rel w') :
    Calls Try.prog 102 #[.pointer (some ⟨V, 0, none⟩), .func (.func RF) #[] #[], .func (.func KF) #[] #[.pointer (some ⟨X, 0, none⟩)]] wx fun e w' => e = .returned (.tuple #[]) ∧ Rel w' := by
  have c5 := hV.cell 5
  have c4 := hV.cell 4
  simp only [rdrC, List.getElem?_cons_zero, List.getElem?_cons_succ] at c4 c5
  have HR := Lib.hid hR
  have HK := Lib.hid hK
  have HV := Lib.hid hV
  clear hV hR hK
  go_enter Try.func102, Try.ntmps102
  go_wp2_with fail
  refine HR.out.mono ?_
  rintro e w1 ⟨rfl, hb1⟩
  have V2 := HV.out.below hb1 HV.out.lt
  have c4 := V2.cell 4
  have f4 := V2.free 4
  simp only [rdrC, List.getElem?_cons_zero, List.getElem?_cons_succ] at c4
  have G1 := Lib.hid hb1
  clear hb1 V2
  go_wp2_with fail
  refine (HK.out w1 G1.out).mono ?_
  rintro e w9 ⟨rfl, h9⟩
  have H9 := Lib.hid h9
  clear h9
  go_wp2
  go_end0
  exact ⟨rfl, H9.out⟩
/-! ### step[i] -/
set_option maxRecDepth 100000 in
theorem st_i_no {V : Nat} {wx : World} {i er : Nat} {vb vn vz : Value} {left : ByteArray} (hV : Blk wx V 130 (rdrC i vb vn vz left er)) (he : er ≠ 0) (rf kf : Value) :
    Calls Try.prog 96 #[.pointer (some ⟨V, 0, none⟩), rf, kf] wx fun e w' => e = .returned (.tuple #[]) ∧ w' = wx := by
  have c5 := hV.cell 5
  simp only [rdrC, List.getElem?_cons_zero, List.getElem?_cons_succ] at c5
  have g1 : ((er : Int) != 0) = true := by rw [bne_iff_ne]; omega
  clear hV he
  go_enter Try.func96, Try.ntmps96
  go_wp2
  refine bodyPost_ret (results_none rfl _ _ _) rfl ?_
  exact ⟨rfl, rfl⟩
set_option maxRecDepth 100000 in
set_option maxHeartbeats 1000000 in
theorem st_i_err {V : Nat} {wx : World} {i : Nat} {vb vn vz : Value} {left : ByteArray} (hV : Blk wx V 130 (rdrC i vb vn vz left 0)) (RF KF X Y : Nat) (n : Nat) (rest : ByteArray) (e2 : Nat) (he : e2 ≠ 0)
    (eR : ∀ args w, (callFunc RF args).run Try.prog w = .ok (.enter RF args) w) (eK : ∀ args w, (callFunc KF args).run Try.prog w = .ok (.enter KF args) w) (hR : Calls Try.prog RF #[.string left, .pointer (some ⟨Y, 0, none⟩)] wx fun e w' => e = .returned (.tuple #[.int .i64 (n : Int), .string rest, .int .i64 (e2 : Int)]) ∧ Below wx.heap.size wx w') :
    Calls Try.prog 96 #[.pointer (some ⟨V, 0, none⟩), .func (.func RF) #[] #[.pointer (some ⟨Y, 0, none⟩)], .func (.func KF) #[] #[.pointer (some ⟨X, 0, none⟩)]] wx fun e w' => e = .returned (.tuple #[]) ∧ ∃ w2, Below wx.heap.size wx w2 ∧ w' = w2.setCell ⟨V, 5, none⟩ (.int .i64 (e2 : Int)) := by
  have c5 := hV.cell 5
  have c4 := hV.cell 4
  simp only [rdrC, List.getElem?_cons_zero, List.getElem?_cons_succ] at c4 c5
  have g1 : ((e2 : Int) != 0) = true := by rw [bne_iff_ne]; omega
  have HR := Lib.hid hR
  have HV := Lib.hid hV
  clear hV he hR
  go_enter Try.func96, Try.ntmps96
  go_wp2_with fail
  refine HR.out.mono ?_
  rintro e w1 ⟨rfl, hb1⟩
  have V2 := HV.out.below hb1 HV.out.lt
  have c5 := V2.cell 5
  have f5 := V2.free 5
  simp only [rdrC, List.getElem?_cons_zero, List.getElem?_cons_succ] at c5
  have G1 := Lib.hid hb1
  clear hb1 V2
  go_wp2
  refine bodyPost_ret (results_none rfl _ _ _) rfl ?_
  exact ⟨rfl, _, G1.out, rfl⟩
set_option maxRecDepth 100000 in
set_option maxHeartbeats 1000000 in
theorem st_i_ok {V : Nat} {wx : World} {i : Nat} {vb vn vz : Value} {left : ByteArray} (hV : Blk wx V 130 (rdrC i vb vn vz left 0)) (RF KF X Y : Nat) (n : Nat) (rest : ByteArray) (Rel : World → Prop)
    (eR : ∀ args w, (callFunc RF args).run Try.prog w = .ok (.enter RF args) w) (eK : ∀ args w, (callFunc KF args).run Try.prog w = .ok (.enter KF args) w) (hR : Calls Try.prog RF #[.string left, .pointer (some ⟨Y, 0, none⟩)] wx fun e w' => e = .returned (.tuple #[.int .i64 (n : Int), .string rest, .int .i64 0]) ∧ Below wx.heap.size wx w')
    (hK : ∀ w2, Below wx.heap.size wx w2 → Calls Try.prog KF #[.int .i64 (n : Int), .pointer (some ⟨X, 0, none⟩)] (w2.setCell ⟨V, 4, none⟩ (.string rest)) fun e w' => e = .returned (.tuple #[]) ∧ Rel w') :
    Calls Try.prog 96 #[.pointer (some ⟨V, 0, none⟩), .func (.func RF) #[] #[.pointer (some ⟨Y, 0, none⟩)], .func (.func KF) #[] #[.pointer (some ⟨X, 0, none⟩)]] wx fun e w' => e = .returned (.tuple #[]) ∧ Rel w' := by
  have c5 := hV.cell 5
  have c4 := hV.cell 4
  simp only [rdrC, List.getElem?_cons_zero, List.getElem?_cons_succ] at c4 c5
  have HR := Lib.hid hR
  have HK := Lib.hid hK
  have HV := Lib.hid hV
  clear hV hR hK
  go_enter Try.func96, Try.ntmps96
  go_wp2_with fail
  refine HR.out.mono ?_
  rintro e w1 ⟨rfl, hb1⟩
  have V2 := HV.out.below hb1 HV.out.lt
  have c4 := V2.cell 4
  have f4 := V2.free 4
  simp only [rdrC, List.getElem?_cons_zero, List.getElem?_cons_succ] at c4
  have G1 := Lib.hid hb1
  clear hb1 V2
  go_wp2_with fail
  refine (HK.out w1 G1.out).mono ?_
  rintro e w9 ⟨rfl, h9⟩
  have H9 := Lib.hid h9
  clear h9
  go_wp2
  go_end0
  exact ⟨rfl, H9.out⟩
/-! ### step[h] -/
set_option maxRecDepth 100000 in
theorem st_h_no {V : Nat} {wx : World} {i er : Nat} {vb vn vz : Value} {left : ByteArray} (hV : Blk wx V 130 (rdrC i vb vn vz left er)) (he : er ≠ 0) (rf kf : Value) :
    Calls Try.prog 99 #[.pointer (some ⟨V, 0, none⟩), rf, kf] wx fun e w' => e = .returned (.tuple #[]) ∧ w' = wx := by
  have c5 := hV.cell 5
  simp only [rdrC, List.getElem?_cons_zero, List.getElem?_cons_succ] at c5
  have g1 : ((er : Int) != 0) = true := by rw [bne_iff_ne]; omega
  clear hV he
  go_enter Try.func99, Try.ntmps99
  go_wp2
  refine bodyPost_ret (results_none rfl _ _ _) rfl ?_
  exact ⟨rfl, rfl⟩
set_option maxRecDepth 100000 in
set_option maxHeartbeats 1000000 in
theorem st_h_err {V : Nat} {wx : World} {i : Nat} {vb vn vz : Value} {left : ByteArray} (hV : Blk wx V 130 (rdrC i vb vn vz left 0)) (RF KF X : Nat) (R : List Value) (rest : ByteArray) (e2 : Nat) (he : e2 ≠ 0) (hRl : R.length = 32) (hRo : R.toArray.all (·.oneCell') = true)
    (eR : ∀ args w, (callFunc RF args).run Try.prog w = .ok (.enter RF args) w) (eK : ∀ args w, (callFunc KF args).run Try.prog w = .ok (.enter KF args) w) (hR : Calls Try.prog RF #[.string left] wx fun e w' => e = .returned (.tuple #[.agg R.toArray, .string rest, .int .i64 (e2 : Int)]) ∧ Below wx.heap.size wx w') :
    Calls Try.prog 99 #[.pointer (some ⟨V, 0, none⟩), .func (.func RF) #[] #[], .func (.func KF) #[] #[.pointer (some ⟨X, 0, none⟩)]] wx fun e w' => e = .returned (.tuple #[]) ∧ ∃ w2, Below wx.heap.size wx w2 ∧ w' = w2.setCell ⟨V, 5, none⟩ (.int .i64 (e2 : Int)) := by
  have c5 := hV.cell 5
  have c4 := hV.cell 4
  simp only [rdrC, List.getElem?_cons_zero, List.getElem?_cons_succ] at c4 c5
  have g1 : ((e2 : Int) != 0) = true := by rw [bne_iff_ne]; omega
  have HR := Lib.hid hR
  have HV := Lib.hid hV
  have HRL := Lib.hid hRl
  have HRO := Lib.hid hRo
  clear hRl hRo
  clear hV he hR
  go_enter Try.func99, Try.ntmps99
  go_wp2_with fail
  refine HR.out.mono ?_
  rintro e w1 ⟨rfl, hb1⟩
  obtain ⟨T, hT⟩ : ∃ T, w1.heap.size = T := ⟨_, rfl⟩
  obtain ⟨ZR, hZR⟩ : ∃ ZR, ints .u8 (nn (zerN 32)) = ZR := ⟨_, rfl⟩
  have hle : ZR.length = 32 := by rw [← hZR, ints_length, nn_length, zerN_len]
  have hal : (Instr.alloc 34 true (.tuple #[])).run Try.prog w1 = .ok (.pointer (some ⟨w1.heap.size, 0, none⟩)) (w1.alloc (.cells ZR.toArray 34)) := by rw [← hZR]; exact alloc_h32 _
  clear hZR
  have k1 := Blk.newAt w1 T hT 34 (c := ZR.toArray) ZR rfl
  have k2 := k1.row R (by rw [HRL.out, hle])
  have hb2 := hb1.trans ((below_setRow ((Below.refl w1.heap.size w1).alloc (Nat.le_refl _) (.cells ZR.toArray 34)) (show w1.heap.size ≤ T by rw [hT]; exact Nat.le_refl _) R.toArray).mono hb1.size)
  have HAL := Lib.hid hal
  have K1 := Lib.hid k1
  obtain ⟨w2, hw2⟩ : ∃ w2, (w1.alloc (.cells ZR.toArray 34)).setRow T R.toArray = w2 := ⟨_, rfl⟩
  rw [hw2] at k2 hb2
  have HW2 := Lib.hid hw2
  have HZRL : Hid (ZR.length = R.length) := Lib.hid (by rw [hle, HRL.out])
  have V2 := HV.out.below hb2 HV.out.lt
  have c5 := V2.cell 5
  have f5 := V2.free 5
  simp only [rdrC, List.getElem?_cons_zero, List.getElem?_cons_succ] at c5
  have G1 := Lib.hid hb2
  have K2 := Lib.hid k2
  clear hb1 hb2 V2 k1 k2 hal hle hw2
  go_wp2_with (first | (refine wpList_alloc_n rfl 34 rfl T hT ZR.toArray HAL.out ?_) | (refine wpList_store_blk rfl 34 _ _ rfl T R rfl rfl K1.out (by rw [size_hashV, HRL.out]) HZRL.out HRO.out ?_; rw [HW2.out]))
  refine bodyPost_ret (results_none rfl _ _ _) rfl ?_
  exact ⟨rfl, _, G1.out, rfl⟩
set_option maxRecDepth 100000 in
set_option maxHeartbeats 1000000 in
theorem st_h_ok {V : Nat} {wx : World} {i : Nat} {vb vn vz : Value} {left : ByteArray} (hV : Blk wx V 130 (rdrC i vb vn vz left 0)) (RF KF X : Nat) (R : List Value) (rest : ByteArray) (hRl : R.length = 32) (hRo : R.toArray.all (·.oneCell') = true) (Rel : World → Prop)
    (eR : ∀ args w, (callFunc RF args).run Try.prog w = .ok (.enter RF args) w) (eK : ∀ args w, (callFunc KF args).run Try.prog w = .ok (.enter KF args) w) (hR : Calls Try.prog RF #[.string left] wx fun e w' => e = .returned (.tuple #[.agg R.toArray, .string rest, .int .i64 0]) ∧ Below wx.heap.size wx w')
    (hK : ∀ w2, Below wx.heap.size wx w2 → Calls Try.prog KF #[.agg R.toArray, .pointer (some ⟨X, 0, none⟩)] (w2.setCell ⟨V, 4, none⟩ (.string rest)) fun e w' => e = .returned (.tuple #[]) ∧ Rel w') :
    Calls Try.prog 99 #[.pointer (some ⟨V, 0, none⟩), .func (.func RF) #[] #[], .func (.func KF) #[] #[.pointer (some ⟨X, 0, none⟩)]] wx fun e w' => e = .returned (.tuple #[]) ∧ Rel w' := by
  have c5 := hV.cell 5
  have c4 := hV.cell 4
  simp only [rdrC, List.getElem?_cons_zero, List.getElem?_cons_succ] at c4 c5
  have HR := Lib.hid hR
  have HK := Lib.hid hK
  have HV := Lib.hid hV
  have HRL := Lib.hid hRl
  have HRO := Lib.hid hRo
  clear hRl hRo
  clear hV hR hK
  go_enter Try.func99, Try.ntmps99
  go_wp2_with fail
  refine HR.out.mono ?_
  rintro e w1 ⟨rfl, hb1⟩
  obtain ⟨T, hT⟩ : ∃ T, w1.heap.size = T := ⟨_, rfl⟩
  obtain ⟨ZR, hZR⟩ : ∃ ZR, ints .u8 (nn (zerN 32)) = ZR := ⟨_, rfl⟩
  have hle : ZR.length = 32 := by rw [← hZR, ints_length, nn_length, zerN_len]
  have hal : (Instr.alloc 34 true (.tuple #[])).run Try.prog w1 = .ok (.pointer (some ⟨w1.heap.size, 0, none⟩)) (w1.alloc (.cells ZR.toArray 34)) := by rw [← hZR]; exact alloc_h32 _
  clear hZR
  have k1 := Blk.newAt w1 T hT 34 (c := ZR.toArray) ZR rfl
  have k2 := k1.row R (by rw [HRL.out, hle])
  have hb2 := hb1.trans ((below_setRow ((Below.refl w1.heap.size w1).alloc (Nat.le_refl _) (.cells ZR.toArray 34)) (show w1.heap.size ≤ T by rw [hT]; exact Nat.le_refl _) R.toArray).mono hb1.size)
  have HAL := Lib.hid hal
  have K1 := Lib.hid k1
  obtain ⟨w2, hw2⟩ : ∃ w2, (w1.alloc (.cells ZR.toArray 34)).setRow T R.toArray = w2 := ⟨_, rfl⟩
  rw [hw2] at k2 hb2
  have HW2 := Lib.hid hw2
  have HZRL : Hid (ZR.length = R.length) := Lib.hid (by rw [hle, HRL.out])
  have V2 := HV.out.below hb2 HV.out.lt
  have c4 := V2.cell 4
  have f4 := V2.free 4
  simp only [rdrC, List.getElem?_cons_zero, List.getElem?_cons_succ] at c4
  have G1 := Lib.hid hb2
  have K2 := Lib.hid k2
  have K3 := Lib.hid (k2.other (a := ⟨V, 4, none⟩) (show V ≠ T from fun e => by have := HV.out.lt; have := hb1.size; omega) (.string rest))
  clear hb1 hb2 V2 k1 k2 hal hle hw2
  go_wp2_with (first | (refine wpList_alloc_n rfl 34 rfl T hT ZR.toArray HAL.out ?_) | (refine wpList_store_blk rfl 34 _ _ rfl T R rfl rfl K1.out (by rw [size_hashV, HRL.out]) HZRL.out HRO.out ?_; rw [HW2.out]) | (refine wpList_load_blk rfl 34 _ rfl T rfl K3.out Try.underlying34 rfl (by rw [size_hashV, HRL.out]) ?_))
  refine (HK.out w2 G1.out).mono ?_
  rintro e w9 ⟨rfl, h9⟩
  have H9 := Lib.hid h9
  clear h9
  go_wp2
  go_end0
  exact ⟨rfl, H9.out⟩
end Go.Proofs.Ytloogjdojojehaa
namespace Go.Proofs.Ytloogjdojojehaa
open Go.RowKit
set_option linter.unusedVariables false

set_option maxHeartbeats 2000000 in
set_option maxRecDepth 100000 in
theorem h_hash_no (s : ByteArray) (w : World) (h : s.size < 32) :
    Calls Try.prog 100 #[.string s] w fun e w' => e = .returned (.tuple #[.agg (ints .u8 (nn (zerN 32))).toArray, .string ⟨#[]⟩, .int .i64 40]) ∧ Below w.heap.size w w' := by
  have k0 := (Blk.new' w 34 (c := (ints .u8 (nn (zerN 32))).toArray) _ rfl).alloc (.cells (ints .u8 (nn (zerN 32))).toArray 34)
  have k1 := Blk.newAt (w.alloc (.cells (ints .u8 (nn (zerN 32))).toArray 34)) (w.heap.size + 1) (by simp) 34 (c := (ints .u8 (nn (zerN 32))).toArray) _ rfl
  have kb := ((Below.refl w.heap.size w).alloc (Nat.le_refl _) (.cells (ints .u8 (nn (zerN 32))).toArray 34)).alloc (by simp) (.cells (ints .u8 (nn (zerN 32))).toArray 34)
  have K0 := Lib.hid k0
  have K1 := Lib.hid k1
  have KB := Lib.hid kb
  have hl : (ints .u8 (nn (zerN 32))).length = 32 := by rw [ints_length, nn_length, zerN_len]
  have g1 : (s.size : Int) < 32 := by omega
  clear k0 k1 kb
  go_enter Try.func100, Try.ntmps100
  go_wp2_with (first | (refine wpList_alloc_n rfl 34 rfl w.heap.size rfl _ (alloc_h32 _) ?_) | (refine wpList_alloc_n rfl 34 rfl (w.heap.size + 1) (by simp) _ (alloc_h32 _) ?_) | (refine wpList_load_blk rfl 34 _ rfl (w.heap.size + 1) rfl K1.out Try.underlying34 rfl (by rw [size_hashV, hl]) ?_) | (refine wpList_store_blk rfl 34 _ _ rfl w.heap.size (ints .u8 (nn (zerN 32))) rfl rfl K0.out (by rw [size_hashV, hl]) rfl (ints_one _ _) ?_))
  refine bodyPost_ret (v := .tuple #[.agg (ints .u8 (nn (zerN 32))).toArray, .string ⟨#[]⟩, .int .i64 40]) (results_cell_tmp2 rfl _ _ w.heap.size rfl (.string ⟨#[]⟩) (.int .i64 40) rfl rfl (K0.out.row (ints .u8 (nn (zerN 32))) rfl) Try.underlying34 rfl (by rw [size_hashV, hl])) rfl ⟨rfl, below_setRow KB.out (Nat.le_refl _) _⟩
set_option maxHeartbeats 2000000 in
set_option maxRecDepth 100000 in
theorem h_hash_yes (s : ByteArray) (w : World) (h : 32 ≤ s.size) :
    Calls Try.prog 100 #[.string s] w fun e w' => e = .returned (.tuple #[.agg (ints .u8 (nn ((sl s).take 32))).toArray, .string (tx ((sl s).drop 32)), .int .i64 0]) ∧ Below w.heap.size w w' := by
  have hsl : 32 ≤ (sl s).length := by rw [sl_len]; exact h
  obtain ⟨B, hB⟩ : ∃ B, w.heap.size = B := ⟨_, rfl⟩
  have k0 := (Blk.newAt w B hB 34 (c := (ints .u8 (nn (zerN 32))).toArray) _ rfl).alloc (.cells (ints .u8 (nn (zerN 32))).toArray 34)
  have k1 := Blk.newAt (w.alloc (.cells (ints .u8 (nn (zerN 32))).toArray 34)) (B + 1) (by simp [hB]) 34 (c := (ints .u8 (nn (zerN 32))).toArray) _ rfl
  have kb := ((Below.refl w.heap.size w).alloc (Nat.le_refl _) (.cells (ints .u8 (nn (zerN 32))).toArray 34)).alloc (by simp) (.cells (ints .u8 (nn (zerN 32))).toArray 34)
  have hl : (ints .u8 (nn (zerN 32))).length = 32 := by rw [ints_length, nn_length, zerN_len]
  have g1 : ¬ (s.size : Int) < 32 := by omega
  have hHl : (ints .u8 (nn ((sl s).take 32))).length = 32 := by rw [ints_length, nn_length, List.length_take]; omega
  have hHo := ints_one .u8 (nn ((sl s).take 32))
  have hHt : ints .u8 ((is s).take 32) = ints .u8 (nn ((sl s).take 32)) := by rw [is_sl]; simp [nn]
  obtain ⟨H, hH⟩ : ∃ H, ints .u8 (nn ((sl s).take 32)) = H := ⟨_, rfl⟩
  rw [hH] at hHl hHo hHt
  have HHE := Lib.hid hH
  have N1 : Hid (ints .u8 (nn (zerN 32)) = [] ++ (ints .u8 (nn (zerN 32)) ++ [])) := Lib.hid (by simp)
  have N2 : Hid (H = [] ++ (ints .u8 ((is s).take 32) ++ [])) := Lib.hid (by rw [hHt]; simp)
  have NL : Hid (32 = (ints .u8 (nn (zerN 32))).length) := Lib.hid hl.symm
  have htl : s.extract 32 s.size = tx ((sl s).drop 32) := tail_tx s 32
  have i32 : (32 : Int) ≤ (s.size : Int) := by omega
  obtain ⟨RT, hRT⟩ : ∃ x, tx ((sl s).drop 32) = x := ⟨_, rfl⟩
  rw [hRT] at htl ⊢
  have HBE := Lib.hid hB
  have K1 := Lib.hid k1
  have B1 := Lib.hid (k1.row H (by rw [hl, hHl]))
  have B0 := Lib.hid (k0.rowOther (show B ≠ B + 1 by omega) H.toArray)
  have GB := Lib.hid (below_setRow kb (show w.heap.size ≤ B + 1 by omega) H.toArray)
  have hle32 : 32 ≤ s.size := h
  clear k0 k1 kb hRT hsl hH hHt h
  go_enter Try.func100, Try.ntmps100
  go_wp2_with (first | (refine wpList_alloc_n rfl 34 rfl B hB _ (alloc_h32 _) ?_) | (refine wpList_alloc_n rfl 34 rfl (B + 1) (by simp [hB]) _ (alloc_h32 _) ?_) | (refine wpList_copy_part rfl _ _ 60 9 5 rfl (B + 1) 0 32 32 rfl s rfl K1.out H [] (ints .u8 (nn (zerN 32))) [] N1.out N2.out Try.underlying60 size_u8 hle32 rfl NL.out ?_))
  refine region_mix 3 5 (by decide) mixed (by kernel_rfl) (by kernel_rfl) (fun u => #[_, _, _, u 4, _, _, _, _, _, _, _, _, _, u 0, u 1, u 2]) [] (fun i => match i with | 4 => _ | _ => undef) rfl
        (hsC w B H) ⟨B1.out, B0.out, GB.out.drew⟩ (fun _ _ _ => True) (hsS H s RT) ?mono ?step ?one ?last
  case mono => exact fun b i v W W' _ h _ => hsS_mono i v W W' h
  case step =>
        intro bb u W i o hi hik _ ho hC hd
        rcases i with _ | _ | _ | _ | _ | i
        all_goals try (simp only [List.getElem?_cons_zero, List.getElem?_cons_succ, Option.some.injEq] at ho; subst ho)
        · have HB1 := Lib.hid hC.1
          go_wp2_with (refine wpList_load_blk rfl 34 _ rfl (B + 1) rfl HB1.out Try.underlying34 rfl (by rw [size_hashV, hHl]) ?_)
          exact ⟨_, rfl, rfl, hC, trivial⟩
        · go_wp2_with fail
          exact ⟨_, rfl, rfl, hC, trivial⟩
        · have h0 : u 1 = .string s := hd ⟨1, .data⟩ (by simp) rfl
          rw [h0]
          go_wp2_with fail
          exact ⟨_, by simp [upd, h0], rfl, hC, trivial⟩
        · omega
        · have h0 : u 2 = .string RT := hd ⟨2, .data⟩ (by simp) rfl
          rw [h0]
          go_wp2_with fail
          exact ⟨_, by simp [upd, h0], rfl, hC, trivial⟩
        · omega
  case one =>
        intro u W o ho hC hd
        simp only [List.getElem?_cons_zero, List.getElem?_cons_succ, Option.some.injEq] at ho
        subst ho
        have h0 : u 0 = .agg H.toArray := hd ⟨0, .data⟩ (by simp) rfl
        have hz : Blk W B 34 (ints .u8 (nn (zerN 32))) := hC.2.1
        have HZ := Lib.hid hz
        have Q1 := Lib.hid (hC.1.rowOther (show B + 1 ≠ B by omega) H.toArray)
        have Q2 := Lib.hid (hz.row H (by rw [hl, hHl]))
        have Q3 := Lib.hid (below_setRow hC.2.2 (show w.heap.size ≤ B by rw [HBE.out]; exact Nat.le_refl _) H.toArray)
        clear hz hC hd
        rw [h0]
        go_wp2_with (refine wpList_store_blk rfl 34 _ _ rfl B H rfl rfl HZ.out (by rw [size_hashV, hHl]) (by rw [hl, hHl]) hHo ?_)
        exact ⟨undef, by simp [upd, h0]; rfl, trivial, ⟨Q1.out, Q2.out, Q3.out⟩, trivial⟩
  case last =>
        intro u W o ho hC hS
        simp only [List.getElem?_cons_zero, List.getElem?_cons_succ, Option.some.injEq] at ho
        subst ho
        have h4 : u 4 = .string RT := hS 4 (by decide)
        have hz : Blk W B 34 H := hC.2.1
        have HZ := Lib.hid hz
        have Q3 := Lib.hid hC.2.2
        clear hS hC hz
        rw [h4]
        go_wp2_with fail
        refine bodyPost_ret (v := .tuple #[.agg H.toArray, .string RT, .int .i64 0]) (results_cell_tmp2 rfl _ _ B rfl (.string RT) (.int .i64 0) rfl rfl HZ.out Try.underlying34 rfl (by rw [size_hashV, hHl])) rfl ⟨by rw [HHE.out], Q3.out⟩
end Go.Proofs.Ytloogjdojojehaa
namespace Go.Proofs.Ytloogjdojojehaa
open Go.RowKit
set_option linter.unusedVariables false

theorem enters {P : Program} {f : FuncId} {fn : Func} {c : Code} (hf : P.funcs[f]? = some fn) (hname : (fn.name == "runtime.NumGoroutine") = false) (hb : fn.body = some c) : ∀ (args : Array Value) (w : World), (callFunc f args).run P w = .ok (.enter f args) w := fun args w => by
  have h1 : fn.name ≠ "runtime.NumGoroutine" := by simpa using hname
  simp [callFunc, hf, h1, hb]
section
variable {P : Program} {ops : Array Oper} {rest : List Oper} {o : Oper} {a : Act} {w : World} {Q : Exit → Act → World → Prop}
/-- a whole row is read, wherever it lies, by a guarded operation, too -/
theorem wpList_load_addrV (hgd : Region.wanted o (yielded ops a.tmps) = true) (ty : TypeId) (x : Operand) (ho : o.op = .load ty x)
    (p : Addr) (hx : a.eval x = .pointer (some p)) (cs : List Value) {d : TypeDesc} (hc : ∀ j v, cs[j]? = some v → w.cell? (p.add j) = some v)
    (hu : P.underlying ty = some d) (hd : d.isRow = true) (hi : (P.info? ty).map (·.size) = some cs.length)
    (h : wpList P ops Q rest (a.put o.dst (.agg cs.toArray)) w) : wpList P ops Q (o :: rest) a w := by
  unfold wpList
  rw [if_pos hgd]
  refine .inl ?_
  unfold Oper.wp execOp
  simp only [ho, hx, Instr.loadAt, Instr.sureAddr, Sem.run_bind, Sem.run_pure, Result.andThen_ok, run_loadVar_addr w p ty cs d hc hu hd hi]
  exact h
end
/-- the reader is at this state -/
def RdS (w : World) (V : Nat) (wx : World) (S : RSt) : Prop := ∃ vb vn vz, RdQ w V wx S.1.id vb vn vz S.1.bl S.1.ns S.1.zs (tx S.2.1) S.2.2
section
variable {w wx wy : World} {V i : Nat} {vb vn vz : Value} {bl ns : List (List Nat)} {zs : List Int} {left : ByteArray} {er : Nat}
theorem RdQ.toErr (h : RdQ w V wx i vb vn vz bl ns zs left er) (hb : Below wx.heap.size wx wy) (e2 : Nat) : RdQ w V (wy.setCell ⟨V, 5, none⟩ (.int .i64 (e2 : Int))) i vb vn vz bl ns zs left e2 ∧ KeepR wx (wy.setCell ⟨V, 5, none⟩ (.int .i64 (e2 : Int))) :=
  ⟨(h.keep hb).set 5 _ i left e2 rfl, (KeepR.below hb).trans (.cell (h.keep hb).ver 5 _)⟩
theorem RdQ.toLeft (h : RdQ w V wx i vb vn vz bl ns zs left er) (hb : Below wx.heap.size wx wy) (rest : ByteArray) : RdQ w V (wy.setCell ⟨V, 4, none⟩ (.string rest)) i vb vn vz bl ns zs rest er ∧ KeepR wx (wy.setCell ⟨V, 4, none⟩ (.string rest)) :=
  ⟨(h.keep hb).set 4 _ i rest er rfl, (KeepR.below hb).trans (.cell (h.keep hb).ver 4 _)⟩
/-- its version, as a value -/
theorem RdQ.vv (h : RdQ w V wx i vb vn vz bl ns zs left er) : VV wx (.agg (cellsV i vb vn vz).toArray) ⟨i, bl, ns, zs⟩ := by
  have q1 := h.ob.isSlice
  have q2 := h.on.isSlice
  have q3 := h.oz.isSlice
  rw [rowsH_len] at q1
  rw [rowsS_len] at q2
  rw [rowsZF_len] at q3
  exact ⟨vb, vn, vz, rfl, q1, q2, q3, h.ob.sl, h.on.sl, h.oz.sl⟩
end
/-- where a method keeps its receiver -/
theorem box_ptr (wx : World) (V : Nat) : Blk (wx.alloc (.cells #[.pointer (some ⟨V, 0, none⟩)] 143)) wx.heap.size 143 [.pointer (some ⟨V, 0, none⟩)] := Blk.new' wx 143 [.pointer (some ⟨V, 0, none⟩)] rfl
set_option maxRecDepth 100000 in
set_option maxHeartbeats 1000000 in
theorem m_id {w wx : World} {V : Nat} {S : RSt} {k : Nat} (h : RdS w V wx S) (hk : RdOk S k) (hk2 : k ≤ 1000) :
    Calls Try.prog 82 #[.pointer (some ⟨V, 0, none⟩)] wx fun e w' => e = .returned (.tuple #[]) ∧ RdS w V w' (stI S) ∧ KeepR wx w' := by
  obtain ⟨vb, vn, vz, hq⟩ := h
  have hX := box_ptr wx V
  have hb0 := (Below.refl wx.heap.size wx).alloc (Nat.le_refl _) (.cells #[.pointer (some ⟨V, 0, none⟩)] 143)
  have hq1 := hq.keep hb0
  have hK0 := KeepR.below hb0
  obtain ⟨X, hXX⟩ : ∃ X, wx.heap.size = X := ⟨_, rfl⟩
  rw [hXX] at hX
  obtain ⟨W, hW⟩ : ∃ W, wx.alloc (.cells #[.pointer (some ⟨V, 0, none⟩)] 143) = W := ⟨_, rfl⟩
  rw [hW] at hX hb0 hq1 hK0
  have cX := hX.cell 0
  simp only [List.getElem?_cons_zero] at cX
  have HC : Hid (Calls Try.prog 94 #[.pointer (some ⟨V, 0, none⟩), .func (.func 93) #[] #[], .func (.func 95) #[] #[.pointer (some ⟨X, 0, none⟩)]] W fun e w' => e = .returned (.tuple #[]) ∧ RdS w V w' (stI S) ∧ KeepR W w') := Lib.hid (by
    by_cases he : S.2.2 = 0
    · have hq2 := hq1
      rw [he] at hq2
      by_cases h4 : S.2.1.length < 4
      · have hst : stI S = (S.1, S.2.1, 40) := by unfold stI; rw [if_neg (by simpa using he), if_pos h4]
        refine (st_u_err hq2.ver 93 95 X 0 ⟨#[]⟩ 40 (by decide) (enters Try.func93 (by kernel_rfl) rfl) (enters Try.func95 (by kernel_rfl) rfl) (rd_fixed (tx S.2.1) W (by rw [tx_size]; exact hk.len) 0 40 ⟨#[]⟩ (.inr ⟨by rw [tx_size]; exact h4, rfl, rfl, rfl⟩))).mono ?_
        rintro e w' ⟨he', w2, hb2, rfl⟩
        obtain ⟨r1, r2⟩ := hq1.toErr hb2 40
        rw [hst]
        exact ⟨he', ⟨_, _, _, r1⟩, r2⟩
      · have hst : stI S = (⟨fixN S.2.1 4, S.1.bl, S.1.ns, S.1.zs⟩, S.2.1.drop 4, 0) := by unfold stI; rw [if_neg (by simpa using he), if_neg h4]
        rw [hst]
        have hsz : (tx S.2.1).size = S.2.1.length := tx_size _
        have hls : sl (tx S.2.1) = S.2.1 := sl_tx hk.bys
        have hfx := fix_lt hk.bys 4
        refine st_u_ok hq2.ver 93 95 X (fixN S.2.1 4) (tx (S.2.1.drop 4)) _ (enters Try.func93 (by kernel_rfl) rfl) (enters Try.func95 (by kernel_rfl) rfl) ((rd_fixed (tx S.2.1) W (by rw [tx_size]; exact hk.len) (fixN S.2.1 4) 0 (tx (S.2.1.drop 4)) (.inl ⟨by rw [hsz]; omega, by rw [hls], by rw [tail_tx, hls], rfl⟩))) fun w2 hb2 => ?_
        obtain ⟨r1, r2⟩ := hq2.toLeft hb2 (tx (S.2.1.drop 4))
        refine (k_id r1 (r2.2 _ _ _ hX (by decide) (by decide) (by decide) (by decide)) (fixN S.2.1 4) (by simpa using hfx)).mono ?_
        rintro e w' ⟨he', r3, r4⟩
        exact ⟨he', ⟨_, _, _, r3⟩, r2.trans r4⟩
    · have hst : stI S = S := by unfold stI; rw [if_pos he]
      rw [hst]
      exact (st_u_no hq1.ver he _ _).mono fun e w' ⟨h1, h2⟩ => ⟨h1, by rw [h2]; exact ⟨_, _, _, hq1⟩, by rw [h2]; exact .refl _⟩)
  have HK0 := Lib.hid hK0
  clear hq hb0 hq1 hK0 hX
  go_enter Try.func82, Try.ntmps82
  go_wp2_with fail
  refine HC.out.mono ?_
  rintro e w9 ⟨rfl, h9, k9⟩
  have H9 := Lib.hid h9
  have K9 := Lib.hid (HK0.out.trans k9)
  clear h9 k9
  go_wp2
  go_end0
  exact ⟨rfl, H9.out, K9.out⟩
set_option maxRecDepth 100000 in
set_option maxHeartbeats 1000000 in
theorem m_block {w wx : World} {V : Nat} {S : RSt} {k : Nat} (h : RdS w V wx S) (hk : RdOk S k) (hk2 : k ≤ 1000) :
    Calls Try.prog 84 #[.pointer (some ⟨V, 0, none⟩)] wx fun e w' => e = .returned (.tuple #[]) ∧ RdS w V w' (stB S) ∧ KeepR wx w' := by
  obtain ⟨vb, vn, vz, hq⟩ := h
  have hX := box_ptr wx V
  have hb0 := (Below.refl wx.heap.size wx).alloc (Nat.le_refl _) (.cells #[.pointer (some ⟨V, 0, none⟩)] 143)
  have hq1 := hq.keep hb0
  have hK0 := KeepR.below hb0
  obtain ⟨X, hXX⟩ : ∃ X, wx.heap.size = X := ⟨_, rfl⟩
  rw [hXX] at hX
  obtain ⟨W, hW⟩ : ∃ W, wx.alloc (.cells #[.pointer (some ⟨V, 0, none⟩)] 143) = W := ⟨_, rfl⟩
  rw [hW] at hX hb0 hq1 hK0
  have cX := hX.cell 0
  simp only [List.getElem?_cons_zero] at cX
  have HC : Hid (Calls Try.prog 99 #[.pointer (some ⟨V, 0, none⟩), .func (.func 100) #[] #[], .func (.func 101) #[] #[.pointer (some ⟨X, 0, none⟩)]] W fun e w' => e = .returned (.tuple #[]) ∧ RdS w V w' (stB S) ∧ KeepR W w') := Lib.hid (by
    by_cases he : S.2.2 = 0
    · have hq2 := hq1
      rw [he] at hq2
      have hzl : (ints .u8 (nn (zerN 32))).length = 32 := by rw [ints_length, nn_length, zerN_len]
      by_cases h4 : S.2.1.length < 32
      · have hst : stB S = (S.1, S.2.1, 40) := by unfold stB; rw [if_neg (by simpa using he), if_pos h4]
        refine (st_h_err hq2.ver 100 101 X (ints .u8 (nn (zerN 32))) ⟨#[]⟩ 40 (by decide) hzl (ints_one _ _) (enters Try.func100 (by kernel_rfl) rfl) (enters Try.func101 (by kernel_rfl) rfl) (h_hash_no (tx S.2.1) W (by rw [tx_size]; exact h4))).mono ?_
        rintro e w' ⟨he', w2, hb2, rfl⟩
        obtain ⟨r1, r2⟩ := hq1.toErr hb2 40
        rw [hst]
        exact ⟨he', ⟨_, _, _, r1⟩, r2⟩
      · have hst : stB S = (⟨S.1.id, S.1.bl ++ [S.2.1.take 32], S.1.ns, S.1.zs⟩, S.2.1.drop 32, 0) := by unfold stB; rw [if_neg (by simpa using he), if_neg h4]
        rw [hst]
        have hsz : (tx S.2.1).size = S.2.1.length := tx_size _
        have hls : sl (tx S.2.1) = S.2.1 := sl_tx hk.bys
        have hR := h_hash_yes (tx S.2.1) W (by rw [hsz]; omega)
        rw [hls] at hR
        have htl : (S.2.1.take 32).length = 32 := by rw [List.length_take]; omega
        refine st_h_ok hq2.ver 100 101 X (rowH (S.2.1.take 32)) (tx (S.2.1.drop 32)) (rowH_len htl) (rowH_one _) _ (enters Try.func100 (by kernel_rfl) rfl) (enters Try.func101 (by kernel_rfl) rfl) hR fun w2 hb2 => ?_
        obtain ⟨r1, r2⟩ := hq2.toLeft hb2 (tx (S.2.1.drop 32))
        refine (k_block r1 (r2.2 _ _ _ hX (by decide) (by decide) (by decide) (by decide)) (S.2.1.take 32) htl (by have := hk.nb; omega)).mono ?_
        rintro e w' ⟨he', ⟨_, r3⟩, r4⟩
        exact ⟨he', ⟨_, _, _, r3⟩, r2.trans r4⟩
    · have hst : stB S = S := stB_err he
      rw [hst]
      exact (st_h_no hq1.ver he _ _).mono fun e w' ⟨h1, h2⟩ => ⟨h1, by rw [h2]; exact ⟨_, _, _, hq1⟩, by rw [h2]; exact .refl _⟩)
  have HK0 := Lib.hid hK0
  clear hq hb0 hq1 hK0 hX
  go_enter Try.func84, Try.ntmps84
  go_wp2_with fail
  refine HC.out.mono ?_
  rintro e w9 ⟨rfl, h9, k9⟩
  have H9 := Lib.hid h9
  have K9 := Lib.hid (HK0.out.trans k9)
  clear h9 k9
  go_wp2
  go_end0
  exact ⟨rfl, H9.out, K9.out⟩
set_option maxRecDepth 100000 in
theorem h_upTo (m : Nat) (w : World) : Calls Try.prog 97 #[.int .u64 (m : Int)] w fun e w' => e = .returned (.func (.func 107) #[] #[.pointer (some ⟨w.heap.size, 0, none⟩)]) ∧ w' = w.alloc (.cells #[.int .u64 (m : Int)] 104) := by
  go_enter Try.func97, Try.ntmps97
  go_wp2
  go_ret
  exact ⟨rfl, rfl⟩
/-- the name's step -/
theorem s_name {w W : World} {V X : Nat} {S : RSt} {k : Nat} (h : RdS w V W S) (hk : RdOk S k) (hk2 : k ≤ 1000) (hX : Blk W X 143 [.pointer (some ⟨V, 0, none⟩)]) :
    Calls Try.prog 102 #[.pointer (some ⟨V, 0, none⟩), .func (.func 71) #[] #[], .func (.func 103) #[] #[.pointer (some ⟨X, 0, none⟩)]] W fun e w' => e = .returned (.tuple #[]) ∧ RdS w V w' (stN S) ∧ KeepR W w' := by
  obtain ⟨vb, vn, vz, hq1⟩ := h
  by_cases he : S.2.2 = 0
  · have hq2 := hq1
    rw [he] at hq2
    have hls : sl (tx S.2.1) = S.2.1 := sl_tx hk.bys
    have hR := v_Read (tx S.2.1) W (by rw [tx_size]; exact hk.len) (readL S.2.1).1 (readL S.2.1).2.1 (readL S.2.1).2.2 _ _ (by rw [hls]) rfl rfl
    by_cases h4 : (readL S.2.1).2.2 ≠ 0
    · have hst : stN S = (S.1, S.2.1, (readL S.2.1).2.2) := by unfold stN; rw [if_neg (by simpa using he), if_pos h4]
      refine (st_s_err hq2.ver 71 103 X _ _ _ h4 (enters Try.func71 (by kernel_rfl) rfl) (enters Try.func103 (by kernel_rfl) rfl) hR).mono ?_
      rintro e w' ⟨he', w2, hb2, rfl⟩
      obtain ⟨r1, r2⟩ := hq1.toErr hb2 (readL S.2.1).2.2
      rw [hst]
      exact ⟨he', ⟨_, _, _, r1⟩, r2⟩
    · have hst : stN S = (⟨S.1.id, S.1.bl, S.1.ns ++ [(readL S.2.1).1], S.1.zs⟩, (readL S.2.1).2.1, 0) := by unfold stN; rw [if_neg (by simpa using he), if_neg h4]
      rw [hst]
      rw [show (readL S.2.1).2.2 = 0 by omega] at hR
      refine st_s_ok hq2.ver 71 103 X (tx (readL S.2.1).1) (tx (readL S.2.1).2.1) _ (enters Try.func71 (by kernel_rfl) rfl) (enters Try.func103 (by kernel_rfl) rfl) hR fun w2 hb2 => ?_
      obtain ⟨r1, r2⟩ := hq2.toLeft hb2 (tx (readL S.2.1).2.1)
      refine (k_name r1 (r2.2 _ _ _ hX (by decide) (by decide) (by decide) (by decide)) (readL S.2.1).1 (by have := hk.nn'; omega)).mono ?_
      rintro e w' ⟨he', ⟨_, r3⟩, r4⟩
      exact ⟨he', ⟨_, _, _, r3⟩, r2.trans r4⟩
  · have hst : stN S = S := stN_err he
    rw [hst]
    exact (st_s_no hq1.ver he _ _).mono fun e w' ⟨h1, h2⟩ => ⟨h1, by rw [h2]; exact ⟨_, _, _, hq1⟩, by rw [h2]; exact .refl _⟩
theorem upT_err {most : Nat} {s : List Nat} (h : (getL s).2.2 ≠ 0) : upT most s = (0, [], (getL s).2.2) := by unfold upT; rw [if_pos h]
theorem upT_big {most : Nat} {s : List Nat} (h : ¬ (getL s).2.2 ≠ 0) (h2 : most < (getL s).1) : upT most s = (0, [], 111) := by unfold upT; rw [if_neg h, if_pos h2]
theorem upT_ok {most : Nat} {s : List Nat} (h : ¬ (getL s).2.2 ≠ 0) (h2 : ¬ most < (getL s).1) : upT most s = ((getL s).1, s.drop (getL s).2.1, 0) := by unfold upT; rw [if_neg h, if_neg h2]
/-- a number's step: what is kept is asked of the keeping closure -/
theorem s_num {w W : World} {V X Y : Nat} {S : RSt} {k most : Nat} (h : RdS w V W S) (hk : RdOk S k) (hY : Blk W Y 104 [.int .u64 (most : Int)]) (hm : most ≤ 1000) (KF : Nat) (eK : ∀ args w, (callFunc KF args).run Try.prog w = .ok (.enter KF args) w) (S' : RSt)
    (h0 : S.2.2 ≠ 0 → S' = S) (h1 : S.2.2 = 0 → (getL S.2.1).2.2 ≠ 0 → S' = (S.1, S.2.1, (getL S.2.1).2.2)) (h2 : S.2.2 = 0 → ¬ (getL S.2.1).2.2 ≠ 0 → most < (getL S.2.1).1 → S' = (S.1, S.2.1, 111))
    (h3 : S.2.2 = 0 → ¬ (getL S.2.1).2.2 ≠ 0 → ¬ most < (getL S.2.1).1 → ∀ w2, RdS w V w2 (S.1, S.2.1.drop (getL S.2.1).2.1, 0) → KeepR W w2 → Calls Try.prog KF #[.int .i64 ((getL S.2.1).1 : Int), .pointer (some ⟨X, 0, none⟩)] w2 fun e w' => e = .returned (.tuple #[]) ∧ RdS w V w' S' ∧ KeepR W w') :
    Calls Try.prog 96 #[.pointer (some ⟨V, 0, none⟩), .func (.func 107) #[] #[.pointer (some ⟨Y, 0, none⟩)], .func (.func KF) #[] #[.pointer (some ⟨X, 0, none⟩)]] W fun e w' => e = .returned (.tuple #[]) ∧ RdS w V w' S' ∧ KeepR W w' := by
  obtain ⟨vb, vn, vz, hq1⟩ := h
  by_cases he : S.2.2 = 0
  · have hq2 := hq1
    rw [he] at hq2
    have hls : sl (tx S.2.1) = S.2.1 := sl_tx hk.bys
    have hsz : (tx S.2.1).size ≤ 65536 := by rw [tx_size]; exact hk.len
    have hnil : ([] : List Nat) = sl ⟨#[]⟩ := rfl
    by_cases h4 : (getL S.2.1).2.2 ≠ 0
    · have hst := h1 he h4
      have hR := rd_upTo most Y (tx S.2.1) W hY hm hsz 0 (getL S.2.1).2.2 ⟨#[]⟩ (by rw [hls, upT_err h4]; rfl)
      refine (st_i_err hq2.ver 107 KF X Y _ _ _ h4 (enters Try.func107 (by kernel_rfl) rfl) eK hR).mono ?_
      rintro e w' ⟨he', w2, hb2, rfl⟩
      obtain ⟨r1, r2⟩ := hq1.toErr hb2 (getL S.2.1).2.2
      rw [hst]
      exact ⟨he', ⟨_, _, _, r1⟩, r2⟩
    · by_cases h5 : most < (getL S.2.1).1
      · have hst := h2 he h4 h5
        have hR := rd_upTo most Y (tx S.2.1) W hY hm hsz 0 111 ⟨#[]⟩ (by rw [hls, upT_big h4 h5]; rfl)
        refine (st_i_err hq2.ver 107 KF X Y _ _ 111 (by decide) (enters Try.func107 (by kernel_rfl) rfl) eK hR).mono ?_
        rintro e w' ⟨he', w2, hb2, rfl⟩
        obtain ⟨r1, r2⟩ := hq1.toErr hb2 111
        rw [hst]
        exact ⟨he', ⟨_, _, _, r1⟩, r2⟩
      · have hR := rd_upTo most Y (tx S.2.1) W hY hm hsz (getL S.2.1).1 0 (tx (S.2.1.drop (getL S.2.1).2.1)) (by rw [hls, upT_ok h4 h5, sl_tx (hk.bys.drop _)])
        refine st_i_ok hq2.ver 107 KF X Y (getL S.2.1).1 (tx (S.2.1.drop (getL S.2.1).2.1)) _ (enters Try.func107 (by kernel_rfl) rfl) eK hR fun w2 hb2 => ?_
        obtain ⟨r1, r2⟩ := hq2.toLeft hb2 (tx (S.2.1.drop (getL S.2.1).2.1))
        exact h3 he h4 h5 _ ⟨_, _, _, r1⟩ r2
  · have hst := h0 he
    rw [hst]
    exact (st_i_no hq1.ver he _ _).mono fun e w' ⟨h1, h2⟩ => ⟨h1, by rw [h2]; exact ⟨_, _, _, hq1⟩, by rw [h2]; exact .refl _⟩
/-- the size's step -/
theorem s_size {w W : World} {V X Y : Nat} {S : RSt} {k : Nat} (h : RdS w V W S) (hk : RdOk S k) (hk2 : k ≤ 1000) (hX : Blk W X 143 [.pointer (some ⟨V, 0, none⟩)]) (hY : Blk W Y 104 [.int .u64 300]) :
    Calls Try.prog 96 #[.pointer (some ⟨V, 0, none⟩), .func (.func 107) #[] #[.pointer (some ⟨Y, 0, none⟩)], .func (.func 104) #[] #[.pointer (some ⟨X, 0, none⟩)]] W fun e w' => e = .returned (.tuple #[]) ∧ RdS w V w' (stZ S) ∧ KeepR W w' :=
  s_num (most := 300) h hk hY (by decide) 104 (enters Try.func104 (by kernel_rfl) rfl) (stZ S) (fun he => stZ_err he)
    (fun h0 h1 => by unfold stZ; rw [if_neg (by simpa using h0), if_pos h1])
    (fun h0 h1 h2 => by unfold stZ; rw [if_neg (by simpa using h0), if_neg h1, if_pos h2])
    (fun h0 h1 h2 w2 ⟨vb, vn, vz, r1⟩ r2 => by
      have hst : stZ S = (⟨S.1.id, S.1.bl, S.1.ns, S.1.zs ++ [((getL S.2.1).1 : Int)]⟩, S.2.1.drop (getL S.2.1).2.1, 0) := by unfold stZ; rw [if_neg (by simpa using h0), if_neg h1, if_neg h2]
      rw [hst]
      refine (k_size r1 (r2.2 _ _ _ hX (by decide) (by decide) (by decide) (by decide)) ((getL S.2.1).1 : Int) (by have := hk.nz; show S.1.zs.length ≤ 1000000; omega)).mono ?_
      rintro e w' ⟨he', ⟨_, r3⟩, r4⟩
      exact ⟨he', ⟨_, _, _, r3⟩, r2.trans r4⟩)
end Go.Proofs.Ytloogjdojojehaa
namespace Go.Proofs.Ytloogjdojojehaa
open Go.RowKit
set_option linter.unusedVariables false

def flC (w W0 : World) (V X : Nat) (S : RSt) (b : Bool) (W : World) : Prop := RdS w V W S ∧ Blk W X 143 [.pointer (some ⟨V, 0, none⟩)] ∧ KeepR W0 W
def flS (V X : Nat) (i : Nat) (v : Value) (W : World) : Prop :=
  match i with
  | 0 => v = .pointer (some ⟨V, 0, none⟩)
  | 1 => ∃ Y, v = .func (.func 107) #[] #[.pointer (some ⟨Y, 0, none⟩)] ∧ Blk W Y 104 [.int .u64 300]
  | 2 => v = .func (.func 104) #[] #[.pointer (some ⟨X, 0, none⟩)]
  | _ => True
theorem RdS.keep {w W W' : World} {V : Nat} {S : RSt} (h : RdS w V W S) (hb : Below W.heap.size W W') : RdS w V W' S := by
  obtain ⟨vb, vn, vz, hq⟩ := h
  exact ⟨vb, vn, vz, hq.keep hb⟩
theorem flS_mono {V X : Nat} (b : Bool) (i : Nat) (v : Value) (W W' : World) (hb : i = 1 → b = true) (h : flS V X i v W) (hk : Below W.heap.size W W') : flS V X i v W' := by
  match i with
  | 0 | 2 => exact h
  | 1 =>
    obtain ⟨Y, h1, h2⟩ := h
    exact ⟨Y, h1, h2.below hk h2.lt⟩
  | _ + 3 => trivial
set_option maxRecDepth 100000 in
set_option maxHeartbeats 1000000 in
theorem m_file {w wx : World} {V : Nat} {S : RSt} {k : Nat} (h : RdS w V wx S) (hk : RdOk S k) (hk2 : k ≤ 900) :
    Calls Try.prog 85 #[.pointer (some ⟨V, 0, none⟩)] wx fun e w' => e = .returned (.tuple #[]) ∧ RdS w V w' (stF S) ∧ KeepR wx w' := by
  have hX := box_ptr wx V
  have hb0 := (Below.refl wx.heap.size wx).alloc (Nat.le_refl _) (.cells #[.pointer (some ⟨V, 0, none⟩)] 143)
  have hq1 := h.keep hb0
  have hK0 := KeepR.below hb0
  obtain ⟨X, hXX⟩ : ∃ X, wx.heap.size = X := ⟨_, rfl⟩
  rw [hXX] at hX
  obtain ⟨W, hW⟩ : ∃ W, wx.alloc (.cells #[.pointer (some ⟨V, 0, none⟩)] 143) = W := ⟨_, rfl⟩
  rw [hW] at hX hb0 hq1 hK0
  have cX := hX.cell 0
  simp only [List.getElem?_cons_zero] at cX
  have HC := Lib.hid (s_name hq1 hk (by omega) hX)
  have HK0 := Lib.hid hK0
  have HX := Lib.hid hX
  have HOK := Lib.hid (ok_N hk)
  obtain ⟨S1, hS1⟩ : ∃ S1, stN S = S1 := ⟨_, rfl⟩
  have HS1 : Hid (stF S = stZ S1) := Lib.hid (by unfold stF; rw [hS1])
  rw [hS1] at HC HOK
  clear h hb0 hq1 hK0 hX hS1
  go_enter Try.func85, Try.ntmps85
  go_wp2_with fail
  refine HC.out.mono ?_
  rintro e w1 ⟨rfl, h1, k1⟩
  have H1 := Lib.hid h1
  have X1 := Lib.hid (k1.2 _ _ _ HX.out (by decide) (by decide) (by decide) (by decide))
  have K1 := Lib.hid (HK0.out.trans k1)
  have HC1 : Hid (flC w wx V X S1 false w1.drew) := Lib.hid ⟨h1.keep (Below.refl _ _).drew, X1.out.drew, K1.out.trans (.below (Below.refl _ _).drew)⟩
  clear h1 k1 cX
  go_wp2_with fail
  refine region_mix 1 3 (by decide) mixed (by kernel_rfl) (by kernel_rfl) (fun u => #[_, _, _, _, _, u 0, u 1, u 2, _]) [] (fun i => undef) rfl
    (flC w wx V X S1) HC1.out (fun _ W W' => Below W.heap.size W W') (flS V X) ?mono ?step ?one ?last
  case mono => exact flS_mono
  case step =>
    intro bb u W j o hj hjk _ ho hC hd
    rcases j with _ | _ | _ | j
    all_goals try (simp only [List.getElem?_cons_zero, List.getElem?_cons_succ, Option.some.injEq] at ho; subst ho)
    · have c2 := hC.2.1.cell 0
      simp only [List.getElem?_cons_zero] at c2
      go_wp2_with fail
      exact ⟨_, rfl, rfl, hC, Below.refl _ _⟩
    · omega
    · go_wp2_with fail
      exact ⟨_, rfl, rfl, hC, Below.refl _ _⟩
    · omega
  case one =>
    intro u W o ho hC hd
    simp only [List.getElem?_cons_zero, List.getElem?_cons_succ, Option.some.injEq] at ho
    subst ho
    have hb := (Below.refl W.heap.size W).alloc (Nat.le_refl _) (.cells #[.int .u64 300] 104)
    have HCC : Hid (flC w wx V X S1 true (W.alloc (.cells #[.int .u64 300] 104))) := Lib.hid ⟨hC.1.keep hb, hC.2.1.below hb hC.2.1.lt, hC.2.2.trans (.below hb)⟩
    have HB := Lib.hid hb
    have HY := Lib.hid (Blk.new' W 104 [.int .u64 300] rfl)
    have HU := Lib.hid (h_upTo 300 W)
    clear hC hd hb
    go_wp2_with fail
    refine HU.out.mono ?_
    rintro e w2 ⟨rfl, rfl⟩
    go_wp2_with fail
    exact ⟨_, rfl, ⟨_, rfl, HY.out⟩, HCC.out, HB.out⟩
  case last =>
    intro u W o ho hC hS
    simp only [List.getElem?_cons_zero, List.getElem?_cons_succ, Option.some.injEq] at ho
    subst ho
    have e0 : u 0 = .pointer (some ⟨V, 0, none⟩) := hS 0 (by decide)
    obtain ⟨Y, e1, hY⟩ : ∃ Y, u 1 = .func (.func 107) #[] #[.pointer (some ⟨Y, 0, none⟩)] ∧ Blk W Y 104 [.int .u64 300] := hS 1 (by decide)
    have e2 : u 2 = .func (.func 104) #[] #[.pointer (some ⟨X, 0, none⟩)] := hS 2 (by decide)
    have HZ := Lib.hid (s_size hC.1 HOK.out (by omega) hC.2.1 hY)
    have HKK := Lib.hid hC.2.2
    clear hC hS hY
    rw [e0, e1, e2]
    go_wp2_with fail
    refine HZ.out.mono ?_
    rintro e w3 ⟨rfl, h3, k3⟩
    have H3 := Lib.hid h3
    have K3 := Lib.hid (HKK.out.trans k3)
    clear h3 k3
    go_wp2
    go_end0
    exact ⟨rfl, by rw [HS1.out]; exact H3.out, K3.out⟩
/-! ### many -/
/-- what one of them is asked: its steps keep what is kept -/
def OneOk (w : World) (V OF d : Nat) (one : RSt → RSt) : Prop :=
  (∀ S k, RdOk S k → RdOk (one S) (k + d)) ∧ ∀ (wy : World) S k, RdS w V wy S → RdOk S k → k ≤ 900 → Calls Try.prog OF #[.pointer (some ⟨V, 0, none⟩)] wy fun e w' => e = .returned (.tuple #[]) ∧ RdS w V w' (one S) ∧ KeepR wy w'
set_option maxRecDepth 100000 in
set_option maxHeartbeats 1000000 in
theorem m_many1 {w wx : World} {V X OF d : Nat} {one : RSt → RSt} (ho : OneOk w V OF d one) (eO : ∀ args w, (callFunc OF args).run Try.prog w = .ok (.enter OF args) w) {S : RSt} {k n : Nat} (h : RdS w V wx S) (hk : RdOk S k) (hn : n ≤ 1000) (hkn : k + d * n ≤ 900)
    (hX : Blk wx X 1 [.func (.func OF) #[.pointer (some ⟨V, 0, none⟩)] #[]]) :
    Calls Try.prog 98 #[.int .i64 (n : Int), .pointer (some ⟨X, 0, none⟩)] wx fun e w' => e = .returned (.tuple #[]) ∧ RdS w V w' (iterS one n S) ∧ KeepR wx w' := by
  have H := Lib.hid h
  have HX := Lib.hid hX
  have HOK : Hid (∀ j, j ≤ n → RdOk (iterS one j S) (k + d * j) ∧ k + d * j ≤ 900) := Lib.hid fun j hj => ⟨ok_iter ho.1 j S k hk, by have : d * j ≤ d * n := Nat.mul_le_mul_left _ hj; omega⟩
  have HO := Lib.hid ho
  clear h hX hk ho
  go_enter Try.func98, Try.ntmps98
  go_wp2
  go_loopw [4] (fun i wr => ∃ j : Nat, j ≤ n ∧ i = .int .i64 (j : Int) ∧ RdS w V wr (iterS one j S) ∧ KeepR wx wr) (fun i _ => n - (intOf i).toNat)
  case atStart => exact ⟨0, by omega, rfl, H.out, .refl _⟩
  case round =>
    obtain ⟨j, hj, rfl, hr, kr⟩ := hrel
    have KR := Lib.hid kr
    have HR := Lib.hid hr
    clear kr hr
    by_cases hlt : j < n
    · have d1 : (j : Int) < (n : Int) := by omega
      have d2 : (n : Int) ≤ 1000 := by omega
      obtain ⟨q1, q2⟩ := HOK.out j hj
      have HC := Lib.hid (HO.out.2 wr _ _ HR.out q1 q2)
      have c0 := (KR.out.2 _ _ _ HX.out (by decide) (by decide) (by decide) (by decide)).cell 0
      simp only [List.getElem?_cons_zero] at c0
      clear q1 q2
      go_wp2_with fail
      refine HC.out.mono ?_
      rintro e w2 ⟨rfl, h2, k2⟩
      have H2 := Lib.hid h2
      have K2 := Lib.hid (KR.out.trans k2)
      clear h2 k2 c0
      go_wp2
      go_roundw
      case rel => exact ⟨j + 1, by omega, by go_num, by rw [iter_snoc]; exact H2.out, K2.out⟩
      case measure => simp [intOf]; omega
    · obtain rfl : j = n := by omega
      go_wp2
      go_end0
      exact ⟨rfl, HR.out, KR.out⟩
set_option maxRecDepth 100000 in
set_option maxHeartbeats 1000000 in
theorem m_many {w wx : World} {V OF d most : Nat} {one : RSt → RSt} (ho : OneOk w V OF d one) (eO : ∀ args w, (callFunc OF args).run Try.prog w = .ok (.enter OF args) w) {S : RSt} {k : Nat} (h : RdS w V wx S) (hk : RdOk S k) (hm : most ≤ 1000) (hkn : k + d * most ≤ 900) :
    Calls Try.prog 83 #[.pointer (some ⟨V, 0, none⟩), .int .u64 (most : Int), .func (.func OF) #[.pointer (some ⟨V, 0, none⟩)] #[]] wx fun e w' => e = .returned (.tuple #[]) ∧ RdS w V w' (stM most one S) ∧ KeepR wx w' := by
  have hX := Blk.new' wx 1 (c := #[.func (.func OF) #[.pointer (some ⟨V, 0, none⟩)] #[]]) [.func (.func OF) #[.pointer (some ⟨V, 0, none⟩)] #[]] rfl
  have hb0 := (Below.refl wx.heap.size wx).alloc (Nat.le_refl _) (.cells #[.func (.func OF) #[.pointer (some ⟨V, 0, none⟩)] #[]] 1)
  have hq1 := h.keep hb0
  have hK0 := KeepR.below hb0
  obtain ⟨X, hXX⟩ : ∃ X, wx.heap.size = X := ⟨_, rfl⟩
  rw [hXX] at hX
  obtain ⟨W, hW⟩ : ∃ W, wx.alloc (.cells #[.func (.func OF) #[.pointer (some ⟨V, 0, none⟩)] #[]] 1) = W := ⟨_, rfl⟩
  rw [hW] at hX hb0 hq1 hK0
  have hb1 := (Below.refl W.heap.size W).alloc (Nat.le_refl _) (.cells #[.int .u64 (most : Int)] 104)
  have hX2 := hX.below hb1 hX.lt
  have hY := Blk.new' W 104 (c := #[.int .u64 (most : Int)]) [.int .u64 (most : Int)] rfl
  have hq2 := hq1.keep hb1
  have HC : Hid (Calls Try.prog 96 #[.pointer (some ⟨V, 0, none⟩), .func (.func 107) #[] #[.pointer (some ⟨W.heap.size, 0, none⟩)], .func (.func 98) #[] #[.pointer (some ⟨X, 0, none⟩)]] (W.alloc (.cells #[.int .u64 (most : Int)] 104)) fun e w' => e = .returned (.tuple #[]) ∧ RdS w V w' (stM most one S) ∧ KeepR (W.alloc (.cells #[.int .u64 (most : Int)] 104)) w') := Lib.hid
    (s_num hq2 hk hY hm _ (enters Try.func98 (by kernel_rfl) rfl) _ (fun he => stM_err he)
      (fun h0 h1 => by unfold stM; rw [if_neg (by simpa using h0), if_pos h1])
      (fun h0 h1 h2 => by unfold stM; rw [if_neg (by simpa using h0), if_neg h1, if_pos h2])
      (fun h0 h1 h2 w2 r1 r2 => by
        have hst : stM most one S = iterS one (getL S.2.1).1 (S.1, S.2.1.drop (getL S.2.1).2.1, 0) := by unfold stM; rw [if_neg (by simpa using h0), if_neg h1, if_neg h2]
        rw [hst]
        have hmul : d * (getL S.2.1).1 ≤ d * most := Nat.mul_le_mul_left _ (by omega)
        refine (m_many1 ho eO r1 (hk.drop _ 0) (by omega) (by omega) (r2.2 _ _ _ hX2 (by decide) (by decide) (by decide) (by decide))).mono ?_
        rintro e w' ⟨he', r3, r4⟩
        exact ⟨he', r3, r2.trans r4⟩))
  have HU := Lib.hid (h_upTo most W)
  have HK1 := Lib.hid (hK0.trans (.below hb1))
  clear h hb0 hq1 hK0 hX hb1 hX2 hY hq2 ho hk
  go_enter Try.func83, Try.ntmps83
  go_wp2_with fail
  refine HU.out.mono ?_
  rintro e w1 ⟨rfl, rfl⟩
  go_wp2_with fail
  refine HC.out.mono ?_
  rintro e w9 ⟨rfl, h9, k9⟩
  have H9 := Lib.hid h9
  have K9 := Lib.hid (HK1.out.trans k9)
  clear h9 k9
  go_wp2
  go_end0
  exact ⟨rfl, H9.out, K9.out⟩
theorem one_block (w : World) (V : Nat) : OneOk w V 84 1 stB := ⟨fun _ _ h => ok_B h, fun wy S k h hk h9 => m_block h hk (by omega)⟩
theorem one_file (w : World) (V : Nat) : OneOk w V 85 2 stF := ⟨fun _ _ h => ok_F h, fun wy S k h hk h9 => m_file h hk h9⟩
/-! ### end -/
set_option maxRecDepth 100000 in
set_option maxHeartbeats 1000000 in
theorem m_end {w wx : World} {V : Nat} {S : RSt} {k : Nat} (h : RdS w V wx S) (hk : RdOk S k) (hk2 : k ≤ 900) :
    Calls Try.prog 86 #[.pointer (some ⟨V, 0, none⟩)] wx fun e w' => e = .returned (.tuple #[]) ∧ RdS w V w' (stE S) ∧ KeepR wx w' := by
  obtain ⟨vb, vn, vz, hq⟩ := h
  have c5 := hq.ver.cell 5
  simp only [rdrC, List.getElem?_cons_zero, List.getElem?_cons_succ] at c5
  by_cases he : S.2.2 = 0
  · rw [he] at c5
    have hPA : ∀ j v, (cellsV S.1.id vb vn vz)[j]? = some v → wx.cell? ((⟨V, 0, none⟩ : Addr).add j) = some v := fun j v hv => by
      rw [Addr.add_mid, Nat.zero_add, hq.ver.cell]
      match j, hv with
      | 0, hv => exact hv
      | 1, hv => exact hv
      | 2, hv => exact hv
      | 3, hv => exact hv
      | _ + 4, hv => simp [cellsV] at hv
    have PA := Lib.hid hPA
    have HQ := Lib.hid hq
    have i1 := hk.nb
    have i2 := hk.nn'
    have i3 := hk.nz
    have HM : Hid (∀ b, mayH S.1.bl.length S.1.ns S.1.zs = b → Calls Try.prog 58 #[.agg (cellsV S.1.id vb vn vz).toArray] wx fun e w' => e = .returned (.bool b) ∧ Below wx.heap.size wx w') := Lib.hid fun b hb => h_May S.1 _ b wx hb hq.vv hk.nby (by omega) (by omega) (by omega)
    have g0 : ((0 : Int) == 0) = true := rfl
    have e4 : (cellsV S.1.id vb vn vz).length = 4 := rfl
    clear hPA hk i1 i2 i3
    by_cases hm : mayH S.1.bl.length S.1.ns S.1.zs = true
    · have hst : stE S = S := by unfold stE; rw [if_neg (by simpa using he), if_pos hm]
      have HMT := Lib.hid (HM.out true hm)
      have HST := Lib.hid hst
      clear hq hm hst
      generalize cellsV S.1.id vb vn vz = C at *
      go_enter Try.func86, Try.ntmps86
      go_wp2_with (refine wpList_load_addrV rfl 30 _ rfl ⟨V, 0, none⟩ rfl C PA.out Try.underlying30 rfl (by rw [size_ver, e4]) ?_)
      refine HMT.out.mono ?_
      rintro e w1 ⟨rfl, hb1⟩
      have Q1 := Lib.hid (HQ.out.keep hb1)
      have K1 := Lib.hid (KeepR.below hb1)
      clear hb1
      go_wp2
      go_end0
      exact ⟨rfl, by rw [HST.out]; exact ⟨_, _, _, Q1.out⟩, K1.out⟩
    · have hst : stE S = (S.1, S.2.1, 1) := by unfold stE; rw [if_neg (by simpa using he), if_neg hm]
      have HMT := Lib.hid (HM.out false (by simpa using hm))
      have HST := Lib.hid hst
      clear hq hm hst
      generalize cellsV S.1.id vb vn vz = C at *
      go_enter Try.func86, Try.ntmps86
      go_wp2_with (refine wpList_load_addrV rfl 30 _ rfl ⟨V, 0, none⟩ rfl C PA.out Try.underlying30 rfl (by rw [size_ver, e4]) ?_)
      refine HMT.out.mono ?_
      rintro e w1 ⟨rfl, hb1⟩
      obtain ⟨r1, r2⟩ := HQ.out.toErr hb1 1
      have Q1 := Lib.hid r1
      have K1 := Lib.hid r2
      have V1 := HQ.out.ver.below hb1 HQ.out.ver.lt
      have d5 := V1.cell 5
      have f5 := V1.free 5
      simp only [rdrC, List.getElem?_cons_zero, List.getElem?_cons_succ] at d5
      clear hb1 V1 r1 r2
      go_wp2
      go_end0
      exact ⟨rfl, by rw [HST.out]; exact ⟨_, _, _, Q1.out⟩, K1.out⟩
  · have hst : stE S = S := stE_err he
    have HST := Lib.hid hst
    have HQ : Hid (RdS w V wx S) := Lib.hid ⟨_, _, _, hq⟩
    have g0 : ((S.2.2 : Int) == 0) = false := by rw [beq_eq_false_iff_ne]; omega
    clear hq hst he hk
    generalize S.2.2 = er at *
    go_enter Try.func86, Try.ntmps86
    go_wp2
    go_end0
    exact ⟨rfl, by rw [HST.out]; exact HQ.out, .refl _⟩
end Go.Proofs.Ytloogjdojojehaa
namespace Go.Proofs.Ytloogjdojojehaa
open Go.RowKit
set_option linter.unusedVariables false

/-- the cells of no reader -/
def zR (s : ByteArray) : List Value := rdrC 0 (.slice none 0 0) (.slice none 0 0) (.slice none 0 0) s 0
theorem build_rdr (s : ByteArray) (w : World) : (Instr.build 130 #[(1, .string s)]).run Try.prog w = .ok (.agg (zR s).toArray) w := by kernel_rfl
theorem alloc_rdr (w : World) : (Instr.alloc 130 true (.tuple #[])).run Try.prog w = .ok (.pointer (some ⟨w.heap.size, 0, none⟩)) (w.alloc (.cells (zR ⟨#[]⟩).toArray 130)) := by kernel_rfl
theorem zR_one (s : ByteArray) : (zR s).toArray.all (·.oneCell') = true := by simp [zR, rdrC, Value.oneCell']
/-- the reader's cells and its slices, without what is below -/
structure RdP (base V : Nat) (wx : World) (i : Nat) (vb vn vz : Value) (bl ns : List (List Nat)) (zs : List Int) (left : ByteArray) (er : Nat) : Prop where
  ver : Blk wx V 130 (rdrC i vb vn vz left er)
  ob : OwnR wx base 34 32 vb (rowsH bl)
  on : OwnR wx base 9 1 vn (rowsS ns)
  oz : OwnR wx base 3 1 vz (rowsZF zs)
theorem RdQ.part {w wx : World} {V i : Nat} {vb vn vz : Value} {bl ns : List (List Nat)} {zs : List Int} {left : ByteArray} {er : Nat} (h : RdQ w V wx i vb vn vz bl ns zs left er) : RdP w.heap.size V wx i vb vn vz bl ns zs left er := ⟨h.ver, h.ob, h.on, h.oz⟩
/-- worlds in which Read's result is written -/
def rrC (w w1 : World) (B V : Nat) (S : RSt) (C : List Value) (vb vn vz : Value) (b : Bool) (W : World) : Prop := RdP w1.heap.size V W S.1.id vb vn vz S.1.bl S.1.ns S.1.zs (tx S.2.1) S.2.2 ∧ Blk W B 30 (if b then C else zV) ∧ Below w.heap.size w W
def reS (V er : Nat) (i : Nat) (v : Value) (W : World) : Prop :=
  match i with
  | 0 => v = .agg zV.toArray
  | 1 => v = .pointer (some ⟨V, 5, none⟩)
  | 2 => v = .int .i64 (er : Int)
  | 4 => v = .string ⟨#[]⟩
  | _ => True
theorem reS_mono {V er : Nat} (i : Nat) (v : Value) (W W' : World) (h : reS V er i v W) : reS V er i v W' :=
  match i with
  | 0 | 1 | 2 | 3 | 4 => h
  | _ + 5 => trivial
def roS (V : Nat) (C : List Value) (r : ByteArray) (i : Nat) (v : Value) (W : World) : Prop :=
  match i with
  | 0 => v = .pointer (some ⟨V, 0, none⟩)
  | 1 => v = .agg C.toArray
  | 2 => v = .pointer (some ⟨V, 4, none⟩)
  | 3 | 5 => v = .string r
  | _ => True
theorem roS_mono {V : Nat} {C : List Value} {r : ByteArray} (i : Nat) (v : Value) (W W' : World) (h : roS V C r i v W) : roS V C r i v W' :=
  match i with
  | 0 | 1 | 2 | 3 | 4 | 5 => h
  | _ + 6 => trivial
set_option maxRecDepth 100000 in
set_option maxHeartbeats 4000000 in
theorem h_Read (s : ByteArray) (T : TellV) (w : World) (hs : s.size ≤ 65536) (hT : tellA (sl s) = T) :
    Calls Try.prog 64 #[.string s] w (RdRet T w) := by
  obtain ⟨B, hB⟩ : ∃ B, w.heap.size = B := ⟨_, rfl⟩
  have HBE := Lib.hid hB
  have m0 := Blk.newAt w B hB 30 (c := zV.toArray) _ rfl
  have b0 := (Below.refl w.heap.size w).alloc (Nat.le_refl _) (.cells zV.toArray 30)
  have z0 : (w.alloc (.cells zV.toArray 30)).heap.size = B + 1 := by simp [hB]
  obtain ⟨w1, hw1⟩ : ∃ w1, w.alloc (.cells zV.toArray 30) = w1 := ⟨_, rfl⟩
  rw [hw1] at m0 b0 z0
  have k1 := Blk.newAt w1 (B + 1) z0 130 (c := (zR ⟨#[]⟩).toArray) _ rfl
  have k2 := k1.row (zR s) rfl
  have b1 := (Below.refl w1.heap.size w1).alloc (Nat.le_refl _) (.cells (zR ⟨#[]⟩).toArray 130)
  have b2 := below_setRow b1 (show w1.heap.size ≤ B + 1 by omega) (zR s).toArray
  have m2 := m0.below b2 m0.lt
  have bw2 := b0.trans (b2.mono b0.size)
  have K1 := Lib.hid k1
  obtain ⟨w2, hw2⟩ : ∃ w2, (w1.alloc (.cells (zR ⟨#[]⟩).toArray 130)).setRow (B + 1) (zR s).toArray = w2 := ⟨_, rfl⟩
  rw [hw2] at k2 b2 m2 bw2
  have HW1 := Lib.hid hw1
  have HW2 := Lib.hid hw2
  have hls : tx (sl s) = s := tx_sl s
  have r2 : RdS w1 (B + 1) w2 (noV, sl s, 0) := ⟨.slice none 0 0, .slice none 0 0, .slice none 0 0, by omega, by show Blk w2 (B + 1) 130 (rdrC 0 (.slice none 0 0) (.slice none 0 0) (.slice none 0 0) (tx (sl s)) 0); rw [hls]; exact k2, OwnR.nil _ _ _ _, OwnR.nil _ _ _ _, OwnR.nil _ _ _ _, b2⟩
  have o2 : RdOk (noV, sl s, 0) 0 := ⟨sl_bys s, by show (sl s).length ≤ 65536; rw [sl_len]; exact hs, Nat.le_refl _, Nat.le_refl _, Nat.le_refl _, fun x hx => by cases hx⟩
  have HA := Lib.hid (m_id r2 o2 (by omega))
  have o3 := ok_I o2
  have HB := Lib.hid (fun wx (h : RdS w1 (B + 1) wx (stI (noV, sl s, 0))) => m_many (most := 16) (one_block w1 (B + 1)) (enters Try.func84 (by kernel_rfl) rfl) h o3 (by decide) (by decide))
  have o4 := ok_M (most := 16) (one_block w1 (B + 1)).1 o3
  have HC := Lib.hid (fun wx (h : RdS w1 (B + 1) wx (stM 16 stB (stI (noV, sl s, 0)))) => m_many (most := 12) (one_file w1 (B + 1)) (enters Try.func85 (by kernel_rfl) rfl) h o4 (by decide) (by decide))
  have o5 := ok_M (most := 12) (one_file w1 (B + 1)).1 o4
  have HD := Lib.hid (fun wx (h : RdS w1 (B + 1) wx (stM 12 stF (stM 16 stB (stI (noV, sl s, 0))))) => m_end h o5 (by decide))
  have hst := st_tell (sl s)
  rw [hT] at hst
  generalize stI (noV, sl s, 0) = S3 at *
  generalize stM 16 stB S3 = S4 at *
  generalize stM 12 stF S4 = S5 at *
  generalize stE S5 = S6 at *
  have HST := Lib.hid hst
  have M2 := Lib.hid m2
  have BW2 := Lib.hid bw2
  have Z1 := Lib.hid z0
  have B0 := Lib.hid b0
  clear m0 k1 b1 b2 k2 m2 bw2 r2 o2 o3 o4 o5 hst hw2 hT hs hls b0
  have HAL : Hid ((Instr.alloc 130 true (.tuple #[])).run Try.prog w1 = .ok (.pointer (some ⟨w1.heap.size, 0, none⟩)) (w1.alloc (.cells (zR ⟨#[]⟩).toArray 130))) := Lib.hid (alloc_rdr w1)
  have hZ1 := zR_one s
  have hZl : (zR s).length = 6 := rfl
  have hZ0 : (zR ⟨#[]⟩).length = 6 := rfl
  have HBU := Lib.hid (fun wx => build_rdr s wx)
  generalize zR ⟨#[]⟩ = Z0 at *
  generalize zR s = ZS at *
  have HZ1 := Lib.hid hZ1
  have HZl := Lib.hid hZl
  have HZ0 := Lib.hid hZ0
  clear hZ1 hZl hZ0
  go_enter Try.func64, Try.ntmps64
  go_wp2_with (first | (refine wpList_alloc_n rfl 30 rfl B hB _ (alloc_ver _) ?_; rw [HW1.out]) | (refine wpList_build_at rfl 130 _ rfl (.agg ZS.toArray) (by simp only [List.map_toArray, List.map_cons, List.map_nil]; exact HBU.out _) ?_) | (refine wpList_alloc_n rfl 130 rfl (B + 1) Z1.out _ HAL.out ?_) | (refine wpList_store_blk rfl 130 _ _ rfl (B + 1) ZS rfl rfl K1.out (by rw [size_rdr, HZl.out]) (by rw [HZl.out, HZ0.out]) HZ1.out ?_; rw [HW2.out]))
  (with_reducible refine HA.out.mono ?_)
  rintro e w3 ⟨rfl, r3, k3⟩
  have R3 := Lib.hid r3
  have K3 := Lib.hid k3
  clear r3 k3 HA
  go_wp2_with fail
  refine (HB.out w3 R3.out).mono ?_
  rintro e w4 ⟨rfl, r4, k4⟩
  have R4 := Lib.hid r4
  have K4 := Lib.hid (K3.out.trans k4)
  clear r4 k4 HB R3 K3
  go_wp2_with fail
  refine (HC.out w4 R4.out).mono ?_
  rintro e w5 ⟨rfl, r5, k5⟩
  have R5 := Lib.hid r5
  have K5 := Lib.hid (K4.out.trans k5)
  clear r5 k5 HC R4 K4
  go_wp2_with fail
  (with_reducible refine (HD.out w5 R5.out).mono ?_)
  rintro e w6 ⟨rfl, r6, k6⟩
  have K6 := Lib.hid (K5.out.trans k6)
  have M6 := Lib.hid (K6.out.2 _ _ _ M2.out (by decide) (by decide) (by decide) (by decide))
  obtain ⟨vb, vn, vz, hq⟩ := r6
  have B6 := Lib.hid (B0.out.trans (hq.bel.mono B0.out.size))
  have HQ := Lib.hid hq
  have c5 := hq.ver.cell 5
  simp only [rdrC, List.getElem?_cons_zero, List.getElem?_cons_succ] at c5
  clear k6 HD R5 K5 K6 hq
  by_cases he : S6.2.2 = 0
  · have hst := HST.out
    unfold stOut at hst
    rw [if_neg (by simpa using he)] at hst
    rw [he] at c5
    have HT := Lib.hid hst
    obtain ⟨C, hC⟩ : ∃ C, cellsV S6.1.id vb vn vz = C := ⟨_, rfl⟩
    have hCl : C.length = 4 := by rw [← hC]; rfl
    have hCo : C.toArray.all (·.oneCell') = true := by
      obtain ⟨p1, c1, q1⟩ := HQ.out.ob.isSlice
      obtain ⟨p2, c2, q2⟩ := HQ.out.on.isSlice
      obtain ⟨p3, c3, q3⟩ := HQ.out.oz.isSlice
      rw [← hC, q1, q2, q3]
      exact cellsV_one _ _ _ _ _ _ _ _ _ _
    have HC := Lib.hid hC
    have HCl := Lib.hid hCl
    have HCo := Lib.hid hCo
    have HC0 : Hid (rrC w w1 B (B + 1) S6 C vb vn vz false w6.drew) := Lib.hid ⟨(HQ.out.keep (Below.refl _ _).drew).part, M6.out.drew, B6.out.drew⟩
    clear hst he hC hCl hCo
    go_wp2_with fail
    refine region_mix 4 6 (by decide) mixed (by kernel_rfl) (by kernel_rfl) (fun u => #[_, _, _, u 5, _, _, _, _, _, _, _, _, _, _, _, _, _, _, _, _, u 0, u 1, u 2, u 3]) [] (fun i => match i with | 5 => _ | _ => undef) rfl
      (rrC w w1 B (B + 1) S6 C vb vn vz) HC0.out (fun _ _ _ => True) (roS (B + 1) C (tx S6.2.1)) ?mono ?step ?one ?last
    case mono => exact fun b i v W W' _ h _ => roS_mono i v W W' h
    case step =>
      intro bb u W i o hi hik _ ho hC hd
      rcases i with _ | _ | _ | _ | _ | _ | i
      all_goals try (simp only [List.getElem?_cons_zero, List.getElem?_cons_succ, Option.some.injEq] at ho; subst ho)
      · go_wp2_with fail
        exact ⟨_, rfl, rfl, hC, trivial⟩
      · have h0 : u 0 = .pointer (some ⟨B + 1, 0, none⟩) := hd ⟨0, .data⟩ (by simp) rfl
        have PA : Hid (∀ j v, C[j]? = some v → W.cell? ((⟨B + 1, 0, none⟩ : Addr).add j) = some v) := Lib.hid fun j v hv => by
          rw [Addr.add_mid, Nat.zero_add, hC.1.ver.cell]
          rw [← HC.out] at hv
          match j, hv with
          | 0, hv => exact hv
          | 1, hv => exact hv
          | 2, hv => exact hv
          | 3, hv => exact hv
          | _ + 4, hv => simp [cellsV] at hv
        rw [h0]
        go_wp2_with (refine wpList_load_addr rfl 30 _ rfl ⟨B + 1, 0, none⟩ rfl C PA.out Try.underlying30 rfl (by rw [size_ver, HCl.out]) ?_)
        exact ⟨_, by simp [upd, h0], rfl, hC, trivial⟩
      · go_wp2_with fail
        exact ⟨_, rfl, rfl, hC, trivial⟩
      · have h0 : u 2 = .pointer (some ⟨B + 1, 4, none⟩) := hd ⟨2, .data⟩ (by simp) rfl
        have c4 := hC.1.ver.cell 4
        simp only [rdrC, List.getElem?_cons_zero, List.getElem?_cons_succ] at c4
        rw [h0]
        go_wp2_with fail
        exact ⟨_, by simp [upd, h0], rfl, hC, trivial⟩
      · omega
      · have h0 : u 3 = .string (tx S6.2.1) := hd ⟨3, .data⟩ (by simp) rfl
        rw [h0]
        go_wp2_with fail
        exact ⟨_, by simp [upd, h0], rfl, hC, trivial⟩
      · omega
    case one =>
      intro u W o ho hC hd
      simp only [List.getElem?_cons_zero, List.getElem?_cons_succ, Option.some.injEq] at ho
      subst ho
      have h0 : u 1 = .agg C.toArray := hd ⟨1, .data⟩ (by simp) rfl
      have hz : Blk W B 30 zV := hC.2.1
      have HZ := Lib.hid hz
      have hlo := hC.1
      have Q1 : Hid (RdP w1.heap.size (B + 1) (W.setRow B C.toArray) S6.1.id vb vn vz S6.1.bl S6.1.ns S6.1.zs (tx S6.2.1) S6.2.2) := Lib.hid
        ⟨hlo.ver.rowOther (by omega) C.toArray, hlo.ob.rowApart B C.toArray (fun b hb => by have := (hlo.ob.lt b hb).1; rw [Z1.out] at this; omega), hlo.on.rowApart B C.toArray (fun b hb => by have := (hlo.on.lt b hb).1; rw [Z1.out] at this; omega), hlo.oz.rowApart B C.toArray (fun b hb => by have := (hlo.oz.lt b hb).1; rw [Z1.out] at this; omega)⟩
      have Q2 := Lib.hid (hz.row C (by rw [HCl.out]; rfl))
      have Q3 := Lib.hid (below_setRow hC.2.2 (show w.heap.size ≤ B by rw [HBE.out]; exact Nat.le_refl _) C.toArray)
      clear hz hC hd hlo
      rw [h0]
      go_wp2_with (refine wpList_store_blk rfl 30 _ _ rfl B C rfl rfl HZ.out (by rw [size_ver, HCl.out]) (by rw [HCl.out]; rfl) HCo.out ?_)
      exact ⟨undef, by simp [upd, h0]; rfl, trivial, ⟨Q1.out, Q2.out, Q3.out⟩, trivial⟩
    case last =>
      intro u W o ho hC hS
      simp only [List.getElem?_cons_zero, List.getElem?_cons_succ, Option.some.injEq] at ho
      subst ho
      have h4 : u 5 = .string (tx S6.2.1) := hS 5 (by decide)
      have hz : Blk W B 30 C := hC.2.1
      have HZ := Lib.hid hz
      have HCC := Lib.hid hC
      clear hS hC hz
      rw [h4]
      go_wp2_with fail
      refine bodyPost_ret (v := .tuple #[.agg C.toArray, .string (tx S6.2.1), .int .i64 0]) (results_cell_tmp2 rfl _ _ B rfl (.string (tx S6.2.1)) (.int .i64 0) rfl rfl HZ.out Try.underlying30 rfl (by rw [size_ver, HCl.out])) rfl ?_
      rw [← HT.out]
      have hq := HCC.out.1
      have hle : w.heap.size ≤ w1.heap.size := by rw [Z1.out, HBE.out]; omega
      exact ⟨_, rfl, ⟨vb, vn, vz, by rw [HC.out], hq.ob.lower hle, hq.on.lower hle, hq.oz.lower hle⟩, HCC.out.2.2⟩
  · have hst := HST.out
    unfold stOut at hst
    rw [if_pos he] at hst
    have HT := Lib.hid hst
    have g1 : ((S6.2.2 : Int) != 0) = true := by rw [bne_iff_ne]; omega
    have HC0 : Hid (rrC w w1 B (B + 1) S6 zV vb vn vz false w6.drew) := Lib.hid ⟨(HQ.out.keep (Below.refl _ _).drew).part, M6.out.drew, B6.out.drew⟩
    obtain ⟨er, her⟩ : ∃ er, S6.2.2 = er := ⟨_, rfl⟩
    have HER := Lib.hid her
    rw [her] at HT g1 c5
    clear hst he her
    go_wp2_with fail
    refine region_mix 3 5 (by decide) mixed (by kernel_rfl) (by kernel_rfl) (fun u => #[_, _, _, u 4, _, _, _, _, _, _, _, _, _, _, _, _, _, u 0, u 1, u 2, _, _, _, _]) [] (fun i => match i with | 4 => _ | _ => undef) rfl
      (rrC w w1 B (B + 1) S6 zV vb vn vz) HC0.out (fun _ _ _ => True) (reS (B + 1) er) ?mono ?step ?one ?last
    case mono => exact fun b i v W W' _ h _ => reS_mono i v W W' h
    case step =>
      intro bb u W i o hi hik _ ho hC hd
      rcases i with _ | _ | _ | _ | _ | i
      all_goals try (simp only [List.getElem?_cons_zero, List.getElem?_cons_succ, Option.some.injEq] at ho; subst ho)
      · go_wp2_with (refine wpList_build_at rfl 30 _ rfl (.agg zV.toArray) (by simp only [List.map_toArray, List.map_nil]; exact build_ver _) ?_)
        exact ⟨_, rfl, rfl, hC, trivial⟩
      · go_wp2_with fail
        exact ⟨_, rfl, rfl, hC, trivial⟩
      · have h0 : u 1 = .pointer (some ⟨B + 1, 5, none⟩) := hd ⟨1, .data⟩ (by simp) rfl
        have d5 := hC.1.ver.cell 5
        simp only [rdrC, List.getElem?_cons_zero, List.getElem?_cons_succ] at d5
        rw [HER.out] at d5
        rw [h0]
        go_wp2_with fail
        exact ⟨_, by simp [upd, h0], rfl, hC, trivial⟩
      · omega
      · go_wp2_with fail
        exact ⟨_, rfl, rfl, hC, trivial⟩
      · omega
    case one =>
      intro u W o ho hC hd
      simp only [List.getElem?_cons_zero, List.getElem?_cons_succ, Option.some.injEq] at ho
      subst ho
      have h0 : u 0 = .agg zV.toArray := hd ⟨0, .data⟩ (by simp) rfl
      have hz : Blk W B 30 zV := hC.2.1
      have HZ := Lib.hid hz
      have hlo := hC.1
      have Q1 : Hid (RdP w1.heap.size (B + 1) (W.setRow B zV.toArray) S6.1.id vb vn vz S6.1.bl S6.1.ns S6.1.zs (tx S6.2.1) S6.2.2) := Lib.hid
        ⟨hlo.ver.rowOther (by omega) zV.toArray, hlo.ob.rowApart B zV.toArray (fun b hb => by have := (hlo.ob.lt b hb).1; rw [Z1.out] at this; omega), hlo.on.rowApart B zV.toArray (fun b hb => by have := (hlo.on.lt b hb).1; rw [Z1.out] at this; omega), hlo.oz.rowApart B zV.toArray (fun b hb => by have := (hlo.oz.lt b hb).1; rw [Z1.out] at this; omega)⟩
      have Q2 := Lib.hid (hz.row zV rfl)
      have Q3 := Lib.hid (below_setRow hC.2.2 (show w.heap.size ≤ B by rw [HBE.out]; exact Nat.le_refl _) zV.toArray)
      clear hz hC hd hlo
      rw [h0]
      go_wp2_with (refine wpList_store_blk rfl 30 _ _ rfl B zV rfl rfl HZ.out (by rw [size_ver]; rfl) rfl zV_one ?_)
      exact ⟨undef, by simp [upd, h0]; rfl, trivial, ⟨Q1.out, Q2.out, Q3.out⟩, trivial⟩
    case last =>
      intro u W o ho hC hS
      simp only [List.getElem?_cons_zero, List.getElem?_cons_succ, Option.some.injEq] at ho
      subst ho
      have h4 : u 4 = .string ⟨#[]⟩ := hS 4 (by decide)
      have h2 : u 2 = .int .i64 (er : Int) := hS 2 (by decide)
      have hz : Blk W B 30 zV := hC.2.1
      have HZ := Lib.hid hz
      have HCC := Lib.hid hC.2.2
      clear hS hC hz
      rw [h4, h2]
      go_wp2_with fail
      refine bodyPost_ret (v := .tuple #[.agg zV.toArray, .string ⟨#[]⟩, .int .i64 (er : Int)]) (results_cell_tmp2 rfl _ _ B rfl (.string ⟨#[]⟩) (.int .i64 (er : Int)) rfl rfl HZ.out Try.underlying30 rfl (by rw [size_ver]; rfl)) rfl ?_
      rw [← HT.out]
      exact rd_err w _ _ HCC.out
end Go.Proofs.Ytloogjdojojehaa
