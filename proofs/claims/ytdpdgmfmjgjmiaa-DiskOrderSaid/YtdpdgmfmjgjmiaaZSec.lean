/- Walks of the program's disk: a sector's text, its bytes, what keep says, what was written last. -/
import Derived.Test.YtdpdgmfmjgjmiaaZOn
import Derived.Test.YtdpdgmfmjgjmiaaU16
import Derived.Laws.CopyRow
namespace Go.Proofs.Ytdpdgmfmjgjmiaa
open Go.RowKit
set_option linter.unusedVariables false

theorem size_sec : (Try.prog.info? 54).map (·.size) = some 32 := by kernel_rfl
theorem info_sec : (Try.prog.info? 54).map (fun i => (i.zero, i.size, i.bytes)) = some (some (.agg (rowB (zerN 32)).toArray), 32, 32) := by kernel_rfl
theorem alloc_sec (w : World) : (Instr.alloc 54 true (.tuple #[])).run Try.prog w = .ok (.pointer (some ⟨w.heap.size, 0, none⟩)) (w.alloc (.cells (rowB (zerN 32)).toArray 54)) := by kernel_rfl
section
variable {P : Program} {ops : Array Oper} {rest : List Oper} {o : Oper} {a : Act} {w : World} {Q : Exit → Act → World → Prop}
/-- a whole block's bytes are told as a text -/
theorem wpList_bytes_blk (hgd : o.guard = none) (src dst e : TypeId) (x : Operand) (ho : o.op = .convert src dst x) (b n cap : Nat) (l : List Nat)
    (hx : a.eval x = .slice (some ⟨b, 0, none⟩) n cap) (hs : P.underlying src = some (.slice e)) (he : P.underlying e = some (.int .u8)) (hd : P.underlying dst = some .string)
    {t : TypeId} (hc : Blk w b t (rowB l)) (hn : n = l.length) (h : wpList P ops Q rest (a.put o.dst (.string (tx l))) w) : wpList P ops Q (o :: rest) a w :=
  wpList_plain hgd fun _ hK => by
    unfold Oper.wp execOp
    simp only [ho, hx, Sem.run_bind, run_bytes_mid (P := P) (w := w) src dst e b 0 n cap (nn l) hs he hd hc.whole (by rw [nn_length]; exact hn), Result.andThen_ok, Sem.run_pure]
    exact hK _ _ h
theorem run_copy_cells (w : World) (dT sT ty elem : TypeId) (g off dLen dCap : Nat) (sa : Addr) (sn sc : Nat) (ys : List Value) (cur : Array Value) (t : TypeId)
    (hu : P.underlying dT = some (.slice elem)) (hs : (P.info? elem).map (·.size) = some 1) (hg : w.heap[g]? = some (.cells cur t (0, 0))) (hys : ∀ j v, ys[j]? = some v → w.cell? (sa.add j) = some v) (hn : sn = ys.length) (hle : sn ≤ dLen) (hfit : off + dLen ≤ cur.size)
    (h1 : ∀ v ∈ ys, v.oneCell' = true) :
    (Builtin.copy_ #[dT, sT] ty #[.slice (some ⟨g, off, none⟩) dLen dCap, .slice (some sa) sn sc]).run P w = .ok (goInt sn) (w.setRow g (cur.toList.take off ++ ys ++ cur.toList.drop (off + sn)).toArray) := by
  have hst := run_storeCells_at P g off t ys 0 cur w hg (by omega) h1
  have hl : (loadCells sa ys.length).run P w = .ok ys.toArray w := run_loadCells_list (P := P) w sa ys hys
  have hmin : Nat.min sn dLen = sn := Nat.min_eq_left hle
  subst hn
  simp only [Nat.add_zero] at hst
  cases hq : P.info? elem with
  | none => simp [hq] at hs
  | some i =>
    have hi : i.size = 1 := by simpa [hq] using hs
    simp [Builtin.copy_, run_underlying hu, Builtin.lenOf, Builtin.firstCells, sizeOf, typeInfo, hq, hmin, hi, hl, hst]
/-- cells are copied over a block's first ones -/
theorem wpList_copy_head (hgd : o.guard = none) (d s : Operand) (dT sT elem : TypeId) (ho : o.op = .call { callee := .builtin .copy, args := #[d, s], argTypes := #[dT, sT] })
    (g dLen dCap : Nat) (hd : a.eval d = .slice (some ⟨g, 0, none⟩) dLen dCap) (sa : Addr) (sn sc : Nat) (hx : a.eval s = .slice (some sa) sn sc) {ty : TypeId} {old : List Value} (hg : Blk w g ty old) (ys : List Value) (hys : ∀ j v, ys[j]? = some v → w.cell? (sa.add j) = some v)
    (hn : sn = ys.length) (hle : sn ≤ dLen) (hfit : dLen ≤ old.length) (h1 : ∀ v ∈ ys, v.oneCell' = true) (hu : P.underlying dT = some (.slice elem)) (hs : (P.info? elem).map (·.size) = some 1)
    (h : wpList P ops Q rest (a.put o.dst (goInt sn)) (w.setRow g (ys ++ old.drop sn).toArray)) : wpList P ops Q (o :: rest) a w :=
  wpList_plain hgd fun _ hK => by
    have hr := run_copy_cells (P := P) w dT sT o.type elem g 0 dLen dCap sa sn sc ys old.toArray ty hu hs hg hys hn hle (by simpa using hfit) h1
    simp only [List.take_zero, List.nil_append, Nat.zero_add] at hr
    unfold Oper.wp
    simp [execOp, ho, resolve, invoke, builtin, hd, hx, hr, Result.andThen]
    exact hK _ _ h
end
set_option maxRecDepth 100000 in
theorem d_text (s : List Nat) (hs : s.length = 32) (w : World) :
    Calls Try.prog 30 #[.agg (rowB s).toArray] w fun e w' => e = .returned (.string (tx s)) ∧ Below w.heap.size w w' := by
  have k1 := Blk.new w 54 (rowB s)
  have hb := (Below.refl w.heap.size w).alloc (Nat.le_refl _) (.cells (rowB s).toArray 54)
  have K1 := Lib.hid k1
  have HB := Lib.hid hb
  have HS := Lib.hid hs.symm
  obtain ⟨R, hR⟩ : ∃ R, rowB s = R := ⟨_, rfl⟩
  have HR := Lib.hid hR
  rw [hR] at K1 HB ⊢
  have KR : Hid (Blk (w.alloc (.cells R.toArray 54)) w.heap.size 54 (rowB s)) := Lib.hid (by rw [hR]; exact K1.out)
  clear k1 hb hs hR
  go_enter Try.func30, Try.ntmps30
  go_wp2_with (refine wpList_bytes_blk rfl 31 9 5 _ rfl w.heap.size 32 32 s rfl Try.underlying31 Try.underlying5 Try.underlying9 KR.out HS.out ?_)
  go_ret
  exact ⟨rfl, HB.out⟩
set_option maxRecDepth 100000 in
theorem d_sectorOf (s : ByteArray) (hs : s.size = 32) (w : World) :
    Calls Try.prog 22 #[.string s] w fun e w' => e = .returned (.agg (rowB (sl s)).toArray) ∧ Below w.heap.size w w' := by
  obtain ⟨R, hR⟩ : ∃ R, rowB (sl s) = R := ⟨_, rfl⟩
  obtain ⟨Z, hZ⟩ : ∃ Z, rowB (zerN 32) = Z := ⟨_, rfl⟩
  have hRl : R.length = 32 := by rw [← hR, rowB_len, sl_len, hs]
  have hZl : Z.length = 32 := by rw [← hZ, rowB_len, zerN_len]
  have h1 : R.toArray.all (·.oneCell') = true := by rw [← hR]; exact rowB_one _
  obtain ⟨B, hB⟩ : ∃ B, w.heap.size = B := ⟨_, rfl⟩
  have hal : ∀ w', (Instr.alloc 54 true (.tuple #[])).run Try.prog w' = .ok (.pointer (some ⟨w'.heap.size, 0, none⟩)) (w'.alloc (.cells Z.toArray 54)) := fun w' => by rw [← hZ]; exact alloc_sec w'
  have k0 := (Blk.newAt w B hB 54 Z rfl).alloc (.cells Z.toArray 54)
  have k1 := Blk.newAt (w.alloc (.cells Z.toArray 54)) (B + 1) (by simp [hB]) 54 Z rfl
  have hb := ((Below.refl w.heap.size w).alloc (Nat.le_refl _) (.cells Z.toArray 54)).alloc (by simp) (.cells Z.toArray 54)
  have e3 : ints .u8 ((is s).take 32) = R := by rw [is_sl, List.take_of_length_le (by rw [nn_length, sl_len, hs]; exact Nat.le_refl _)]; exact hR
  have N1 : Hid (Z = [] ++ (Z ++ [])) := Lib.hid (by simp)
  have N2 : Hid (R = [] ++ (ints .u8 ((is s).take 32) ++ [])) := Lib.hid (by rw [e3]; simp)
  have NL : Hid (32 = Z.length) := Lib.hid hZl.symm
  have HLE : Hid (32 ≤ s.size) := Lib.hid (by omega)
  have j1 := k1.row R (by rw [hRl, hZl])
  have j0 := k0.rowOther (show B ≠ B + 1 by omega) R.toArray
  have jb := below_setRow hb (b := B + 1) (by omega) R.toArray
  have kb := below_setRow jb (b := B) (by omega) R.toArray
  have j2 := j0.row R (by rw [hRl, hZl])
  have HAL := Lib.hid hal
  have K1 := Lib.hid k1
  have J1 := Lib.hid j1
  have J0 := Lib.hid j0
  have J2 := Lib.hid j2
  have KB := Lib.hid kb
  have HRl := Lib.hid hRl
  have HZl := Lib.hid hZl
  have H1 := Lib.hid h1
  have HBE := Lib.hid hB
  rw [hR]
  clear hal k0 k1 hb e3 j1 j0 j2 jb kb hRl hZl h1 hR hZ
  go_enter Try.func22, Try.ntmps22
  go_wp2_with (first | (refine wpList_alloc_n rfl 54 rfl B hB _ (HAL.out _) ?_) | (refine wpList_alloc_n rfl 54 rfl (B + 1) (by simp [hB]) _ (HAL.out _) ?_) | (refine wpList_copy_part rfl _ _ 31 9 5 rfl (B + 1) 0 32 32 rfl s rfl K1.out R [] Z [] N1.out N2.out Try.underlying31 size_u8 HLE.out rfl NL.out ?_) | (refine wpList_load_blk rfl 54 _ rfl _ rfl J1.out Try.underlying54 rfl (by rw [size_sec, HRl.out]) ?_) | (refine wpList_store_blk rfl 54 _ _ rfl B R rfl rfl J0.out (by rw [size_sec, HRl.out]) (by rw [HRl.out, HZl.out]) H1.out ?_))
  refine bodyPost_ret (v := .agg R.toArray) (results_cell_blk rfl _ _ _ rfl J2.out Try.underlying54 rfl (by rw [size_sec, HRl.out])) rfl ⟨rfl, KB.out⟩
theorem d_told (keep : List Nat) (p : Option Addr) (c k : Nat) (r : Nat) (hr : keepD keep k = r) (hk : keep.length ≤ 1000000) (hkk : k ≤ 1000000) (w : World) (hS : Sl w 1 (.slice p keep.length c) (rowsU .u8 keep)) :
    Calls Try.prog 28 #[.slice p keep.length c, .int .i64 (k : Int)] w fun e w' => e = .returned (.int .u8 (r : Int)) ∧ w' = w := by
  unfold keepD at hr
  by_cases h0 : keep = []
  · subst h0
    rw [if_pos rfl] at hr
    subst hr
    clear hS hk
    go_enter Try.func28, Try.ntmps28
    go_wp2
    go_ret
    exact ⟨rfl, rfl⟩
  · rw [if_neg h0] at hr
    have hpos : 0 < keep.length := List.length_pos_iff.2 h0
    have hm : k % keep.length < keep.length := Nat.mod_lt _ hpos
    obtain ⟨ad, rfl, hc⟩ := SlU.cell hS hm
    rw [hr] at hc
    have e1 : ((k : Int) % (keep.length : Int)) = ((k % keep.length : Nat) : Int) := by omega
    have e1' : Int.tmod (k : Int) (keep.length : Int) = ((k % keep.length : Nat) : Int) := rfl
    have i1 : ((k % keep.length : Nat) : Int) < (keep.length : Int) := by omega
    have i0 : (0 : Int) ≤ ((k % keep.length : Nat) : Int) := by omega
    have n0 : ¬ (keep.length : Int) = 0 := by omega
    generalize hq : k % keep.length = m at *
    generalize keep.length = n at *
    clear hr hS h0 hpos hm hq
    go_enter Try.func28, Try.ntmps28
    go_wp2
    go_ret
    exact ⟨rfl, rfl⟩
end Go.Proofs.Ytdpdgmfmjgjmiaa
