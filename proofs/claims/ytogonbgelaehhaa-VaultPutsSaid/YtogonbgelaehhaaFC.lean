/- Walks of a strings.Builder that a call makes itself: written to, then told as a text. -/
import Derived.Test.YtogonbgelaehhaaG1
import Derived.Test.YtogonbgelaehhaaG2
import Derived.Test.YtogonbgelaehhaaJ1
import Derived.Lib.Builder
import Derived.Lib.UnsafeStr
import Derived.Lib.AppendStr
import Derived.Laws.Externs
import Derived.Test.YtogonbgelaehhaaFB
import Derived.Test.YtogonbgelaehhaaG4
import Derived.Maps.OwnIn
namespace Go.Proofs.Ytogonbgelaehhaa
open Go.RowKit
set_option linter.unusedVariables false

theorem cells_byte : Try.prog.cellsOf 5 = 1 := by kernel_rfl
theorem ints_str (s : ByteArray) : Lib.strCells s = ints .u8 (nn (sl s)) := by
  simp [Lib.strCells, ints, nn, sl, Function.comp_def]
theorem ints_byte (l : List UInt8) : ints .u8 (nn (l.map (·.toNat))) = Lib.byteCells l := by
  simp [Lib.byteCells, ints, nn, Function.comp_def]
theorem OwnB.setOther {w : World} {base : Nat} {e : TypeId} {v : Value} {l : List Int} (h : OwnB w base e v l) {b : Nat} {t : TypeId} {vs : List Value} (hb : Blk w b t vs) (ht : t ≠ e) (j : Nat) (u : Value) : OwnB (w.setCell ⟨b, j, none⟩ u) base e v l := by
  obtain ⟨k1, k2⟩ := h
  refine ⟨k1, ?_⟩
  rcases k2 with h | ⟨g, cap, cur, hv, hg, hh, r⟩
  · exact .inl h
  · refine .inr ⟨g, cap, cur, hv, hg, ?_, r⟩
    have hne : g ≠ b := by
      rintro rfl
      unfold Blk at hb
      rw [hb] at hh
      simp at hh
      exact ht hh.2
    rw [Below.heap_setCell _ _ _ g (fun e => hne e)]
    exact hh
end Go.Proofs.Ytogonbgelaehhaa
namespace Go.Proofs.Ytogonbgelaehhaa
open Go.RowKit
set_option linter.unusedVariables false

theorem solid_bys {l : List (List Nat × List Nat)} (h : ∀ f ∈ l, Bys f.2) : Bys (solidF l) := Bys.of fun x hx => by
  obtain ⟨f, hf, hx⟩ := List.mem_flatMap.1 hx
  exact (h f hf).mem hx
end Go.Proofs.Ytogonbgelaehhaa
namespace Go.Proofs.Ytogonbgelaehhaa
open Go.RowKit
set_option linter.unusedVariables false

theorem make_strs (n : Nat) (h : n ≤ 1000000) (w : World) : (Instr.makeSlice 25 (.int .i64 (n : Int)) (.int .i64 (n : Int))).run Try.prog w = .ok (.slice (some ⟨w.heap.size, 0, none⟩) n n) (w.alloc (.cells (List.replicate n (Value.string ⟨#[]⟩)).toArray 9)) := by
  obtain ⟨i0, hi0, hz0, hz1, hz2⟩ := info_parts2 info_str
  have hr := run_make (P := Try.prog) w 25 9 i0 (.string ⟨#[]⟩) Try.underlying25 hi0 hz0 .i64 .i64 n n (by omega) (Int.le_refl _) (by rw [hz2]; omega) (by omega)
  simp only [Int.toNat_natCast, hz1, Nat.mul_one] at hr
  have e : madeCells (Value.string ⟨#[]⟩).cells n = (List.replicate n (Value.string ⟨#[]⟩)).toArray := by
    apply Array.ext'
    rw [show (Value.string ⟨#[]⟩).cells = #[.string ⟨#[]⟩] from rfl, toList_madeCells_one]
  rw [hr, e]
theorem make_intsK (n : Nat) (h : n ≤ 1000000) (w : World) : (Instr.makeSlice 26 (.int .i64 (n : Int)) (.int .i64 (n : Int))).run Try.prog w = .ok (.slice (some ⟨w.heap.size, 0, none⟩) n n) (w.alloc (.cells (List.replicate n (Value.int .i64 0)).toArray 3)) := by
  obtain ⟨i0, hi0, hz0, hz1, hz2⟩ := info_parts2 info_intK
  have hr := run_make (P := Try.prog) w 26 3 i0 (.int .i64 0) Try.underlying26 hi0 hz0 .i64 .i64 n n (by omega) (Int.le_refl _) (by rw [hz2]; omega) (by omega)
  simp only [Int.toNat_natCast, hz1, Nat.mul_one] at hr
  have e : madeCells (Value.int .i64 0).cells n = (List.replicate n (Value.int .i64 0)).toArray := by
    apply Array.ext'
    rw [show (Value.int .i64 0).cells = #[.int .i64 0] from rfl, toList_madeCells_one]
  rw [hr, e]
/-- cells of which the first j are written -/
def doneC (z : Value) (L : List Value) (j : Nat) : List Value := L.take j ++ List.replicate (L.length - j) z
theorem doneC_none (z : Value) (L : List Value) : doneC z L 0 = List.replicate L.length z := by simp [doneC]
theorem doneC_all (z : Value) (L : List Value) : doneC z L L.length = L := by simp [doneC]
theorem doneC_len (z : Value) (L : List Value) (j : Nat) (h : j ≤ L.length) : (doneC z L j).length = L.length := by simp [doneC]; omega
theorem doneC_set (z : Value) (L : List Value) {j : Nat} {x : Value} (h : L[j]? = some x) : (doneC z L j).set j x = doneC z L (j + 1) := by
  have hj : j < L.length := (List.getElem?_eq_some_iff.1 h).1
  have hx : L[j] = x := (List.getElem?_eq_some_iff.1 h).2
  unfold doneC
  rw [List.set_append_right _ _ (by rw [List.length_take]; omega), List.length_take, Nat.min_eq_left (by omega), Nat.sub_self, List.take_succ_eq_append_getElem hj, hx, List.append_assoc]
  congr 1
  obtain ⟨k, hk⟩ : ∃ k, L.length - j = k + 1 := ⟨L.length - j - 1, by omega⟩
  rw [hk, show L.length - (j + 1) = k by omega, List.replicate_succ]
  rfl
theorem doneC_at (z : Value) (L : List Value) {j : Nat} (h : j < L.length) : (doneC z L j)[j]? = some z := by
  unfold doneC
  rw [List.getElem?_append_right (by rw [List.length_take]; omega), List.getElem?_replicate, if_pos (by rw [List.length_take]; omega)]
def nameC (l : List (List Nat × List Nat)) : List Value := l.map fun f => .string (tx f.1)
def sizeC (l : List (List Nat × List Nat)) : List Value := l.map fun f => .int .i64 (f.2.length : Int)
theorem nameC_at {l : List (List Nat × List Nat)} {j : Nat} (h : j < l.length) : (nameC l)[j]? = some (.string (tx (l.getD j noF).1)) := by simp [nameC, h]
theorem sizeC_at {l : List (List Nat × List Nat)} {j : Nat} (h : j < l.length) : (sizeC l)[j]? = some (.int .i64 ((l.getD j noF).2.length : Int)) := by simp [sizeC, h]
theorem nameC_flat (l : List (List Nat × List Nat)) : nameC l = (rowsS (namesF l)).flatten := by
  induction l with
  | nil => rfl
  | cons f l ih => unfold nameC rowsS namesF at ih ⊢; simp [ih]
theorem sizeC_flat (l : List (List Nat × List Nat)) : sizeC l = (rowsZF (sizesF l)).flatten := by
  induction l with
  | nil => rfl
  | cons f l ih => unfold sizeC rowsZF sizesF at ih ⊢; simp [ih]
theorem sl_whole {w : World} {b k cap : Nat} {t : TypeId} {rows : List (List Value)} (hk : ∀ r ∈ rows, r.length = k) (h : Blk w b t rows.flatten) : Sl w k (.slice (some ⟨b, 0, none⟩) rows.length cap) rows := sl_blkS (rest := []) hk (by rw [List.append_nil]; exact h)
def NamesP (l : List (List Nat × List Nat)) (w : World) (e : Ending) (w' : World) : Prop :=
  ∃ p q : Option Addr, e = .returned (.tuple #[.slice p l.length l.length, .slice q l.length l.length]) ∧ Sl w' 1 (.slice p l.length l.length) (rowsS (namesF l)) ∧ Sl w' 1 (.slice q l.length l.length) (rowsZF (sizesF l)) ∧ Below w.heap.size w w'
/-- the worlds in which a round's two stores stand -/
def nmC (w : World) (T G : Nat) (R cn cn' cs : List Value) (b : Bool) (W : World) : Prop := Blk W T 104 R ∧ Blk W G 9 (if b then cn' else cn) ∧ Blk W (G + 1) 3 cs ∧ Below w.heap.size w W
def nmS (T G n j : Nat) (X Y : ByteArray) (i : Nat) (v : Value) (W : World) : Prop :=
  match i with
  | 0 => v = .slice (some ⟨G, 0, none⟩) n n
  | 1 | 3 => v = .int .i64 (j : Int)
  | 2 => v = .slice (some ⟨G + 1, 0, none⟩) n n
  | 4 => v = .pointer (some ⟨T, 0, none⟩)
  | 5 => v = .string X
  | 6 => v = .pointer (some ⟨T, 1, none⟩)
  | 7 => v = .string Y
  | 8 => v = .int .i64 (Y.size : Int)
  | 9 => v = .pointer (some ⟨G, j, none⟩)
  | 11 => v = .pointer (some ⟨G + 1, j, none⟩)
  | _ => True
theorem nmS_mono {T G n j : Nat} {X Y : ByteArray} (i : Nat) (v : Value) (W W' : World) (h : nmS T G n j X Y i v W) : nmS T G n j X Y i v W' :=
  match i with
  | 0 | 1 | 2 | 3 | 4 | 5 | 6 | 7 | 8 | 9 | 10 | 11 => h
  | _ + 12 => trivial
end Go.Proofs.Ytogonbgelaehhaa
namespace Go.Proofs.Ytogonbgelaehhaa
open Go.RowKit Go.Shelf
set_option linter.unusedVariables false

attribute [local go_sem] Oper.semAt_some

/-- the first k pieces -/
def pcL (s : List Nat) (k : Nat) : List (List Nat) := (List.range k).map (pieceF s)
theorem pcL_snoc (s : List Nat) (k : Nat) : pcL s (k + 1) = pcL s k ++ [pieceF s k] := cut_snoc s k
theorem pcL_len (s : List Nat) (k : Nat) : (pcL s k).length = k := by simp [pcL]
theorem pcL_all (s : List Nat) : pcL s (pcs s) = cutF s := rfl
end Go.Proofs.Ytogonbgelaehhaa
namespace Go.Proofs.Ytogonbgelaehhaa
open Go.RowKit
set_option linter.unusedVariables false

end Go.Proofs.Ytogonbgelaehhaa
