/- Lists of plain numbers as rows of memory, and as texts: small facts. -/
import Derived.Test.YtadppbjchacjiaaBytes
import Derived.Lib.Hide
import Derived.OpenShut
namespace Go.Proofs.Ytadppbjchacjiaa
open Go.RowKit
set_option linter.unusedVariables false

/-- numbers as a list of bytes' values -/
def nn (l : List Nat) : List Int := l.map fun (n : Nat) => (n : Int)
theorem nn_length (l : List Nat) : (nn l).length = l.length := by simp [nn]
theorem nn_getD (l : List Nat) (j : Nat) : (nn l).getD j 0 = ((l.getD j 0 : Nat) : Int) := by
  unfold nn
  rw [List.getD_eq_getElem?_getD, List.getD_eq_getElem?_getD, List.getElem?_map]
  cases l[j]? <;> rfl
theorem nn_set (l : List Nat) (j n : Nat) : (nn l).set j (n : Int) = nn (l.set j n) := by
  unfold nn; rw [List.map_set]
theorem nn_app (a b : List Nat) : nn (a ++ b) = nn a ++ nn b := by simp [nn]
theorem nn_inj {a b : List Nat} (h : nn a = nn b) : a = b := by
  unfold nn at h
  exact (List.map_inj_right (f := fun (n : Nat) => (n : Int)) (fun x y e => by have e' : (x : Int) = (y : Int) := e; omega)).1 h
theorem Blk.nat {w : World} {b : Nat} {t : TypeId} {k : IntKind} {l : List Nat} (h : Blk w b t (ints k (nn l))) {j : Nat} (hj : j < l.length) : w.cell? ⟨b, j, none⟩ = some (.int k ((l.getD j 0 : Nat) : Int)) := by
  rw [h.int (by rw [nn_length]; exact hj), nn_getD]
theorem Blk.setNat {w : World} {b : Nat} {t : TypeId} {k : IntKind} {l : List Nat} (h : Blk w b t (ints k (nn l))) (j n : Nat) : Blk (w.setCell ⟨b, j, none⟩ (.int k (n : Int))) b t (ints k (nn (l.set j n))) := by
  have := h.setInt j (n : Int)
  rwa [nn_set] at this
/-- all are bytes -/
def Bys (l : List Nat) : Prop := ∀ j, l.getD j 0 < 256
theorem Bys.mem {l : List Nat} (h : Bys l) {x : Nat} (hx : x ∈ l) : x < 256 := by
  obtain ⟨j, hj, rfl⟩ := List.getElem_of_mem hx
  have := h j
  rwa [List.getD_eq_getElem?_getD, List.getElem?_eq_getElem hj] at this
theorem Bys.of {l : List Nat} (h : ∀ x ∈ l, x < 256) : Bys l := by
  intro j
  rw [List.getD_eq_getElem?_getD]
  cases hj : l[j]? with
  | none => decide
  | some x => exact h x (List.mem_of_getElem? hj)
theorem Bys.app {a b : List Nat} (ha : Bys a) (hb : Bys b) : Bys (a ++ b) := Bys.of fun x hx => by
  rcases List.mem_append.1 hx with h | h
  · exact ha.mem h
  · exact hb.mem h
theorem Bys.take {a : List Nat} (ha : Bys a) (n : Nat) : Bys (a.take n) := Bys.of fun x hx => ha.mem (List.mem_of_mem_take hx)
theorem Bys.drop {a : List Nat} (ha : Bys a) (n : Nat) : Bys (a.drop n) := Bys.of fun x hx => ha.mem (List.mem_of_mem_drop hx)
theorem getD_set (l : List Nat) (i j x : Nat) (hi : i < l.length) : (l.set i x).getD j 0 = if i = j then x else l.getD j 0 := by
  rw [List.getD_eq_getElem?_getD, List.getElem?_set]
  split
  · rename_i e; subst e; first | rfl | (rw [if_pos hi]; rfl)
  · rw [← List.getD_eq_getElem?_getD]
theorem getD_ext {a b : List Nat} (n : Nat) (la : a.length = n) (lb : b.length = n) (h : ∀ j, j < n → a.getD j 0 = b.getD j 0) : a = b := by
  apply List.ext_getElem (la.trans lb.symm)
  intro j h1 h2
  have := h j (by omega)
  simpa [h1, h2] using this
theorem map_range_getD (f : Nat → Nat) (n k : Nat) (h : k < n) : ((List.range n).map f).getD k 0 = f k := by simp [h]
theorem take_snoc (L : List Nat) (j : Nat) (h : j < L.length) : L.take (j + 1) = L.take j ++ [L.getD j 0] := by
  rw [List.take_add_one, List.getElem?_eq_getElem h, List.getD_eq_getElem?_getD, List.getElem?_eq_getElem h]
  rfl
theorem getD_mem (L : List Nat) (j : Nat) (h : j < L.length) : L.getD j 0 ∈ L := by
  rw [List.getD_eq_getElem?_getD, List.getElem?_eq_getElem h]
  exact List.getElem_mem _
theorem getD_app (a b : List Nat) (j : Nat) : (a ++ b).getD j 0 = if j < a.length then a.getD j 0 else b.getD (j - a.length) 0 := by
  rw [List.getD_eq_getElem?_getD]
  split
  · rename_i h; rw [List.getElem?_append_left h, List.getD_eq_getElem?_getD]
  · rename_i h; rw [List.getElem?_append_right (by omega), List.getD_eq_getElem?_getD]
theorem getD_take (a : List Nat) (i j : Nat) (h : j < i) : (a.take i).getD j 0 = a.getD j 0 := by
  rw [List.getD_eq_getElem?_getD, List.getElem?_take, if_pos h, List.getD_eq_getElem?_getD]
theorem getD_drop (a : List Nat) (i j : Nat) : (a.drop i).getD j 0 = a.getD (i + j) 0 := by
  rw [List.getD_eq_getElem?_getD, List.getElem?_drop, List.getD_eq_getElem?_getD]
theorem oct_nn {l : List Nat} (h : Bys l) : Octets (nn l) := by
  intro x hx
  simp only [nn, List.mem_map] at hx
  obtain ⟨y, hy, rfl⟩ := hx
  have := h.mem hy
  omega
theorem nat_u8 (x : Int) (h : (Lit.int .u8 x).wf = true) : ∃ n : Nat, x = (n : Int) ∧ n < 256 := by
  have := bounds_u8 h
  exact ⟨x.toNat, by omega, by omega⟩
theorem nat_u32 (x : Int) (h : (Lit.int .u32 x).wf = true) : ∃ n : Nat, x = (n : Int) ∧ n < 4294967296 := by
  have := bounds_u32 h
  exact ⟨x.toNat, by omega, by omega⟩
theorem nat_u64 (x : Int) (h : (Lit.int .u64 x).wf = true) : ∃ n : Nat, x = (n : Int) ∧ n < 18446744073709551616 := by
  have := bounds_u64 h
  exact ⟨x.toNat, by omega, by omega⟩
theorem or_add (E y i : Nat) (hE : E < 2 ^ i) : E ||| y * 2 ^ i = E + y * 2 ^ i := by
  have := Nat.two_pow_add_eq_or_of_lt hE y
  rw [Nat.or_comm, Nat.mul_comm y, ← this, Nat.add_comm]
theorem wraps_u64 (n : Int) (h0 : 0 ≤ n) (h1 : n < 2 ^ 64) : IntKind.u64.wrap n = n := by rw [IntKind.wrap_u64]; omega
theorem or_u64 (a b : Nat) (ha : a < 18446744073709551616) (hb : b < 18446744073709551616) : bits .or .u64 (a : Int) (b : Int) = ((a ||| b : Nat) : Int) :=
  (bits_nat .u64 64 (by decide) wraps_u64 a b ha hb).2
theorem or_byte (a b : Nat) (ha : a < 256) (hb : b < 256) : bits .or .u8 (a : Int) (b : Int) = ((a ||| b : Nat) : Int) :=
  (bits_nat .u8 8 (by decide) wraps_u8 a b ha hb).2
/-! ### texts -/
/-- a text's bytes -/
def sl (s : ByteArray) : List Nat := s.data.toList.map (·.toNat)
theorem sl_len (s : ByteArray) : (sl s).length = s.size := by simp [sl]
theorem is_sl (s : ByteArray) : is s = nn (sl s) := by simp [is, sl, nn]
theorem sl_bys (s : ByteArray) : Bys (sl s) := by
  intro j
  unfold sl
  rw [List.getD_eq_getElem?_getD, List.getElem?_map]
  cases h : s.data.toList[j]? with
  | none => decide
  | some b => exact b.toNat_lt
/-- the text of these bytes -/
def tx (l : List Nat) : ByteArray := bs (nn l)
theorem sl_tx {l : List Nat} (h : Bys l) : sl (tx l) = l := nn_inj (by unfold tx; rw [← is_sl, is_bs _ (oct_nn h)])
theorem tx_sl (s : ByteArray) : tx (sl s) = s := by unfold tx; rw [← is_sl, bs_is]
theorem tx_size (l : List Nat) : (tx l).size = l.length := by unfold tx; rw [bs_size, nn_length]
theorem tx_app (a b : List Nat) : tx (a ++ b) = tx a ++ tx b := by unfold tx; rw [nn_app, bs_app]
theorem sl_app (a b : ByteArray) : sl (a ++ b) = sl a ++ sl b := by simp [sl, ByteArray.data_append]
theorem sl_inj {a b : ByteArray} (h : sl a = sl b) : a = b := by rw [← tx_sl a, ← tx_sl b, h]
theorem tx_inj {a b : List Nat} (ha : Bys a) (hb : Bys b) (h : tx a = tx b) : a = b := by rw [← sl_tx ha, ← sl_tx hb, h]
theorem sl_head (s : ByteArray) (n : Nat) : sl (s.extract 0 n) = (sl s).take n := by
  simp [sl, ByteArray.data_extract, List.map_take]
theorem sl_tail (s : ByteArray) (n : Nat) : sl (s.extract n s.size) = (sl s).drop n := by
  simp [sl, ByteArray.data_extract, List.map_drop]
  rw [List.take_of_length_le (by simp)]
theorem head_tx (s : ByteArray) (n : Nat) : s.extract 0 n = tx ((sl s).take n) := by rw [← sl_head, tx_sl]
theorem tail_tx (s : ByteArray) (n : Nat) : s.extract n s.size = tx ((sl s).drop n) := by rw [← sl_tail, tx_sl]
theorem txt_same (x : ByteArray) : (x.toList == x.toList) = true := by simp
theorem txt_ne {x y : ByteArray} (h : x ≠ y) : (x.toList == y.toList) = false := by
  rw [beq_eq_false_iff_ne]
  intro e
  rw [Go.ByteArray.toList_eq, Go.ByteArray.toList_eq] at e
  exact h (ByteArray.ext (Array.toList_inj.mp e))
theorem txt_eq {x y : ByteArray} (h : x = y) : (x.toList == y.toList) = true := by subst h; simp
end Go.Proofs.Ytadppbjchacjiaa
