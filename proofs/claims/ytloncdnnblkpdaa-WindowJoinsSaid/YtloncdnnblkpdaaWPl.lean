/- Walks of what places are asked: may a match begin there, which bytes, the last place with them, how far the same. -/
import Derived.Test.YtloncdnnblkpdaaWKey
import Derived.Test.YtloncdnnblkpdaaG2
import Derived.Test.YtloncdnnblkpdaaJ1
import Derived.Test.YtloncdnnblkpdaaG1
import Derived.IntWalk
import Derived.Defers
namespace Go.Proofs.Ytloncdnnblkpdaa
open Go.RowKit
open Go.Maps (Keyed string_keyed)
set_option linter.unusedVariables false

/-- numbers as rows of one cell -/
def rowsZ (l : List Int) : List (List Value) := l.map fun n => [.int .i64 n]
theorem rowsZ_len (l : List Int) : (rowsZ l).length = l.length := by simp [rowsZ]
theorem rowsZ_at {l : List Int} {j : Nat} (h : j < l.length) : (rowsZ l)[j]? = some [.int .i64 (l.getD j 0)] := by simp [rowsZ, h]
theorem rowsZ_app (a b : List Int) : rowsZ (a ++ b) = rowsZ a ++ rowsZ b := by simp [rowsZ]
theorem SlZ.cell {w : World} {p : Option Addr} {n cap : Nat} {l : List Int} (h : Sl w 1 (.slice p n cap) (rowsZ l)) {j : Nat} (hj : j < l.length) : ∃ a : Addr, p = some a ∧ w.cell? (a.add j) = some (.int .i64 (l.getD j 0)) := by
  obtain ⟨a, e, hc⟩ := h.row (rowsZ_at hj)
  exact ⟨a, e, by have := hc 0 _ rfl; rw [Nat.mul_one] at this; exact this⟩
/-- what a places' variable has -/
def plc (s : ByteArray) (M : Nat) (v : Value) : List Value := [.string s, .map (some M), v]
/-- block P is a places of the text s with n places, its map in block M, its slice v -/
structure PlW (w : World) (B P M : Nat) (v : Value) (s : ByteArray) (n : Nat) : Prop where
  blk : Blk w P 59 (plc s M v)
  map : w.ownsMap Try.prog 9 (plainElem (H := Unit) Try.prog 3) M n (mapW (sl s) n)
  own : OwnR w B 3 1 v (rowsZ (aheadW (sl s) n))
  hP : B ≤ P
  hM : B ≤ M
theorem law_str : Keyed Try.prog 9 := string_keyed Try.underlying9
theorem zero_int (w : World) : (zeroValue 3).run Try.prog w = .ok (.int .i64 0) w := by kernel_rfl
theorem part_tx (s : ByteArray) (i k : Nat) : s.extract i (i + k) = tx (((sl s).drop i).take k) := by
  rw [← tx_sl (s.extract i (i + k))]
  congr 1
  simp [sl, ByteArray.data_extract, List.map_take, List.map_drop]
theorem p_mayMatch (P : Nat) (s : ByteArray) (m v : Value) (i : Nat) (b : Bool) (w : World) (hB : Blk w P 59 [.string s, m, v]) (hi : i ≤ 1000000000) (hs : s.size ≤ 1000000000) (hb : (b = true ∧ i + 3 ≤ s.size) ∨ (b = false ∧ s.size < i + 3)) :
    Calls Try.prog 24 #[.pointer (some ⟨P, 0, none⟩), .int .i64 (i : Int)] w fun e w' => e = .returned (.bool b) ∧ w' = w := by
  have c0 := hB.cell 0
  simp only [List.getElem?_cons_zero] at c0
  have i1 : (s.size : Int) ≤ 1000000000 := by omega
  rcases hb with ⟨rfl, h⟩ | ⟨rfl, h⟩
  · have g1 : decide ((i : Int) ≤ (s.size : Int) - 3) = true := by simp; omega
    clear hB h
    go_enter Try.func24, Try.ntmps24
    go_wp2
    go_ret
    exact ⟨rfl, rfl⟩
  · have g1 : decide ((i : Int) ≤ (s.size : Int) - 3) = false := by simp; omega
    clear hB h
    go_enter Try.func24, Try.ntmps24
    go_wp2
    go_ret
    exact ⟨rfl, rfl⟩
theorem p_first (P : Nat) (s : ByteArray) (m v : Value) (i : Nat) (w : World) (hB : Blk w P 59 [.string s, m, v]) (hi : i + 3 ≤ s.size) (hs : s.size ≤ 1000000000) :
    Calls Try.prog 26 #[.pointer (some ⟨P, 0, none⟩), .int .i64 (i : Int)] w fun e w' => e = .returned (.string (tx (keyW (sl s) i))) ∧ w' = w := by
  have c0 := hB.cell 0
  simp only [List.getElem?_cons_zero] at c0
  have hx : s.extract i (i + 3) = tx (keyW (sl s) i) := part_tx s i 3
  have e1 : ((i : Int) + 3).toNat = i + 3 := by omega
  have i1 : (i : Int) + 3 ≤ (s.size : Int) := by omega
  have HX := Lib.hid hx
  clear hB hx
  go_enter Try.func26, Try.ntmps26
  go_wp2
  go_ret
  exact ⟨by rw [← HX.out]; rfl, rfl⟩
/-- what the map says of three bytes -/
theorem look_key {w : World} {M : Nat} {s : ByteArray} {n : Nat} (h : w.ownsMap Try.prog 9 (plainElem (H := Unit) Try.prog 3) M n (mapW (sl s) n)) (i : Nat) (hi : i + 3 ≤ s.size) :
    (Instr.lookup 56 (.map (some M)) (.string (tx (keyW (sl s) i))) true).run Try.prog w = .ok (.tuple #[.int .i64 (if lastW (sl s) i n = -1 then 0 else lastW (sl s) i n), .bool (decide (lastW (sl s) i n ≠ -1))]) w := by
  have hk := keyW_bys (sl_bys s) i
  have hkey : keyOf Try.prog 9 (.string (tx (keyW (sl s) i))) = some (kLit (keyW (sl s) i)) := by
    rw [Go.WideMaps.keyOf_string_mk Try.underlying9 (by rw [tx_size, keyW_len (by rw [sl_len]; exact hi)]; decide), kLit_tx hk]
  obtain ⟨v', ps, hrun, hv⟩ := h.look_ok law_str Try.underlying56 (zero_int w) (plainElem_int Try.underlying3 (by decide)) hkey
  obtain ⟨c, rfl, hc, hwc⟩ := plainElem_int_inv Try.underlying3 hv
  rw [hrun]
  have hc' := congrArg Prod.fst hc
  rcases mapW_has (sl_bys s) i n with ⟨h1, h2⟩ | ⟨h1, h2, h3⟩
  · rw [Maps.atKey_of_not_has h2] at hc'
    simp only [DataW.lit.injEq, Lit.int.injEq, true_and] at hc'
    rw [h2, if_pos h1, ← hc', decide_eq_false (by rw [h1]; simp)]
  · rw [h3] at hc'
    simp only [DataW.lit.injEq, Lit.int.injEq, true_and] at hc'
    rw [h2, if_neg (by omega), hc', decide_eq_true (by rw [← hc']; omega)]
theorem PlW.drewN {w : World} {B P M : Nat} {v : Value} {s : ByteArray} {n : Nat} (h : PlW w B P M v s n) (k : Nat) : PlW (w.drewN k) B P M v s n := ⟨h.blk.drewN k, h.map, h.own, h.hP, h.hM⟩
set_option maxRecDepth 100000 in
theorem p_lastOf {w : World} {P M : Nat} {v : Value} {s : ByteArray} {n : Nat} (hB : Blk w P 59 (plc s M v)) (h : w.ownsMap Try.prog 9 (plainElem (H := Unit) Try.prog 3) M n (mapW (sl s) n)) (i : Nat) (hi : i + 3 ≤ s.size) (hs : s.size ≤ 1000000000) :
    Calls Try.prog 25 #[.pointer (some ⟨P, 0, none⟩), .int .i64 (i : Int)] w fun e w' => e = .returned (.int .i64 (lastW (sl s) i n)) ∧ ∃ k, w' = w.drewN k := by
  have c1 := hB.cell 1
  simp only [plc, List.getElem?_cons_zero, List.getElem?_cons_succ] at c1
  have hF := fun k => p_first P s (.map (some M)) v i (w.drewN k) (hB.drewN k) hi hs
  have HF := Lib.hid hF
  have hL := fun k => look_key (w := w.drewN k) h i hi
  clear hF h hB hi hs
  generalize tx (keyW (sl s) i) = key at *
  generalize lastW (sl s) i n = f at *
  by_cases hf : f = -1
  rotate_left
  · rw [if_neg hf, decide_eq_true hf] at hL
    go_enter Try.func25, Try.ntmps25
    go_wp2
    go_quiet ((go_at_call 26; exact Calls.quiet_of_same (HF.out _)))
    go_wp2
    go_ret
    exact ⟨rfl, _, rfl⟩
  · subst hf
    rw [if_pos rfl, decide_eq_false (by simp)] at hL
    go_enter Try.func25, Try.ntmps25
    go_wp2
    go_quiet ((go_at_call 26; exact Calls.quiet_of_same (HF.out _)))
    go_wp2
    go_ret
    exact ⟨rfl, _, rfl⟩
end Go.Proofs.Ytloncdnnblkpdaa
