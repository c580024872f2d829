/- Rows of pointers in a block: an exchange of two of them; the walk of the sort's swapRange. -/
import Derived.Test.YtpjdlkbpnodcdaaPSym
import Derived.Test.YtpjdlkbpnodcdaaJ1
import Derived.BigRegion
namespace Go.Proofs.Ytpjdlkbpnodcdaa
open Go.RowKit
set_option linter.unusedVariables false

/-- a pointer to the whole of a block -/
def pv (b : Nat) : Value := .pointer (some ⟨b, 0, none⟩)
def ptrs (N : Nat → Nat) (d : List Nat) : List Value := d.map fun x => pv (N x)
theorem ptrs_len (N : Nat → Nat) (d : List Nat) : (ptrs N d).length = d.length := by simp [ptrs]
theorem ptrs_get (N : Nat → Nat) (d : List Nat) (rest : List Value) {j : Nat} (h : j < d.length) : (ptrs N d ++ rest)[j]? = some (pv (N (d.getD j 0))) := by
  rw [List.getElem?_append_left (by rw [ptrs_len]; exact h)]
  unfold ptrs
  rw [List.getElem?_map, List.getElem?_eq_getElem h]
  simp [h]
theorem ptrs_set (N : Nat → Nat) (d : List Nat) (rest : List Value) {j : Nat} (h : j < d.length) (x : Nat) : (ptrs N d ++ rest).set j (pv (N x)) = ptrs N (d.set j x) ++ rest := by
  rw [List.set_append_left _ _ (by rw [ptrs_len]; exact h)]
  unfold ptrs
  rw [List.map_set]
theorem Blk.ptr {w : World} {g : Nat} {t : TypeId} {N : Nat → Nat} {d : List Nat} {rest : List Value} (h : Blk w g t (ptrs N d ++ rest)) {j : Nat} (hj : j < d.length) : w.cell? ⟨g, j, none⟩ = some (pv (N (d.getD j 0))) := by
  rw [h.cell, ptrs_get _ _ _ hj]
theorem Turned.refl {w : World} {R : Nat} {t : TypeId} {vs : List Value} (h : Blk w R t vs) : Turned w w R t vs := Turned.of_below (Below.refl _ _) h
theorem Turned.trans {w w1 w2 : World} {R : Nat} {t : TypeId} {vs vs' : List Value} (h : Turned w w1 R t vs) (k : Turned w1 w2 R t vs') : Turned w w2 R t vs' := ⟨h.1.trans k.1, k.2⟩
theorem Turned.drewN {w w1 : World} {R : Nat} {t : TypeId} {vs : List Value} (h : Turned w w1 R t vs) (n : Nat) : Turned w (w1.drewN n) R t vs := ⟨⟨h.1.os, h.1.tape, h.1.output, h.1.size, h.1.block⟩, h.2⟩
theorem Turned.drew {w w1 : World} {R : Nat} {t : TypeId} {vs : List Value} (h : Turned w w1 R t vs) : Turned w w1.drew R t vs := h.drewN 1
theorem Turned.put {w w1 : World} {R : Nat} {t : TypeId} {vs : List Value} (h : Turned w w1 R t vs) (j : Nat) (v : Value) : Turned w (w1.setCell ⟨R, j, none⟩ v) R t (vs.set j v) := ⟨h.1.trans (grown_setCell w1 ⟨R, j, none⟩ v), h.2.set j v⟩
/-- two are exchanged -/
theorem Turned.swap {w w1 : World} {g : Nat} {t : TypeId} {N : Nat → Nat} {d : List Nat} {rest : List Value} (h : Turned w w1 g t (ptrs N d ++ rest)) {i j : Nat} (hi : i < d.length) (hj : j < d.length) :
    Turned w (((w1.setCell ⟨g, i, none⟩ (pv (N (d.getD j 0)))).setCell ⟨g, j, none⟩ (pv (N (d.getD i 0)))).drew) g t (ptrs N (swp d i j) ++ rest) := by
  have h2 := ((h.put i (pv (N (d.getD j 0)))).put j (pv (N (d.getD i 0)))).drew
  rwa [ptrs_set _ _ _ hi, ptrs_set _ _ _ (by rw [List.length_set]; exact hj)] at h2
theorem swap_free {w : World} {g : Nat} {t : TypeId} {vs : List Value} (h : Blk w g t vs) (i j : Nat) (v : Value) : (w.setCell ⟨g, i, none⟩ v).frozen? ⟨g, j, none⟩ = false := (h.set i v).free j
theorem swap_some {w : World} {g : Nat} {t : TypeId} {vs : List Value} (h : Blk w g t vs) {i j : Nat} (hj : j < vs.length) (v : Value) : ∃ u, (w.setCell ⟨g, i, none⟩ v).cell? ⟨g, j, none⟩ = some u := by
  rw [(h.set i v).cell]
  exact ⟨_, List.getElem?_eq_getElem (by rw [List.length_set]; exact hj)⟩
set_option maxRecDepth 100000 in
set_option maxHeartbeats 2000000 in
theorem z_swap (g cap len a b n : Nat) (N : Nat → Nat) (d : List Nat) (rest : List Value) (fv : Value) (w : World) (hd : d.length = len) (hB : Blk w g 83 (ptrs N d ++ rest)) (hab : a + n ≤ b) (hb : b + n ≤ len) (hl : len ≤ 1000000) :
    Calls Try.prog 66 #[.slice (some ⟨g, 0, none⟩) len cap, .int .i64 (a : Int), .int .i64 (b : Int), .int .i64 (n : Int), fv] w fun e w' => e = .returned (.tuple #[]) ∧ Turned w w' g 83 (ptrs N (swpR d a b n) ++ rest) := by
  subst hd
  have hT := Turned.refl hB
  rw [← swpR_zero d a b] at hT
  have hT := Lib.hid hT
  have hR := Lib.hid hB
  clear hB
  go_enter Try.func66, Try.ntmps66
  go_wp2
  go_loopw [10] (fun i wr => ∃ j : Nat, j ≤ n ∧ i = .int .i64 (j : Int) ∧ Turned w wr g 83 (ptrs N (swpR d a b j) ++ rest)) (fun i _ => n - (intOf i).toNat)
  case atStart => exact ⟨0, by omega, rfl, hT.out⟩
  case round =>
    obtain ⟨j, hj, rfl, gt⟩ := hrel
    clear hT hR
    by_cases hlt : j < n
    · have d1 : (j : Int) < (n : Int) := by omega
      have hstep := swpR_step d a b n j hab hb hlt
      have HST := Lib.hid hstep
      have hlen := swpR_len d a b j
      clear hstep
      generalize swpR d a b j = D at *
      obtain ⟨p, hp⟩ : ∃ p, a + j = p := ⟨_, rfl⟩
      obtain ⟨q, hq⟩ : ∃ q, b + j = q := ⟨_, rfl⟩
      have e1 : ((a : Int) + (j : Int)).toNat = p := by omega
      have e2 : ((b : Int) + (j : Int)).toNat = q := by omega
      have i1 : (0 : Int) ≤ (a : Int) + (j : Int) := by omega
      have i2 : (0 : Int) ≤ (b : Int) + (j : Int) := by omega
      have b1 : (a : Int) + (j : Int) < (d.length : Int) := by omega
      have b2 : (b : Int) + (j : Int) < (d.length : Int) := by omega
      have w1 : IntKind.i64.wrap ((a : Int) + (j : Int)) = (a : Int) + (j : Int) := IntWalk.i64_in _ (by omega)
      have w2 : IntKind.i64.wrap ((b : Int) + (j : Int)) = (b : Int) + (j : Int) := IntWalk.i64_in _ (by omega)
      have hpl : p < D.length := by omega
      have hql : q < D.length := by omega
      have T2 := gt.swap hpl hql
      rw [← hp, ← hq, HST.out, hp, hq] at T2
      have c1 := gt.2.ptr hpl
      have c2 := gt.2.ptr hql
      have f1 := gt.2.free p
      have f2 := gt.2.free q
      generalize D.getD p 0 = X at *
      generalize D.getD q 0 = Y at *
      obtain ⟨u, c3⟩ := swap_some gt.2 (i := p) (j := q) (by rw [List.length_append, ptrs_len]; omega) (pv (N Y))
      have f3 := swap_free gt.2 p q (pv (N Y))
      generalize N X = bx at *
      generalize N Y = by' at *
      simp only [pv] at c1 c2 c3 f3 T2
      have T2 := Lib.hid T2
      clear hp hq hlen gt HST hpl hql
      go_wp2_with fail
      go_big_region
      all_goals go_wp2
      go_roundw
      case rel => exact ⟨j + 1, by omega, by go_num, T2.out⟩
      case measure => simp [intOf]; omega
    · obtain rfl : j = n := by omega
      go_wp2
      go_end0
      exact ⟨rfl, gt⟩
end Go.Proofs.Ytpjdlkbpnodcdaa
