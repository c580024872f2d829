/- Walk of the sort's rotate. -/
import Derived.Test.YtpjdlkbpnodcdaaPRow
namespace Go.Proofs.Ytpjdlkbpnodcdaa
open Go.RowKit
set_option linter.unusedVariables false

/-- how far a rotation is -/
def RotAt (x u v y : List Nat) (len m i j : Nat) (d : List Nat) : Prop := ∃ x' u' v' y' : List Nat, d = x' ++ (u' ++ (v' ++ y')) ∧ u'.length = i ∧ v'.length = j ∧ x'.length + i = m ∧ d.length = len ∧ x' ++ (v' ++ (u' ++ y')) = x ++ (v ++ (u ++ y))
theorem RotAt.gtr {x u v y : List Nat} {len m i j : Nat} {d : List Nat} (h : RotAt x u v y len m i j d) (hij : j < i) : RotAt x u v y len m (i - j) j (swpR d (m - i) m j) := by
  obtain ⟨x', u', v', y', rfl, hu, hv, hm, hl, e⟩ := h
  have hs : u' = u'.take j ++ u'.drop j := (List.take_append_drop _ _).symm
  have l1 : (u'.take j).length = j := by rw [List.length_take]; omega
  have l2 : (u'.drop j).length = i - j := by rw [List.length_drop]; omega
  generalize u'.take j = u1 at *
  generalize u'.drop j = u2 at *
  subst hs
  have hp := swpR_parts x' u1 u2 v' y' j m l1 hv (by rw [List.length_append] at hu; omega)
  rw [show m - i = x'.length by omega]
  simp only [List.append_assoc] at *
  rw [hp]
  refine ⟨x' ++ v', u2, u1, y', by simp, l2, l1, by rw [List.length_append]; omega, ?_, by simpa using e⟩
  rw [← hl]
  simp only [List.length_append]
  omega
theorem RotAt.lss {x u v y : List Nat} {len m i j : Nat} {d : List Nat} (h : RotAt x u v y len m i j d) (hij : i < j) : RotAt x u v y len m i (j - i) (swpR d (m - i) (m + j - i) i) := by
  obtain ⟨x', u', v', y', rfl, hu, hv, hm, hl, e⟩ := h
  have hs : v' = v'.take (j - i) ++ v'.drop (j - i) := (List.take_append_drop _ _).symm
  have l1 : (v'.take (j - i)).length = j - i := by rw [List.length_take]; omega
  have l2 : (v'.drop (j - i)).length = i := by rw [List.length_drop]; omega
  generalize v'.take (j - i) = v1 at *
  generalize v'.drop (j - i) = v2 at *
  subst hs
  have hp := swpR_parts x' u' v1 v2 y' i (m + j - i) hu l2 (by omega)
  rw [show m - i = x'.length by omega]
  simp only [List.append_assoc] at *
  rw [hp]
  refine ⟨x', v2, v1, u' ++ y', by simp, l2, l1, hm, ?_, by simpa using e⟩
  rw [← hl]
  simp only [List.length_append]
  omega
theorem RotAt.same {x u v y : List Nat} {len m i : Nat} {d : List Nat} (h : RotAt x u v y len m i i d) : swpR d (m - i) m i = x ++ (v ++ (u ++ y)) := by
  obtain ⟨x', u', v', y', rfl, hu, hv, hm, hl, e⟩ := h
  have hp := swpR_parts x' u' [] v' y' i m hu hv (by simp; omega)
  rw [show m - i = x'.length by omega]
  simp only [List.nil_append] at hp
  rw [hp, e]
theorem RotAt.bound {x u v y : List Nat} {len m i j : Nat} {d : List Nat} (h : RotAt x u v y len m i j d) : i ≤ m ∧ m + j ≤ len ∧ d.length = len := by
  obtain ⟨x', u', v', y', rfl, hu, hv, hm, hl, e⟩ := h
  simp only [List.length_append] at hl ⊢
  omega
set_option maxRecDepth 100000 in
set_option maxHeartbeats 2000000 in
theorem z_rot (g cap len a m b : Nat) (N : Nat → Nat) (x u v y : List Nat) (rest : List Value) (fv : Value) (w : World) (hd : (x ++ (u ++ (v ++ y))).length = len) (ha : x.length = a) (hm : a + u.length = m) (hb : m + v.length = b) (hu : 0 < u.length) (hv : 0 < v.length)
    (hB : Blk w g 83 (ptrs N (x ++ (u ++ (v ++ y))) ++ rest)) (hl : len ≤ 1000000) :
    Calls Try.prog 65 #[.slice (some ⟨g, 0, none⟩) len cap, .int .i64 (a : Int), .int .i64 (m : Int), .int .i64 (b : Int), fv] w fun e w' => e = .returned (.tuple #[]) ∧ Turned w w' g 83 (ptrs N (x ++ (v ++ (u ++ y))) ++ rest) := by
  have hT := Turned.refl hB
  have h0 : RotAt x u v y len m u.length v.length (x ++ (u ++ (v ++ y))) := ⟨x, u, v, y, rfl, rfl, rfl, by omega, hd, rfl⟩
  have hT := Lib.hid hT
  have h0 := Lib.hid h0
  generalize hul : u.length = lu at *
  generalize hvl : v.length = lv at *
  have i1 : (a : Int) ≤ (m : Int) := by omega
  have i2 : (m : Int) ≤ (b : Int) := by omega
  have i3 : (b : Int) ≤ 1000000 := by have := h0.out.bound; omega
  have e1 : (m : Int) - (a : Int) = (lu : Int) := by omega
  have e2 : (b : Int) - (m : Int) = (lv : Int) := by omega
  clear hB hd ha hm hb hul hvl
  go_enter Try.func65, Try.ntmps65
  go_wp2
  clear e1 e2
  go_loopw [10, 11] (fun i j wr => ∃ (p q : Nat) (D : List Nat), i = .int .i64 (p : Int) ∧ j = .int .i64 (q : Int) ∧ 0 < p ∧ 0 < q ∧ RotAt x u v y len m p q D ∧ Turned w wr g 83 (ptrs N D ++ rest)) (fun i j _ => (intOf i).toNat + (intOf j).toNat)
  case atStart => exact ⟨lu, lv, _, rfl, rfl, hu, hv, h0.out, hT.out⟩
  case round =>
    obtain ⟨p, q, D, rfl, rfl, hp, hq, hA, gt⟩ := hrel
    clear hT h0
    obtain ⟨q1, q2, q3⟩ := hA.bound
    obtain ⟨c1, hc1⟩ : ∃ c, m - p = c := ⟨_, rfl⟩
    have e1 : (m : Int) - (p : Int) = (c1 : Int) := by omega
    have j1 : (p : Int) ≤ (m : Int) := by omega
    have j2 : (m : Int) ≤ 1000000 := by omega
    have j3 : (q : Int) ≤ 1000000 := by omega
    rcases Nat.lt_trichotomy p q with h | h | h
    · have k1 : ((p : Int) == (q : Int)) = false := by rw [beq_eq_false_iff_ne]; omega
      have k2 : ((p : Int) != (q : Int)) = true := by rw [bne_iff_ne]; omega
      have k3 : decide (q < p) = false := by simp; omega
      have k4 : decide ((q : Int) < (p : Int)) = false := by simp; omega
      obtain ⟨c2, hc2⟩ : ∃ c, m + q - p = c := ⟨_, rfl⟩
      have e2 : (m : Int) + (q : Int) - (p : Int) = (c2 : Int) := by omega
      have hA2 := hA.lss h
      have hS := z_swap g cap len c1 c2 p N D rest fv wr q3 gt.2 (by omega) (by omega) hl
      rw [hc1, hc2] at hA2
      obtain ⟨r, hr⟩ : ∃ r, q - p = r := ⟨_, rfl⟩
      rw [hr] at hA2
      have e3 : (q : Int) - (p : Int) = (r : Int) := by omega
      have hr0 : 0 < r ∧ r < q := by omega
      have HS := Lib.hid hS
      have HA := Lib.hid hA2
      clear hS hA2 hA hc1 hc2 hr q3
      go_wp2_with fail
      (with_reducible refine HS.out.mono ?_)
      rintro e w9 ⟨rfl, ht9⟩
      have T9 := gt.trans ht9
      clear e1 e2 HS ht9
      go_wp2
      go_roundw
      case rel => exact ⟨p, r, _, rfl, by rw [← e3], hp, hr0.1, HA.out, T9⟩
      case measure => simp [intOf]; omega
    · subst h
      have k1 : ((p : Int) == (p : Int)) = true := by simp
      have k2 : ((p : Int) != (p : Int)) = false := by simp
      have hA2 := hA.same
      have hS := z_swap g cap len c1 m p N D rest fv wr q3 gt.2 (by omega) (by omega) hl
      rw [hc1] at hA2
      rw [hA2] at hS
      have HS := Lib.hid hS
      clear hS hA2 hA hc1 q3
      go_wp2_with fail
      (with_reducible refine HS.out.mono ?_)
      rintro e w9 ⟨rfl, ht9⟩
      have T9 := gt.trans ht9
      go_wp2
      go_end0
      exact ⟨rfl, T9⟩
    · have k1 : ((p : Int) == (q : Int)) = false := by rw [beq_eq_false_iff_ne]; omega
      have k2 : ((p : Int) != (q : Int)) = true := by rw [bne_iff_ne]; omega
      have k3 : decide (q < p) = true := by simp; omega
      have k4 : decide ((q : Int) < (p : Int)) = true := by simp; omega
      have hA2 := hA.gtr h
      have hS := z_swap g cap len c1 m q N D rest fv wr q3 gt.2 (by omega) (by omega) hl
      rw [hc1] at hA2
      obtain ⟨r, hr⟩ : ∃ r, p - q = r := ⟨_, rfl⟩
      rw [hr] at hA2
      have e3 : (p : Int) - (q : Int) = (r : Int) := by omega
      have hr0 : 0 < r ∧ r < p := by omega
      have HS := Lib.hid hS
      have HA := Lib.hid hA2
      clear hS hA2 hA hc1 hr q3
      go_wp2_with fail
      (with_reducible refine HS.out.mono ?_)
      rintro e w9 ⟨rfl, ht9⟩
      have T9 := gt.trans ht9
      clear e1 HS ht9
      go_wp2
      go_roundw
      case rel => exact ⟨r, q, _, by rw [← e3], rfl, hr0.1, hq, HA.out, T9⟩
      case measure => simp [intOf]; omega
end Go.Proofs.Ytpjdlkbpnodcdaa
