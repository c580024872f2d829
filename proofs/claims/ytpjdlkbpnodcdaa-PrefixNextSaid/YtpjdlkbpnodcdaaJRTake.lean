/- Walks of the reference's Take and End. -/
import Derived.Test.YtpjdlkbpnodcdaaJ1
namespace Go.Proofs.Ytpjdlkbpnodcdaa
open Go.RowKit
set_option linter.unusedVariables false

set_option maxRecDepth 100000 in
set_option maxHeartbeats 400000 in
theorem r_Take_arg (R : Nat) (x : Int) (w : World) (hx : x < 0 ∨ 24 < x) :
    Calls Try.prog 41 #[.pointer (some ⟨R, 0, none⟩), .int .i64 x] w fun e w' => e = .returned (.tuple #[.int .u32 0, .int .i64 1]) ∧ Below w.heap.size w w' := by
  rcases hx with h | h
  · have g1 : decide (x < 0) = true := by simp; omega
    go_enter Try.func41, Try.ntmps41
    go_wp2
    go_ret2
    exact ⟨rfl, Below.refl _ _⟩
  · have g1 : decide (x < 0) = false := by simp; omega
    have g2 : decide (24 < x) = true := by simp; omega
    go_enter Try.func41, Try.ntmps41
    go_wp2
    go_ret2
    exact ⟨rfl, Below.refl _ _⟩
set_option maxRecDepth 100000 in
set_option maxHeartbeats 400000 in
theorem r_Take_short (R : Nat) (s : ByteArray) (p k : Nat) (w : World) (hR : Blk w R 44 (rdr s p)) (hk : k ≤ 24) (hp : p ≤ 8 * s.size) (hs : s.size ≤ 1000000000) (hlt : 8 * s.size - p < k) :
    Calls Try.prog 41 #[.pointer (some ⟨R, 0, none⟩), .int .i64 (k : Int)] w fun e w' => e = .returned (.tuple #[.int .u32 0, .int .i64 40]) ∧ Below w.heap.size w w' := by
  have g1 : decide ((k : Int) < 0) = false := by simp
  have g2 : decide ((24 : Int) < (k : Int)) = false := by simp; omega
  have hL := fun w h => r_rLeft R s p w h hp hs
  generalize 8 * s.size - p = L at *
  have d1 : decide ((L : Int) < (k : Int)) = true := by simp; omega
  have d2 : decide (L < k) = true := by simp; omega
  have HL := Lib.hid hL
  clear hL hlt hp hs
  go_enter Try.func41, Try.ntmps41
  go_wp2_with fail
  (with_reducible refine (HL.out _ hR).mono ?_)
  rintro e w9 ⟨rfl, nq, rfl⟩
  have hb1 := below_drewN (Below.refl w.heap.size w) nq
  go_wp2
  go_ret2
  exact ⟨rfl, hb1⟩
set_option maxRecDepth 100000 in
set_option maxHeartbeats 1000000 in
theorem r_Take_ok (R : Nat) (s : ByteArray) (p k : Nat) (w : World) (hR : Blk w R 44 (rdr s p)) (hk : k ≤ 24) (hp : p ≤ 8 * s.size) (hs : s.size ≤ 1000000000) (hlt : p + k ≤ 8 * s.size) :
    Calls Try.prog 41 #[.pointer (some ⟨R, 0, none⟩), .int .i64 (k : Int)] w fun e w' => e = .returned (.tuple #[.int .u32 ((numB (sl s) p k : Nat) : Int), .int .i64 0]) ∧ Turned w w' R 44 (rdr s (p + k)) := by
  have g1 : decide ((k : Int) < 0) = false := by simp
  have g2 : decide ((24 : Int) < (k : Int)) = false := by simp; omega
  have hL := fun w h => r_rLeft R s p w h hp hs
  have d1 : decide (((8 * s.size - p : Nat) : Int) < (k : Int)) = false := by simp; omega
  have d2 : decide (8 * s.size - p < k) = false := by simp; omega
  generalize 8 * s.size - p = L at *
  have HL := Lib.hid hL
  have hR0 := hR
  clear hL
  go_enter Try.func41, Try.ntmps41
  go_wp2_with fail
  (with_reducible refine (HL.out _ hR).mono ?_)
  rintro e w9 ⟨rfl, nq, rfl⟩
  have hb1 := below_drewN (Below.refl w.heap.size w) nq
  have hR1 := hR.drewN nq
  clear HL hR
  generalize World.drewN w nq = w1 at *
  go_wp2
  go_loop [6, 7] (fun u i => ∃ j : Nat, j ≤ k ∧ i = .int .i64 (j : Int) ∧ u = .int .u32 ((numB (sl s) p j : Nat) : Int)) (fun _ i => k - (intOf i).toNat)
  case atStart => exact ⟨0, by omega, rfl, rfl⟩
  case round =>
    obtain ⟨j, hj, rfl, rfl⟩ := hrel
    by_cases hjk : j < k
    · have d3 : (j : Int) < (k : Int) := by omega
      have hB := r_rbit R s p (p + j) w1 hR1 (by omega) hs
      have hor0 := numB_or (sl s) p j
      have hz2 := bitAt_lt (sl s) (p + j)
      have hn1 := numB_lt (sl s) p j
      have hpw : 2 ^ j ≤ 2 ^ 23 := Nat.pow_le_pow_right (by decide) (by omega)
      have c2 := hR1.cell 1
      simp only [rdr, List.getElem?_cons_zero, List.getElem?_cons_succ] at c2
      have eqi : ((p + j : Nat) : Int) = (p : Int) + (j : Int) := by simp
      have hpb : (p : Int) ≤ 8000000000 := by omega
      rw [eqi] at hB
      generalize bitAt (sl s) (p + j) = z at *
      generalize ha1 : numB (sl s) p (j + 1) = a1 at *
      have HA1 := Lib.hid ha1
      clear ha1
      generalize numB (sl s) p j = a0 at *
      obtain ⟨sh, hsh⟩ : ∃ sh, z * 2 ^ j = sh := ⟨_, rfl⟩
      have hshl : sh ≤ 2 ^ 23 := by
        rw [← hsh]
        have := Nat.mul_le_mul (show z ≤ 1 by omega) hpw
        omega
      have hs1 : (z : Int) * 2 ^ j = (sh : Int) := by rw [← hsh]; simp
      have hs2 : IntKind.u32.wrap (sh : Int) = (sh : Int) := wraps_u32 _ (by omega) (by omega)
      have hor : bits .or .u32 (a0 : Int) (sh : Int) = (a1 : Int) := by
        rw [← hor0, hsh]; exact or_u32 _ _ (by omega) (by omega)
      have i2 : (j : Int).toNat = j := by omega
      have i3 : (0 : Int) ≤ (j : Int) := by omega
      have HB := Lib.hid hB
      clear hB hor0 hn1 hpw hshl hsh eqi
      go_wp2_with fail
      (with_reducible refine HB.out.mono ?_)
      rintro e w9 ⟨rfl, rfl⟩
      go_wp2
      go_round
      case rel => exact ⟨j + 1, by omega, by go_num, by rw [HA1.out]⟩
      case measure => simp [intOf]; omega
    · obtain rfl : j = k := by omega
      have c1 := hR1.cell 1
      have z1 := hR1.free 1
      simp only [rdr, List.getElem?_cons_zero, List.getElem?_cons_succ] at c1
      have hpb : (p : Int) ≤ 8000000000 := by omega
      have ht := Turned.set hb1 hR0 1 (.int .i64 ((p + j : Nat) : Int))
      rw [show ((p + j : Nat) : Int) = (p : Int) + (j : Int) by simp] at ht
      go_wp2
      go_ret2
      refine ⟨rfl, ?_⟩
      have e : rdr s (p + j) = (rdr s p).set 1 (.int .i64 ((p : Int) + (j : Int))) := by simp [rdr]
      rw [e]
      exact ht
/-- whatever width -/
theorem r_Take' (R : Nat) (s : ByteArray) (p : Nat) (x : Int) (w : World) (hR : Blk w R 44 (rdr s p)) (hp : p ≤ 8 * s.size) (hs : s.size ≤ 1000000000) (n er p' : Nat) (h : takeP (sl s) p x = (n, er, p')) :
    Calls Try.prog 41 #[.pointer (some ⟨R, 0, none⟩), .int .i64 x] w fun e w' => e = .returned (.tuple #[.int .u32 (n : Int), .int .i64 (er : Int)]) ∧ Turned w w' R 44 (rdr s p') := by
  unfold takeP at h
  split at h
  · rename_i hx
    cases h
    exact (r_Take_arg R x w hx).mono fun e w' ⟨h1, h2⟩ => ⟨h1, Turned.of_below h2 hR⟩
  · rename_i hx
    obtain ⟨k, rfl⟩ : ∃ k : Nat, x = (k : Int) := ⟨x.toNat, by omega⟩
    rw [sl_len] at h
    split at h
    · rename_i hk
      cases h
      exact (r_Take_short R s p k w hR (by omega) hp hs (by simpa using hk)).mono fun e w' ⟨h1, h2⟩ => ⟨h1, Turned.of_below h2 hR⟩
    · rename_i hk
      simp at hk
      cases h
      exact r_Take_ok R s p k w hR (by omega) hp hs (by omega)
theorem endP_step {s : List Nat} {p j : Nat} (hp : p ≤ j) (hj : j < 8 * s.length) (h8 : 8 * s.length - p < 8) (hz : ∀ i, p ≤ i → i < j → bitAt s i ≠ 1) (h1 : bitAt s j = 1) : endP s p = 42 := by
  unfold endP
  rw [if_neg (by omega), if_pos ⟨j, hj, hp, h1⟩]
theorem endP_none {s : List Nat} {p : Nat} (h8 : 8 * s.length - p < 8) (hz : ∀ i, p ≤ i → i < 8 * s.length → bitAt s i ≠ 1) : endP s p = 0 := by
  unfold endP
  rw [if_neg (by omega), if_neg]
  rintro ⟨i, h1, h2, h3⟩
  exact hz i h2 h1 h3
end Go.Proofs.Ytpjdlkbpnodcdaa
