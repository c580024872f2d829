/- Walks of bitio's small functions. -/
import Derived.Test.YtpjfafefgmjmfaaG2
import Derived.Test.YtpjfafefgmjmfaaBNum
import Derived.Test.YtpjfafefgmjmfaaSlo
import Derived.Test.YtpjfafefgmjmfaaG1
import Derived.IntWalk
namespace Go.Proofs.Ytpjfafefgmjmfaa
open Go.RowKit
set_option linter.unusedVariables false

theorem size_piece : (Try.prog.info? 45).map (·.size) = some 2 := by kernel_rfl
theorem i_width_yes (k : Nat) (w : World) (h2 : k ≤ 24) :
    Calls Try.prog 27 #[.int .i64 (k : Int)] w fun e w' => e = .returned (.bool true) ∧ w = w' := by
  have g1 : decide ((0 : Int) ≤ (k : Int)) = true := by simp
  have g2 : decide ((k : Int) ≤ 24) = true := by simp; omega
  go_enter Try.func27, Try.ntmps27
  go_wp2
  go_ret
  exact ⟨rfl, rfl⟩
theorem i_width_no (k : Int) (w : World) (h : k < 0 ∨ 24 < k) :
    Calls Try.prog 27 #[.int .i64 k] w fun e w' => e = .returned (.bool false) ∧ w = w' := by
  rcases h with h | h
  · have g1 : decide ((0 : Int) ≤ k) = false := by simp; omega
    go_enter Try.func27, Try.ntmps27
    go_wp2
    go_ret
    exact ⟨rfl, rfl⟩
  · have g1 : decide ((0 : Int) ≤ k) = true := by simp; omega
    have g2 : decide (k ≤ 24) = false := by simp; omega
    go_enter Try.func27, Try.ntmps27
    go_wp2
    go_ret
    exact ⟨rfl, rfl⟩
set_option maxRecDepth 100000 in
theorem i_may_yes (n k : Nat) (w : World) (h1 : k ≤ 24) (h2 : n < 2 ^ k) :
    Calls Try.prog 21 #[.agg #[.int .u32 (n : Int), .int .i64 (k : Int)]] w fun e w' => e = .returned (.bool true) ∧ Below w.heap.size w w' := by
  have hd : n / 2 ^ k = 0 := Nat.div_eq_of_lt h2
  have hd2 : (n : Int) / 2 ^ k = 0 := by have := congrArg (fun x : Nat => (x : Int)) hd; simpa using this
  have i2 : (k : Int).toNat = k := by omega
  have i3 : (0 : Int) ≤ (k : Int) := by omega
  have hW := fun w => i_width_yes k w h1
  have HW := Lib.hid hW
  clear hW hd h2
  go_enter Try.func21, Try.ntmps21
  go_wp2_with (go_at_call 27; (with_reducible refine (HW.out _).mono ?_); rintro e w9 ⟨rfl, rfl⟩)
  go_ret
  exact ⟨rfl, (Below.refl _ _).alloc (Nat.le_refl _) _⟩
set_option maxRecDepth 100000 in
theorem i_may_no (n : Nat) (x : Int) (w : World) (h : ¬ mayP (n, x)) :
    Calls Try.prog 21 #[.agg #[.int .u32 (n : Int), .int .i64 x]] w fun e w' => e = .returned (.bool false) ∧ Below w.heap.size w w' := by
  by_cases hx : x < 0 ∨ 24 < x
  · have hW := fun w => i_width_no x w hx
    have HW := Lib.hid hW
    clear hW hx h
    go_enter Try.func21, Try.ntmps21
    go_wp2_with (go_at_call 27; (with_reducible refine (HW.out _).mono ?_); rintro e w9 ⟨rfl, rfl⟩)
    go_ret
    exact ⟨rfl, (Below.refl _ _).alloc (Nat.le_refl _) _⟩
  · obtain ⟨k, rfl⟩ : ∃ k : Nat, x = (k : Int) := ⟨x.toNat, by omega⟩
    have h1 : k ≤ 24 := by omega
    have h2 : ¬ n < 2 ^ k := fun h' => h ⟨by simp, (by show (k : Int) ≤ 24; omega), by simpa using h'⟩
    have hd : n / 2 ^ k ≠ 0 := by
      intro e
      rcases Nat.div_eq_zero_iff.1 e with h' | h'
      · have := Nat.two_pow_pos k; omega
      · exact h2 h'
    have hd2 : ((n : Int) / 2 ^ k == 0) = false := by
      rw [beq_eq_false_iff_ne]
      intro e
      apply hd
      have e2 : ((n / 2 ^ k : Nat) : Int) = 0 := by simpa using e
      omega
    have i2 : (k : Int).toNat = k := by omega
    have i3 : (0 : Int) ≤ (k : Int) := by omega
    have hW := fun w => i_width_yes k w h1
    have HW := Lib.hid hW
    clear hW hd h2 h hx
    go_enter Try.func21, Try.ntmps21
    go_wp2_with (go_at_call 27; (with_reducible refine (HW.out _).mono ?_); rintro e w9 ⟨rfl, rfl⟩)
    go_ret
    exact ⟨rfl, (Below.refl _ _).alloc (Nat.le_refl _) _⟩
/-- what a reader's variable has: the text, and the bit ahead of which it stands -/
def rdr (s : ByteArray) (p : Nat) : List Value := [.string s, .int .i64 (p : Int)]
theorem size_reader : (Try.prog.info? 58).map (·.size) = some 2 := by kernel_rfl
set_option maxRecDepth 100000 in
theorem i_New (s : ByteArray) (w : World) :
    Calls Try.prog 14 #[.string s] w fun e w' => e = .returned (.pointer (some ⟨w.heap.size, 0, none⟩)) ∧ w' = w.alloc (.cells (rdr s 0).toArray 58) := by
  go_enter Try.func14, Try.ntmps14
  go_wp2
  go_ret
  exact ⟨rfl, rfl⟩
set_option maxRecDepth 100000 in
theorem i_Left (R : Nat) (s : ByteArray) (p : Nat) (w : World) (hR : Blk w R 58 (rdr s p)) (hp : p ≤ 8 * s.size) (hs : s.size ≤ 1000000000) :
    Calls Try.prog 17 #[.pointer (some ⟨R, 0, none⟩)] w fun e w' => e = .returned (.int .i64 ((8 * s.size - p : Nat) : Int)) ∧ ∃ n, w' = w.drewN n := by
  have c0 := hR.cell 0
  have c1 := hR.cell 1
  simp only [rdr, List.getElem?_cons_zero, List.getElem?_cons_succ] at c0 c1
  have i1 : (p : Int) ≤ 8 * (s.size : Int) := by omega
  have i2 : (s.size : Int) ≤ 1000000000 := by omega
  have hE : 8 * (s.size : Int) - (p : Int) = ((8 * s.size - p : Nat) : Int) := by omega
  have e1 : IntKind.i64.wrap (8 * (s.size : Int)) = 8 * (s.size : Int) := IntWalk.i64_in _ (by omega)
  have e2 : IntKind.i64.wrap (8 * (s.size : Int) - (p : Int)) = 8 * (s.size : Int) - (p : Int) := IntWalk.i64_in _ (by omega)
  have HE := Lib.hid hE
  clear hE hR
  go_enter Try.func17, Try.ntmps17
  go_wp2
  go_quiet (fail)
  go_wp2
  go_ret
  exact ⟨by rw [← HE.out]; rfl, _, rfl⟩
theorem and_one_u8 (b : Nat) (h : b < 256) : bits .and .u8 (b : Int) 1 = ((b % 2 : Nat) : Int) := by
  have h' : ∀ m : Fin 256, bits .and .u8 (m.val : Int) 1 = ((m.val % 2 : Nat) : Int) := by decide +kernel
  exact h' ⟨b, h⟩
set_option maxRecDepth 100000 in
theorem i_bit (R : Nat) (s : ByteArray) (p i : Nat) (w : World) (hR : Blk w R 58 (rdr s p)) (hi : i < 8 * s.size) (hs : s.size ≤ 1000000000) :
    Calls Try.prog 28 #[.pointer (some ⟨R, 0, none⟩), .int .i64 (i : Int)] w fun e w' => e = .returned (.int .u32 ((bitAt (sl s) i : Nat) : Int)) ∧ w = w' := by
  have c0 := hR.cell 0
  simp only [rdr, List.getElem?_cons_zero] at c0
  obtain ⟨q, r, hq, hr, hb⟩ : ∃ q r, i = 8 * q + r ∧ r < 8 ∧ bitAt (sl s) i = (sl s).getD q 0 / 2 ^ r % 2 := ⟨i / 8, i % 8, by omega, by omega, rfl⟩
  have hql : q < s.size := by omega
  have hx := fun w => index_sl s .i64 q hql w
  have hbb := sl_bys s q
  generalize (sl s).getD q 0 = b at *
  generalize bitAt (sl s) i = z at *
  have e1 : (i : Int) / 8 = (q : Int) := by omega
  have e2 : (i : Int) % 8 = (r : Int) := by omega
  have i1 : (0 : Int) ≤ (i : Int) := by omega
  have i2 : (r : Int).toNat = r := by omega
  have i3 : (0 : Int) ≤ (r : Int) := by omega
  have hv : (b : Int) / 2 ^ r = ((b / 2 ^ r : Nat) : Int) := by simp
  have hlt : b / 2 ^ r < 256 := Nat.lt_of_le_of_lt (Nat.div_le_self _ _) hbb
  have hand : bits .and .u8 ((b : Int) / 2 ^ r) 1 = (z : Int) := by rw [hv, hb]; exact and_one_u8 _ hlt
  have hz : (z : Int) < 2 := by rw [hb]; have := Nat.mod_lt (b / 2 ^ r) (show 0 < 2 by decide); omega
  have hz0 : (0 : Int) ≤ (z : Int) := by omega
  have HQ := Lib.hid hq
  clear hR hq hb hv hlt hql
  go_enter Try.func28, Try.ntmps28
  go_wp2
  go_ret
  exact ⟨rfl, rfl⟩
theorem i_bits (p : Option Addr) (n cap : Nat) (w : World) :
    Calls Try.prog 22 #[.slice p n cap] w fun e w' => e = .returned (.func (.func 30) #[] #[.pointer (some ⟨w.heap.size, 0, none⟩)]) ∧ w' = w.alloc (.cells #[.slice p n cap] 22) := by
  go_enter Try.func22, Try.ntmps22
  go_wp2
  go_ret
  exact ⟨rfl, rfl⟩
/-! ### the reference's -/
set_option maxRecDepth 100000 in
theorem r_rLeft (R : Nat) (s : ByteArray) (p : Nat) (w : World) (hR : Blk w R 37 (rdr s p)) (hp : p ≤ 8 * s.size) (hs : s.size ≤ 1000000000) :
    Calls Try.prog 18 #[.pointer (some ⟨R, 0, none⟩)] w fun e w' => e = .returned (.int .i64 ((8 * s.size - p : Nat) : Int)) ∧ ∃ n, w' = w.drewN n := by
  have c0 := hR.cell 0
  have c1 := hR.cell 1
  simp only [rdr, List.getElem?_cons_zero, List.getElem?_cons_succ] at c0 c1
  have i1 : (p : Int) ≤ 8 * (s.size : Int) := by omega
  have i2 : (s.size : Int) ≤ 1000000000 := by omega
  have hE : 8 * (s.size : Int) - (p : Int) = ((8 * s.size - p : Nat) : Int) := by omega
  have e1 : IntKind.i64.wrap (8 * (s.size : Int)) = 8 * (s.size : Int) := IntWalk.i64_in _ (by omega)
  have e2 : IntKind.i64.wrap (8 * (s.size : Int) - (p : Int)) = 8 * (s.size : Int) - (p : Int) := IntWalk.i64_in _ (by omega)
  have HE := Lib.hid hE
  clear hE hR
  go_enter Try.func18, Try.ntmps18
  go_wp2
  go_quiet (fail)
  go_wp2
  go_ret
  exact ⟨by rw [← HE.out]; rfl, _, rfl⟩
set_option maxRecDepth 100000 in
theorem r_rbit (R : Nat) (s : ByteArray) (p i : Nat) (w : World) (hR : Blk w R 37 (rdr s p)) (hi : i < 8 * s.size) (hs : s.size ≤ 1000000000) :
    Calls Try.prog 29 #[.pointer (some ⟨R, 0, none⟩), .int .i64 (i : Int)] w fun e w' => e = .returned (.int .u32 ((bitAt (sl s) i : Nat) : Int)) ∧ w = w' := by
  have c0 := hR.cell 0
  simp only [rdr, List.getElem?_cons_zero] at c0
  obtain ⟨q, r, hq, hr, hb⟩ : ∃ q r, i = 8 * q + r ∧ r < 8 ∧ bitAt (sl s) i = (sl s).getD q 0 / 2 ^ r % 2 := ⟨i / 8, i % 8, by omega, by omega, rfl⟩
  have hql : q < s.size := by omega
  have hx := fun w => index_sl s .i64 q hql w
  have hbb := sl_bys s q
  generalize (sl s).getD q 0 = b at *
  generalize bitAt (sl s) i = z at *
  have e1 : (i : Int) / 8 = (q : Int) := by omega
  have e2 : (i : Int) % 8 = (r : Int) := by omega
  have i1 : (0 : Int) ≤ (i : Int) := by omega
  have i2 : (r : Int).toNat = r := by omega
  have i3 : (0 : Int) ≤ (r : Int) := by omega
  have hv : (b : Int) / 2 ^ r = ((b / 2 ^ r : Nat) : Int) := by simp
  have hlt : b / 2 ^ r < 256 := Nat.lt_of_le_of_lt (Nat.div_le_self _ _) hbb
  have hand : bits .and .u8 ((b : Int) / 2 ^ r) 1 = (z : Int) := by rw [hv, hb]; exact and_one_u8 _ hlt
  have hz : (z : Int) < 2 := by rw [hb]; have := Nat.mod_lt (b / 2 ^ r) (show 0 < 2 by decide); omega
  have hz0 : (0 : Int) ≤ (z : Int) := by omega
  have HQ := Lib.hid hq
  clear hR hq hb hv hlt hql
  go_enter Try.func29, Try.ntmps29
  go_wp2
  go_ret
  exact ⟨rfl, rfl⟩
set_option maxRecDepth 100000 in
theorem r_may_yes (n k : Nat) (w : World) (h1 : k ≤ 24) (h2 : n < 2 ^ k) :
    Calls Try.prog 23 #[.agg #[.int .u32 (n : Int), .int .i64 (k : Int)]] w fun e w' => e = .returned (.bool true) ∧ Below w.heap.size w w' := by
  have g1 : decide ((0 : Int) ≤ (k : Int)) = true := by simp
  have g2 : decide ((k : Int) ≤ 24) = true := by simp; omega
  have hp : (2 : Nat) ^ k ≤ 2 ^ 24 := Nat.pow_le_pow_right (by decide) h1
  have hd2 : decide ((n : Int) < 2 ^ k) = true := by
    have : ((2 : Int) ^ k) = ((2 ^ k : Nat) : Int) := by simp
    rw [this]; simp; exact_mod_cast h2
  have i2 : (k : Int).toNat = k := by omega
  have i3 : (0 : Int) ≤ (k : Int) := by omega
  have hw : IntKind.u64.wrap ((2 : Int) ^ k) = (2 : Int) ^ k := by
    have : ((2 : Int) ^ k) = ((2 ^ k : Nat) : Int) := by simp
    rw [this]
    exact wraps_u64 _ (by omega) (by omega)
  have hw2 : IntKind.u64.wrap (n : Int) = (n : Int) := wraps_u64 _ (by omega) (by omega)
  clear hp
  go_enter Try.func23, Try.ntmps23
  go_wp2
  go_quiet (fail)
  go_wp2
  go_ret
  exact ⟨rfl, below_drewN ((Below.refl _ _).alloc (Nat.le_refl _) _) _⟩
set_option maxRecDepth 100000 in
theorem r_may_no (n : Nat) (x : Int) (w : World) (hn : n < 4294967296) (h : ¬ mayP (n, x)) :
    Calls Try.prog 23 #[.agg #[.int .u32 (n : Int), .int .i64 x]] w fun e w' => e = .returned (.bool false) ∧ Below w.heap.size w w' := by
  by_cases hx : x < 0
  · have g1 : decide ((0 : Int) ≤ x) = false := by simp; omega
    clear h
    go_enter Try.func23, Try.ntmps23
    go_wp2
    go_quiet (fail)
    go_wp2
    go_ret
    exact ⟨rfl, below_drewN ((Below.refl _ _).alloc (Nat.le_refl _) _) _⟩
  · have g1 : decide ((0 : Int) ≤ x) = true := by simp; omega
    by_cases hy : 24 < x
    · have g2 : decide (x ≤ 24) = false := by simp; omega
      clear h
      go_enter Try.func23, Try.ntmps23
      go_wp2
      go_quiet (fail)
      go_wp2
      go_ret
      exact ⟨rfl, below_drewN ((Below.refl _ _).alloc (Nat.le_refl _) _) _⟩
    · obtain ⟨k, rfl⟩ : ∃ k : Nat, x = (k : Int) := ⟨x.toNat, by omega⟩
      have h1 : k ≤ 24 := by omega
      have g2 : decide ((k : Int) ≤ 24) = true := by simp; omega
      have h2 : ¬ n < 2 ^ k := fun h' => h ⟨by simp, (by show (k : Int) ≤ 24; omega), by simpa using h'⟩
      have hp : (2 : Nat) ^ k ≤ 2 ^ 24 := Nat.pow_le_pow_right (by decide) h1
      have hd2 : decide ((n : Int) < 2 ^ k) = false := by
        have : ((2 : Int) ^ k) = ((2 ^ k : Nat) : Int) := by simp
        rw [this]; simp; exact_mod_cast Nat.le_of_not_lt h2
      have i2 : (k : Int).toNat = k := by omega
      have i3 : (0 : Int) ≤ (k : Int) := by omega
      have hpos := Nat.two_pow_pos k
      have hw : IntKind.u64.wrap ((2 : Int) ^ k) = (2 : Int) ^ k := by
        have : ((2 : Int) ^ k) = ((2 ^ k : Nat) : Int) := by simp
        rw [this]
        exact wraps_u64 _ (by omega) (by omega)
      have hw2 : IntKind.u64.wrap (n : Int) = (n : Int) := wraps_u64 _ (by omega) (by omega)
      clear hp h h2 hx hy hn hpos
      go_enter Try.func23, Try.ntmps23
      go_wp2
      go_quiet (fail)
      go_wp2
      go_ret
      exact ⟨rfl, below_drewN ((Below.refl _ _).alloc (Nat.le_refl _) _) _⟩
end Go.Proofs.Ytpjfafefgmjmfaa
