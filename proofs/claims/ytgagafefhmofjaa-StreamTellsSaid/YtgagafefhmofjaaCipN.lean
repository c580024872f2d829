/- Walks of the reference's boxed, Expand. -/
import Derived.Test.YtgagafefhmofjaaCipM
import Derived.Test.YtgagafefhmofjaaCipDt
namespace Go.Proofs.Ytgagafefhmofjaa
open Go.RowKit
set_option linter.unusedVariables false

/-- four bytes put together -/
theorem or_bytes (y0 y1 y2 y3 x : Nat) (v0 : y0 < 256) (v1 : y1 < 256) (v2 : y2 < 256) (v3 : y3 < 256) (hkw : x = ((y0 * 256 + y1) * 256 + y2) * 256 + y3) :
    ∃ A0 A1 A2 S1 S2 : Nat, IntKind.u32.wrap (y0 : Int) = (y0 : Int) ∧ IntKind.u32.wrap (y1 : Int) = (y1 : Int) ∧ IntKind.u32.wrap (y2 : Int) = (y2 : Int) ∧ IntKind.u32.wrap (y3 : Int) = (y3 : Int) ∧
      IntKind.u32.wrap ((y0 : Int) * 16777216) = (A0 : Int) ∧ IntKind.u32.wrap ((y1 : Int) * 65536) = (A1 : Int) ∧ IntKind.u32.wrap ((y2 : Int) * 256) = (A2 : Int) ∧
      bits .or .u32 (A0 : Int) (A1 : Int) = (S1 : Int) ∧ bits .or .u32 (S1 : Int) (A2 : Int) = (S2 : Int) ∧ bits .or .u32 (S2 : Int) (y3 : Int) = (x : Int) := by
  refine ⟨y0 * 16777216, y1 * 65536, y2 * 256, y0 * 16777216 + y1 * 65536, y0 * 16777216 + y1 * 65536 + y2 * 256, wraps_u32 _ (by omega) (by omega), wraps_u32 _ (by omega) (by omega), wraps_u32 _ (by omega) (by omega), wraps_u32 _ (by omega) (by omega), ?_, ?_, ?_, ?_, ?_, ?_⟩
  · rw [wraps_u32 _ (by omega) (by omega)]; omega
  · rw [wraps_u32 _ (by omega) (by omega)]; omega
  · rw [wraps_u32 _ (by omega) (by omega)]; omega
  · rw [or_word _ _ (by omega) (by omega), Nat.or_comm, show y0 * 16777216 = y0 * 2 ^ 24 by omega, or_add _ _ _ (by omega), Nat.add_comm]
  · rw [or_word _ _ (by omega) (by omega), Nat.or_comm, show y0 * 16777216 + y1 * 65536 = (y0 * 256 + y1) * 2 ^ 16 by omega, or_add _ _ _ (by omega), Nat.add_comm]
  · rw [or_word _ _ (by omega) (by omega), Nat.or_comm, show y0 * 16777216 + y1 * 65536 + y2 * 256 = (y0 * 65536 + y1 * 256 + y2) * 2 ^ 8 by omega, or_add _ _ _ (by omega)]
    omega

theorem and255 (x : Nat) (h : x < 4294967296) : bits .and .u32 (x : Int) 255 = ((x % 256 : Nat) : Int) := by
  have e := (bits_nat .u32 32 (by decide) wraps_u32 x 255 h (by omega)).1
  rw [show ((255 : Nat) : Int) = 255 by rfl] at e
  rw [e, show (255 : Nat) = 2 ^ 8 - 1 by rfl, Nat.and_two_pow_sub_one_eq_mod]
set_option maxHeartbeats 1000000 in
set_option maxRecDepth 100000 in
theorem r_boxed (t : Nat) (w : World) (ht : t < 4294967296) :
    Calls Try.prog 30 #[.int .u32 (t : Int), .agg (ints .u8 (nn boxT)).toArray] w fun e w' => e = .returned (.int .u32 ((eachN boxG t : Nat) : Int)) ∧ Below w.heap.size w w' := by
  obtain ⟨p, hp, hpI⟩ : ∃ p : Nat, p < 256 ∧ (t : Int) / 16777216 = (p : Int) ∧ t / 16777216 % 256 = p := ⟨t / 16777216, by omega, by omega, by omega⟩
  obtain ⟨q, hq, hqI⟩ : ∃ q : Nat, q < 256 ∧ bits .and .u32 ((t : Int) / 65536) 255 = (q : Int) ∧ t / 65536 % 256 = q := ⟨t / 65536 % 256, Nat.mod_lt _ (by omega), by rw [← and255 _ (by omega)]; simp, rfl⟩
  obtain ⟨r, hr, hrI⟩ : ∃ r : Nat, r < 256 ∧ bits .and .u32 ((t : Int) / 256) 255 = (r : Int) ∧ t / 256 % 256 = r := ⟨t / 256 % 256, Nat.mod_lt _ (by omega), by rw [← and255 _ (by omega)]; simp, rfl⟩
  obtain ⟨s, hs, hsI⟩ : ∃ s : Nat, s < 256 ∧ bits .and .u32 (t : Int) 255 = (s : Int) ∧ t % 256 = s := ⟨t % 256, Nat.mod_lt _ (by omega), and255 _ ht, rfl⟩
  have hx : eachN boxG t = ((boxG p * 256 + boxG q) * 256 + boxG r) * 256 + boxG s := by
    rw [eachN_eq, hpI.2, hqI.2, hrI.2, hsI.2]; omega
  obtain ⟨A0, A1, A2, S1, S2, z0, z1, z2, z3, s0, s1, s2, o1, o2, o3⟩ := or_bytes (boxG p) (boxG q) (boxG r) (boxG s) (eachN boxG t) (boxG_lt hp) (boxG_lt hq) (boxG_lt hr) (boxG_lt hs) hx
  have hB : Blk (w.alloc (.cells (ints .u8 (nn boxT)).toArray 55)) w.heap.size 55 (ints .u8 (nn boxT)) := Blk.new _ _ _
  have c0 : (w.alloc (.cells (ints .u8 (nn boxT)).toArray 55)).cell? ⟨w.heap.size, p, none⟩ = some (.int .u8 ((boxG p : Nat) : Int)) := hB.nat (by rw [boxT_len]; exact hp)
  have c1 : (w.alloc (.cells (ints .u8 (nn boxT)).toArray 55)).cell? ⟨w.heap.size, q, none⟩ = some (.int .u8 ((boxG q : Nat) : Int)) := hB.nat (by rw [boxT_len]; exact hq)
  have c2 : (w.alloc (.cells (ints .u8 (nn boxT)).toArray 55)).cell? ⟨w.heap.size, r, none⟩ = some (.int .u8 ((boxG r : Nat) : Int)) := hB.nat (by rw [boxT_len]; exact hr)
  have c3 : (w.alloc (.cells (ints .u8 (nn boxT)).toArray 55)).cell? ⟨w.heap.size, s, none⟩ = some (.int .u8 ((boxG s : Nat) : Int)) := hB.nat (by rw [boxT_len]; exact hs)
  have hw2 : Below w.heap.size w (w.alloc (.cells (ints .u8 (nn boxT)).toArray 55)) := (Below.refl _ _).alloc (Nat.le_refl _) _
  have i0 := hpI.1
  have i1 := hqI.1
  have i2 := hrI.1
  have i3 := hsI.1
  have p5 : (p : Int) < 256 := by omega
  have q5 : (q : Int) < 256 := by omega
  have r5 : (r : Int) < 256 := by omega
  have s5 : (s : Int) < 256 := by omega
  clear hpI hqI hrI hsI hx hB
  generalize eachN boxG t = x at *
  generalize boxG p = y0 at *
  generalize boxG q = y1 at *
  generalize boxG r = y2 at *
  generalize boxG s = y3 at *
  generalize (ints .u8 (nn boxT)).toArray = BV at *
  go_enter Try.func30, Try.ntmps30
  go_wp2_with fail
  generalize World.alloc w _ = w2 at *
  go_quiet (fail)
  go_wp2
  go_ret
  exact ⟨rfl, below_drewN hw2 nq⟩
end Go.Proofs.Ytgagafefhmofjaa
