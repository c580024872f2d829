/- Walk of the reference's Same of lists of hashes, for equal lists (stage 17: VaultTells). -/
import Derived.Test.YtogonbgelaehhaaUGd
import Derived.Test.YtogonbgelaehhaaG1
import Derived.Test.YtogonbgelaehhaaG4
import Derived.Test.YtogonbgelaehhaaDByt
namespace Go.Proofs.Ytogonbgelaehhaa
open Go.RowKit
set_option linter.unusedVariables false

set_option maxRecDepth 100000 in
set_option maxHeartbeats 2000000 in
theorem r15_Same (L : List (List Nat)) (p q : Option Addr) (c d : Nat) (w : World) (hl : L.length ≤ 1000000) (hh : HashL L) (hP : Sl w 32 (.slice p L.length c) (rowsH L)) (hQ : Sl w 32 (.slice q L.length d) (rowsH L)) :
    Calls Try.prog 16 #[.slice p L.length c, .slice q L.length d] w fun e w' => e = .returned (.bool true) ∧ Below w.heap.size w w' := by
  have HP := Lib.hid hP
  have HQ := Lib.hid hQ
  have HH := Lib.hid hh
  clear hP hQ hh
  go_enter Try.func16, Try.ntmps16
  go_wp2_with fail
  go_loopw [5] (fun i wr => ∃ j : Nat, j ≤ L.length ∧ i = .int .i64 (j : Int) ∧ Below w.heap.size w wr) (fun i _ => L.length - (intOf i).toNat)
  case atStart => exact ⟨0, Nat.zero_le _, rfl, Below.refl _ _⟩
  case round =>
    obtain ⟨j, hj, rfl, gk⟩ := hrel
    have GK := Lib.hid gk
    by_cases hlt : j < L.length
    · have hx1 := HH.out _ (getN_mem hlt)
      obtain ⟨a1, rfl, _⟩ := (HP.out.below gk).row (rowsH_at hlt)
      obtain ⟨a2, rfl, _⟩ := (HQ.out.below gk).row (rowsH_at hlt)
      have R0 : Hid (∀ wx, (∃ m, wx = wr.drewN m) → ∀ i v, (rowH (L.getD j []))[i]? = some v → wx.cell? ((a1.add (j * 32)).add i) = some v) := Lib.hid fun wx hx => by
        obtain ⟨m, rfl⟩ := hx
        obtain ⟨a', e, hc⟩ := (HP.out.below (below_drewN GK.out m)).row (rowsH_at hlt)
        cases e
        exact hc
      have R1 : Hid (∀ wx, (∃ m, wx = wr.drewN m) → ∀ i v, (rowH (L.getD j []))[i]? = some v → wx.cell? ((a2.add (j * 32)).add i) = some v) := Lib.hid fun wx hx => by
        obtain ⟨m, rfl⟩ := hx
        obtain ⟨a', e, hc⟩ := (HQ.out.below (below_drewN GK.out m)).row (rowsH_at hlt)
        cases e
        exact hc
      have heq : ∀ w, (binOp .neq 64 (.agg (rowH (L.getD j [])).toArray) (.agg (rowH (L.getD j [])).toArray)).run Try.prog w = .ok (.bool false) w := fun w => neq_hash _ _ hx1.1 hx1.1 false (by simp) w
      have hl0 : (rowH (L.getD j [])).length = 32 := rowH_len hx1.1
      have d1 : (j : Int) < (L.length : Int) := by omega
      have d2 : (L.length : Int) ≤ 1000000 := by omega
      have HLT := Lib.hid hlt
      clear hx1 hlt gk hl
      obtain ⟨X, hX⟩ : ∃ X, rowH (L.getD j []) = X := ⟨_, rfl⟩
      rw [hX] at R0 R1 heq hl0
      clear hX
      go_wp2_with fail
      refine region_drew_tail 8 mixed (by kernel_rfl) ?_
      simp only [List.take_succ_cons, List.take_zero, List.drop_succ_cons, List.drop_zero]
      repeat (first | (refine wpQuiet_load_addr rfl 64 _ rfl (a1.add (j * 32)) rfl X R0.out Try.underlying64 rfl (by rw [size_hashV, hl0]) ?_) | (refine wpQuiet_load_addr rfl 64 _ rfl (a2.add (j * 32)) rfl X R1.out Try.underlying64 rfl (by rw [size_hashV, hl0]) ?_) | go_big_quiet_step (fail) | (refine wpQuiet_step (fun K' hK' => ?_); go_simp; first | (refine hK' _ ?_; clear hK' K') | (refine ⟨_, fun _ _ => rfl, hK' _ ?_⟩; clear hK' K')))
      refine wpQuiet_nil ?_
      rintro w7 ⟨k7, rfl⟩
      have GQ7 := Lib.hid (below_drewN GK.out k7)
      generalize wr.drewN k7 = w7 at *
      go_wp2
      go_roundw
      case rel => exact ⟨j + 1, by have := HLT.out; omega, by go_num, GQ7.out⟩
      case measure => (have := HLT.out; simp [intOf]; omega)
    · obtain rfl : j = L.length := by omega
      clear gk hlt hj
      go_wp2
      go_ret
      exact ⟨rfl, GK.out⟩
end Go.Proofs.Ytogonbgelaehhaa
