/- Walk of bitio's End. -/
import Derived.Test.YtpjfafefgmjmfaaJTake
namespace Go.Proofs.Ytpjfafefgmjmfaa
open Go.RowKit
set_option linter.unusedVariables false

theorem rdr_one (s : ByteArray) (p : Nat) : (rdr s p).toArray.all (·.oneCell') = true := by simp [rdr, Value.oneCell']
set_option maxRecDepth 100000 in
set_option maxHeartbeats 400000 in
theorem i_End (R : Nat) (s : ByteArray) (p : Nat) (w : World) (hR : Blk w R 58 (rdr s p)) (hp : p ≤ 8 * s.size) (hs : s.size ≤ 1000000000) :
    Calls Try.prog 19 #[.pointer (some ⟨R, 0, none⟩)] w fun e w' => e = .returned (.int .i64 ((endP (sl s) p : Nat) : Int)) ∧ Below w.heap.size w w' := by
  have hL := fun R w h => i_Left R s p w h hp hs
  by_cases h8 : 8 ≤ 8 * s.size - p
  · rw [endP_many (by rw [sl_len]; exact h8)]
    generalize 8 * s.size - p = L at *
    have d1 : decide ((8 : Int) ≤ (L : Int)) = true := by simp; omega
    have HL := Lib.hid hL
    clear hL
    go_enter Try.func19, Try.ntmps19
    go_wp2_with (go_at_call 17; (with_reducible refine (HL.out _ _ hR).mono ?_); rintro e w9 ⟨rfl, nq, rfl⟩)
    go_ret
    exact ⟨rfl, below_drewN (Below.refl _ _) nq⟩
  · have he := endP_few (s := sl s) (p := p) (by rw [sl_len]; exact hp) (by rw [sl_len]; omega)
    rw [sl_len] at he
    have hT := fun R w h => i_Take_ok R s p (8 * s.size - p) w h (by omega) hp hs (by omega)
    generalize endP (sl s) p = er at *
    generalize numB (sl s) p (8 * s.size - p) = nb at *
    generalize 8 * s.size - p = L at *
    have d1 : decide ((8 : Int) ≤ (L : Int)) = false := by simp; omega
    have HL := Lib.hid hL
    have HT := Lib.hid hT
    clear hL hT
    go_enter Try.func19, Try.ntmps19
    go_wp2_with fail
    (with_reducible refine (HL.out _ _ hR).mono ?_)
    rintro e w9 ⟨rfl, nq, rfl⟩
    have hR1 := hR.drewN nq
    have hb1 := below_drewN (Below.refl w.heap.size w) nq
    have hz1 : w.heap.size ≤ (w.drewN nq).heap.size := hb1.size
    clear hR
    generalize World.drewN w nq = w1 at *
    have k1 := Blk.new' w1 58 (c := #[.string ⟨#[]⟩, .int .i64 0]) [.string ⟨#[]⟩, .int .i64 0] rfl
    have k2 := k1.row (rdr s p) rfl
    have kb := below_setRow (hb1.alloc hz1 (.cells #[.string ⟨#[]⟩, .int .i64 0] 58)) hz1 (rdr s p).toArray
    go_wp2_with (first | (refine wpList_load_blk rfl 58 _ rfl _ rfl hR1 Try.underlying58 rfl (by rw [size_reader]; rfl) ?_) | (refine wpList_store_blk rfl 58 _ _ rfl w1.heap.size (rdr s p) rfl rfl k1 (by rw [size_reader]; rfl) rfl (rdr_one _ _) ?_))
    clear k1 hR1
    generalize World.setRow _ _ _ = w2 at *
    generalize w1.heap.size = Z at *
    (with_reducible refine (HL.out _ _ k2).mono ?_)
    rintro e w9 ⟨rfl, nq2, rfl⟩
    have k3 := k2.drewN nq2
    have kb2 := below_drewN kb nq2
    clear k2 kb
    generalize World.drewN w2 nq2 = w3 at *
    go_wp2_with fail
    (with_reducible refine (HT.out _ _ k3).mono ?_)
    rintro e w9 ⟨rfl, ht⟩
    have kb3 := ht.below kb2 kb2.size hz1
    clear ht kb2 k3 HL HT
    by_cases hn : nb = 0
    · rw [if_pos hn] at he
      subst hn he
      have g1 : (((0 : Nat) : Int) != 0) = false := rfl
      go_wp2
      go_ret
      exact ⟨rfl, kb3⟩
    · rw [if_neg hn] at he
      subst he
      have g1 : ((nb : Int) != 0) = true := by simp; omega
      have g2 : ((nb : Int) == 0) = false := by simp; omega
      clear hn
      go_wp2
      go_ret
      exact ⟨rfl, kb3⟩
end Go.Proofs.Ytpjfafefgmjmfaa
