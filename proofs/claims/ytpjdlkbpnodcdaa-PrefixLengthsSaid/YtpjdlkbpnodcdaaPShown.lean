/- The case that each law of prefix asks, and rows of numbers held against each other. -/
import Derived.Test.YtpjdlkbpnodcdaaPLengs
namespace Go.Proofs.Ytpjdlkbpnodcdaa
open Go.RowKit
set_option linter.unusedVariables false

theorem l7_same (a b : List Int) (p q : Option Addr) (cp cq : Nat) (w : World) (ha : a.length ≤ 1000000) (hb : b.length ≤ 1000000) (hS : Sl w 1 (.slice p a.length cp) (rowsI a)) (hT : Sl w 1 (.slice q b.length cq) (rowsI b)) (r : Bool) (hr : (r = true ∧ a = b) ∨ (r = false ∧ a ≠ b)) :
    Calls Try.prog 13 #[.slice p a.length cp, .slice q b.length cq] w fun e w' => e = .returned (.bool r) ∧ Below w.heap.size w w' := by
  have HS := Lib.hid hS
  have HT := Lib.hid hT
  have HR := Lib.hid hr
  clear hS hT hr
  by_cases hlen : a.length = b.length
  · rw [← hlen] at HT ⊢
    have hl := Lib.hid hlen
    clear hb hlen
    go_enter Try.func13, Try.ntmps13
    go_wp2
    go_loopw [5] (fun i wr => ∃ j : Nat, j ≤ a.length ∧ i = .int .i64 (j : Int) ∧ (∀ k, k < j → a.getD k 0 = b.getD k 0) ∧ Below w.heap.size w wr) (fun i _ => a.length - (intOf i).toNat)
    case atStart => exact ⟨0, by omega, rfl, (fun k h => by omega), Below.refl _ _⟩
    case round =>
      obtain ⟨j, hj, rfl, gk, gb⟩ := hrel
      by_cases hlt : j < a.length
      · have d1 : (j : Int) < (a.length : Int) := by omega
        obtain ⟨ad, rfl, hc⟩ := SlI.cell (HS.out.below gb) hlt
        obtain ⟨bd, rfl, hd⟩ := SlI.cell (HT.out.below gb) (j := j) (by have := hl.out; omega)
        obtain ⟨x, hx⟩ : ∃ x, a.getD j 0 = x := ⟨_, rfl⟩
        obtain ⟨y, hy⟩ : ∃ y, b.getD j 0 = y := ⟨_, rfl⟩
        rw [hx] at hc
        rw [hy] at hd
        have GK := Lib.hid gk
        have GB := Lib.hid gb
        have HX := Lib.hid hx
        have HY := Lib.hid hy
        clear hx hy gk gb
        by_cases hxy : x = y
        · have e1 : (x != y) = false := by rw [hxy]; simp
          have hk : ∀ k, k < j + 1 → a.getD k 0 = b.getD k 0 := fun k h => by
            rcases Nat.lt_or_ge k j with h' | h'
            · exact GK.out k h'
            · obtain rfl : k = j := by omega
              rw [HX.out, HY.out, hxy]
          have HK := Lib.hid hk
          clear hk hxy
          go_wp2_with fail
          go_quiet (fail)
          go_wp2
          go_roundw
          case rel => exact ⟨j + 1, by omega, by go_num, HK.out, below_drewN GB.out _⟩
          case measure => (simp [intOf]; try omega)
        · have e1 : (x != y) = true := by rw [bne_iff_ne]; exact hxy
          have hrf : r = false := by
            rcases HR.out with ⟨_, h⟩ | ⟨h, _⟩
            · exact absurd (by rw [← HX.out, ← HY.out, h]) hxy
            · exact h
          subst hrf
          clear hxy
          go_wp2_with fail
          go_quiet (fail)
          go_wp2
          go_ret
          exact ⟨rfl, below_drewN GB.out _⟩
      · have d1 : ¬ (j : Int) < (a.length : Int) := by omega
        have hrt : r = true := by
          rcases HR.out with ⟨h, _⟩ | ⟨_, h⟩
          · exact h
          · refine absurd ?_ h
            refine List.ext_getElem hl.out fun i h1 h2 => ?_
            have := gk i (by omega)
            rw [List.getD_eq_getElem?_getD, List.getD_eq_getElem?_getD, List.getElem?_eq_getElem h1, List.getElem?_eq_getElem h2] at this
            exact this
        subst hrt
        clear gk
        go_wp2
        go_ret
        exact ⟨rfl, gb⟩
  · have e1 : ((a.length : Int) != (b.length : Int)) = true := by rw [bne_iff_ne]; omega
    have hrf : r = false := by
      rcases HR.out with ⟨_, h⟩ | ⟨h, _⟩
      · exact absurd (by rw [h]) hlen
      · exact h
    subst hrf
    clear hlen
    go_enter Try.func13, Try.ntmps13
    go_wp2
    go_ret
    exact ⟨rfl, Below.refl _ _⟩
theorem lens_shown : lensF 15 20 [1, 1, 2] = [2, 2, 1] := by decide +kernel
set_option maxRecDepth 100000 in
set_option maxHeartbeats 1000000 in
theorem l7_shown (w : World) :
    Calls Try.prog 10 #[] w fun e w' => e = .returned (.bool true) ∧ Below w.heap.size w w' := by
  have kb := Blk.new' w 3 (c := #[.int .i64 1, .int .i64 1, .int .i64 2]) (ints .i64 (nn [1, 1, 2])) rfl
  have hb1 := (Below.refl w.heap.size w).alloc (Nat.le_refl _) (.cells #[.int .i64 1, .int .i64 1, .int .i64 2] 3)
  have hP := p_Lengths_yes [1, 1, 2] 15 _ _ (by decide) (by decide) ⟨by decide, fun x hx => by simp [nn] at hx; rcases hx with rfl | rfl <;> (unfold Comes; decide), by decide⟩ (kb.slN 3) (.inr ⟨_, _, _, rfl⟩)
  rw [lens_shown] at hP
  have HP := Lib.hid hP
  have HB := Lib.hid hb1
  clear hP kb hb1
  go_enter Try.func10, Try.ntmps10
  go_wp2_with fail
  refine HP.out.mono ?_
  rintro e w3 ⟨g, rfl, hg, hsz, hb3⟩
  have hb4 := HB.out.trans (hb3.mono HB.out.size)
  have hb5 := hb4.alloc hb4.size (.cells #[.int .i64 2, .int .i64 2, .int .i64 1] 3)
  have kg := (hg.alloc (.cells #[.int .i64 2, .int .i64 2, .int .i64 1] 3)).slN 3
  have kn := (Blk.new' w3 3 (c := #[.int .i64 2, .int .i64 2, .int .i64 1]) (ints .i64 (nn [2, 2, 1])) rfl).slN 3
  rw [← rowsI_nn] at kg kn
  have hQ := l7_same (nn [2, 2, 1]) (nn [2, 2, 1]) _ _ 3 3 _ (by decide) (by decide) kg kn true (.inl ⟨rfl, rfl⟩)
  have HQ := Lib.hid hQ
  have HB5 := Lib.hid hb5
  clear hb3 hb4 hb5 hg kg kn hQ HP HB
  go_wp2_with fail
  refine HQ.out.mono ?_
  rintro e w4 ⟨rfl, hb6⟩
  have hb7 := HB5.out.trans (hb6.mono HB5.out.size)
  go_wp2
  go_ret
  exact ⟨rfl, hb7⟩
end Go.Proofs.Ytpjdlkbpnodcdaa
