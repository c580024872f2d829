/- Walks of slices.Equal over hashes, texts and numbers. -/
import Derived.Test.YtogonbgelaehhaaHG
namespace Go.Proofs.Ytogonbgelaehhaa
open Go.RowKit
set_option linter.unusedVariables false

set_option maxRecDepth 100000 in
set_option maxHeartbeats 2000000 in
theorem eq_H (x y : List (List Nat)) (p q : Option Addr) (c d : Nat) (b : Bool) (w : World) (hb : decide (x = y) = b) (hA : HashL x) (hC : HashL y) (hl : x.length ≤ 1000000) (hP : Sl w 32 (.slice p x.length c) (rowsH x)) (hQ : Sl w 32 (.slice q y.length d) (rowsH y)) :
    Calls Try.prog 40 #[.slice p x.length c, .slice q y.length d] w fun e w' => e = .returned (.bool b) ∧ Below w.heap.size w w' := by
  have HP := Lib.hid hP
  have HQ := Lib.hid hQ
  have HB := Lib.hid hb
  have HA := Lib.hid hA
  have HC := Lib.hid hC
  clear hA hC
  clear hP hQ hb
  by_cases q1 : x.length = y.length
  · have L1 := Lib.hid q1
    rw [← q1] at HQ ⊢
    have g0 : ((x.length : Int) != (x.length : Int)) = false := by simp
    clear q1
    go_enter Try.func40, Try.ntmps40
    go_wp2
    go_loopw [13] (fun i wr => ∃ j : Nat, j ≤ x.length ∧ i = .int .i64 (j : Int) ∧ (∀ k, k < j → x.getD k [] = y.getD k []) ∧ Below w.heap.size w wr) (fun i _ => x.length - (intOf i).toNat)
    case atStart => exact ⟨0, by omega, rfl, (fun k h => by omega), Below.refl _ _⟩
    case round =>
      obtain ⟨j, hj, rfl, hf, gb⟩ := hrel
      have HF := Lib.hid hf
      have GB := Lib.hid gb
      clear hf gb
      by_cases hlt : j < x.length
      · have hltb : j < y.length := by rw [← L1.out]; exact hlt
        have dj : (j : Int) < (x.length : Int) := by omega
        obtain ⟨a1, rfl, _⟩ := (HP.out.below GB.out).row (rowsH_at hlt)
        obtain ⟨a2, rfl, _⟩ := (HQ.out.below GB.out).row (rowsH_at hltb)
        have R0 : Hid (∀ wx, (∃ m, wx = wr.drewN m) → ∀ i v, (rowH (x.getD j []))[i]? = some v → wx.cell? ((a1.add (j * 32)).add i) = some v) := Lib.hid fun wx hx => by
          obtain ⟨k, rfl⟩ := hx
          obtain ⟨a', e, hc⟩ := (HP.out.below (below_drewN GB.out k)).row (rowsH_at hlt)
          cases e
          exact hc
        have R1 : Hid (∀ wx, (∃ m, wx = wr.drewN m) → ∀ i v, (rowH (y.getD j []))[i]? = some v → wx.cell? ((a2.add (j * 32)).add i) = some v) := Lib.hid fun wx hx => by
          obtain ⟨k, rfl⟩ := hx
          obtain ⟨a', e, hc⟩ := (HQ.out.below (below_drewN GB.out k)).row (rowsH_at hltb)
          cases e
          exact hc
        have hx1 := (HA.out _ (getN_mem hlt)).1
        have hx2 := (HC.out _ (getN_mem hltb)).1
        obtain ⟨eq, heq⟩ : ∃ eq : Bool, (nn (x.getD j []) == nn (y.getD j [])) = !eq := ⟨!(nn (x.getD j []) == nn (y.getD j [])), by simp⟩
        have hne := neq_hash (x.getD j []) (y.getD j []) hx1 hx2 eq heq
        have hl0 : (rowH (x.getD j [])).length = 32 := rowH_len hx1
        have hl1 : (rowH (y.getD j [])).length = 32 := rowH_len hx2
        have HEQ : Hid (eq = false ↔ x.getD j [] = y.getD j []) := Lib.hid (by
          cases eq with
          | false => exact ⟨fun _ => nn_inj (by simpa using heq), fun _ => rfl⟩
          | true => exact ⟨fun h => (by cases h), fun h => by rw [h] at heq; simp at heq⟩)
        have hne2 : ∀ w, (binOp .neq 64 (.agg (rowH (x.getD j [])).toArray) (.agg (rowH (y.getD j [])).toArray)).run Try.prog w = .ok (.bool eq) w := hne
        generalize rowH (x.getD j []) = X at *
        generalize rowH (y.getD j []) = Y at *
        clear hne heq hx1 hx2
        go_wp2_with fail
        refine region_drew_tail 8 mixed (by kernel_rfl) ?_
        simp only [List.take_succ_cons, List.take_zero, List.drop_succ_cons, List.drop_zero]
        repeat (first | (refine wpQuiet_load_addr rfl 64 _ rfl (a1.add (j * 32)) rfl X R0.out Try.underlying64 rfl (by rw [size_hashV, hl0]) ?_) | (refine wpQuiet_load_addr rfl 64 _ rfl (a2.add (j * 32)) rfl Y R1.out Try.underlying64 rfl (by rw [size_hashV, hl1]) ?_) | go_big_quiet_step (fail) | (refine wpQuiet_step (fun K' hK' => ?_); go_simp; first | (refine hK' _ ?_; clear hK' K') | (refine ⟨_, fun _ _ => rfl, hK' _ ?_⟩; clear hK' K')))
        refine wpQuiet_nil ?_
        rintro w7 ⟨k7, rfl⟩
        have D7 := Lib.hid (below_drewN GB.out k7)
        cases eq with
        | false =>
          have HQ1 := Lib.hid (HEQ.out.1 rfl)
          go_wp2
          go_roundw
          case rel => exact ⟨j + 1, by omega, by go_num, (fun k hk => by
            rcases Nat.lt_or_ge k j with h | h
            · exact HF.out k h
            · obtain rfl : k = j := by omega
              exact HQ1.out), D7.out⟩
          case measure => (simp [intOf]; try omega)
        | true =>
          have HN : Hid (false = b) := Lib.hid (by
            rw [← HB.out]
            symm
            rw [decide_eq_false_iff_not]
            intro h
            have h2 := HEQ.out.2 (by rw [h])
            cases h2)
          go_wp2
          go_ret
          exact ⟨congrArg (fun x => Ending.returned (.bool x)) HN.out, D7.out⟩
      · obtain rfl : j = x.length := by omega
        have HN : Hid (true = b) := Lib.hid (by
          rw [← HB.out]
          symm
          rw [decide_eq_true_eq]
          exact listN_ext L1.out HF.out)
        go_wp2
        go_ret
        exact ⟨congrArg (fun x => Ending.returned (.bool x)) HN.out, GB.out⟩
  · have g0 : ((x.length : Int) != (y.length : Int)) = true := by rw [bne_iff_ne]; omega
    have HN : Hid (false = b) := Lib.hid (by
      rw [← HB.out]
      symm
      rw [decide_eq_false_iff_not]
      intro h
      exact q1 (by rw [h]))
    clear q1
    go_enter Try.func40, Try.ntmps40
    go_wp2
    go_ret
    exact ⟨congrArg (fun x => Ending.returned (.bool x)) HN.out, Below.refl _ _⟩
set_option maxRecDepth 100000 in
set_option maxHeartbeats 2000000 in
theorem eq_S (x y : List (List Nat)) (p q : Option Addr) (c d : Nat) (b : Bool) (w : World) (hb : decide (x = y) = b) (hA : ∀ t ∈ x, Bys t) (hC : ∀ t ∈ y, Bys t) (hl : x.length ≤ 1000000) (hP : Sl w 1 (.slice p x.length c) (rowsS x)) (hQ : Sl w 1 (.slice q y.length d) (rowsS y)) :
    Calls Try.prog 41 #[.slice p x.length c, .slice q y.length d] w fun e w' => e = .returned (.bool b) ∧ Below w.heap.size w w' := by
  have HP := Lib.hid hP
  have HQ := Lib.hid hQ
  have HB := Lib.hid hb
  have HA := Lib.hid hA
  have HC := Lib.hid hC
  clear hA hC
  clear hP hQ hb
  by_cases q1 : x.length = y.length
  · have L1 := Lib.hid q1
    rw [← q1] at HQ ⊢
    have g0 : ((x.length : Int) != (x.length : Int)) = false := by simp
    clear q1
    go_enter Try.func41, Try.ntmps41
    go_wp2
    go_loopw [13] (fun i wr => ∃ j : Nat, j ≤ x.length ∧ i = .int .i64 (j : Int) ∧ (∀ k, k < j → x.getD k [] = y.getD k []) ∧ Below w.heap.size w wr) (fun i _ => x.length - (intOf i).toNat)
    case atStart => exact ⟨0, by omega, rfl, (fun k h => by omega), Below.refl _ _⟩
    case round =>
      obtain ⟨j, hj, rfl, hf, gb⟩ := hrel
      have HF := Lib.hid hf
      have GB := Lib.hid gb
      clear hf gb
      by_cases hlt : j < x.length
      · have hltb : j < y.length := by rw [← L1.out]; exact hlt
        have dj : (j : Int) < (x.length : Int) := by omega
        obtain ⟨a1, rfl, _⟩ := SlS.cell (HP.out.below GB.out) hlt
        obtain ⟨a2, rfl, _⟩ := SlS.cell (HQ.out.below GB.out) hltb
        have R0 : Hid (∀ wx, (∃ m, wx = wr.drewN m) → wx.cell? (a1.add j) = some (.string (tx (x.getD j [])))) := Lib.hid fun wx hx => by
          obtain ⟨k, rfl⟩ := hx
          obtain ⟨a', e, hc⟩ := SlS.cell (HP.out.below (below_drewN GB.out k)) hlt
          cases e
          exact hc
        have R1 : Hid (∀ wx, (∃ m, wx = wr.drewN m) → wx.cell? (a2.add j) = some (.string (tx (y.getD j [])))) := Lib.hid fun wx hx => by
          obtain ⟨k, rfl⟩ := hx
          obtain ⟨a', e, hc⟩ := SlS.cell (HQ.out.below (below_drewN GB.out k)) hltb
          cases e
          exact hc
        have hy1 := HA.out _ (getN_mem hlt)
        have hy2 := HC.out _ (getN_mem hltb)
        obtain ⟨eq, heq⟩ : ∃ eq : Bool, ((tx (x.getD j [])).toList == (tx (y.getD j [])).toList) = eq := ⟨_, rfl⟩
        have HEQ : Hid (eq = true ↔ x.getD j [] = y.getD j []) := Lib.hid (by
          by_cases h : x.getD j [] = y.getD j []
          · rw [h, txt_same] at heq
            exact ⟨fun _ => h, fun _ => heq.symm⟩
          · rw [txt_ne (fun e => h (by rw [← sl_tx hy1, ← sl_tx hy2, e]))] at heq
            exact ⟨fun e => (by rw [← heq] at e; cases e), fun e => absurd e h⟩)
        generalize tx (x.getD j []) = X at *
        generalize tx (y.getD j []) = Y at *
        clear hy1 hy2
        go_wp2_with fail
        refine region_drew_tail 8 mixed (by kernel_rfl) ?_
        simp only [List.take_succ_cons, List.take_zero, List.drop_succ_cons, List.drop_zero]
        repeat (first | (refine wpQuiet_load_one rfl 9 _ rfl (a1.add j) rfl _ R0.out Try.underlying9 rfl ?_) | (refine wpQuiet_load_one rfl 9 _ rfl (a2.add j) rfl _ R1.out Try.underlying9 rfl ?_) | go_big_quiet_step (fail) | (refine wpQuiet_step (fun K' hK' => ?_); go_simp; first | (refine hK' _ ?_; clear hK' K') | (refine ⟨_, fun _ _ => rfl, hK' _ ?_⟩; clear hK' K')))
        refine wpQuiet_nil ?_
        rintro w7 ⟨k7, rfl⟩
        have D7 := Lib.hid (below_drewN GB.out k7)
        cases eq with
        | true =>
          have HQ1 := Lib.hid (HEQ.out.1 rfl)
          go_wp2
          go_roundw
          case rel => exact ⟨j + 1, by omega, by go_num, (fun k hk => by
            rcases Nat.lt_or_ge k j with h | h
            · exact HF.out k h
            · obtain rfl : k = j := by omega
              exact HQ1.out), D7.out⟩
          case measure => (simp [intOf]; try omega)
        | false =>
          have HN : Hid (false = b) := Lib.hid (by
            rw [← HB.out]
            symm
            rw [decide_eq_false_iff_not]
            intro h
            have h2 := HEQ.out.2 (by rw [h])
            cases h2)
          go_wp2
          go_ret
          exact ⟨congrArg (fun x => Ending.returned (.bool x)) HN.out, D7.out⟩
      · obtain rfl : j = x.length := by omega
        have HN : Hid (true = b) := Lib.hid (by
          rw [← HB.out]
          symm
          rw [decide_eq_true_eq]
          exact listN_ext L1.out HF.out)
        go_wp2
        go_ret
        exact ⟨congrArg (fun x => Ending.returned (.bool x)) HN.out, GB.out⟩
  · have g0 : ((x.length : Int) != (y.length : Int)) = true := by rw [bne_iff_ne]; omega
    have HN : Hid (false = b) := Lib.hid (by
      rw [← HB.out]
      symm
      rw [decide_eq_false_iff_not]
      intro h
      exact q1 (by rw [h]))
    clear q1
    go_enter Try.func41, Try.ntmps41
    go_wp2
    go_ret
    exact ⟨congrArg (fun x => Ending.returned (.bool x)) HN.out, Below.refl _ _⟩
set_option maxRecDepth 100000 in
set_option maxHeartbeats 2000000 in
theorem eq_Z (x y : List Int) (p q : Option Addr) (c d : Nat) (b : Bool) (w : World) (hb : decide (x = y) = b) (hl : x.length ≤ 1000000) (hP : Sl w 1 (.slice p x.length c) (rowsZF x)) (hQ : Sl w 1 (.slice q y.length d) (rowsZF y)) :
    Calls Try.prog 42 #[.slice p x.length c, .slice q y.length d] w fun e w' => e = .returned (.bool b) ∧ Below w.heap.size w w' := by
  have HP := Lib.hid hP
  have HQ := Lib.hid hQ
  have HB := Lib.hid hb
  clear hP hQ hb
  by_cases q1 : x.length = y.length
  · have L1 := Lib.hid q1
    rw [← q1] at HQ ⊢
    have g0 : ((x.length : Int) != (x.length : Int)) = false := by simp
    clear q1
    go_enter Try.func42, Try.ntmps42
    go_wp2
    go_loopw [13] (fun i wr => ∃ j : Nat, j ≤ x.length ∧ i = .int .i64 (j : Int) ∧ (∀ k, k < j → x.getD k 0 = y.getD k 0) ∧ Below w.heap.size w wr) (fun i _ => x.length - (intOf i).toNat)
    case atStart => exact ⟨0, by omega, rfl, (fun k h => by omega), Below.refl _ _⟩
    case round =>
      obtain ⟨j, hj, rfl, hf, gb⟩ := hrel
      have HF := Lib.hid hf
      have GB := Lib.hid gb
      clear hf gb
      by_cases hlt : j < x.length
      · have hltb : j < y.length := by rw [← L1.out]; exact hlt
        have dj : (j : Int) < (x.length : Int) := by omega
        obtain ⟨a1, rfl, _⟩ := SlZF.cell (HP.out.below GB.out) hlt
        obtain ⟨a2, rfl, _⟩ := SlZF.cell (l := y) (j := j) (HQ.out.below GB.out) hltb
        have R0 : Hid (∀ wx, (∃ m, wx = wr.drewN m) → wx.cell? (a1.add j) = some (.int .i64 (x.getD j 0))) := Lib.hid fun wx hx => by
          obtain ⟨k, rfl⟩ := hx
          obtain ⟨a', e, hc⟩ := SlZF.cell (HP.out.below (below_drewN GB.out k)) hlt
          cases e
          exact hc
        have R1 : Hid (∀ wx, (∃ m, wx = wr.drewN m) → wx.cell? (a2.add j) = some (.int .i64 (y.getD j 0))) := Lib.hid fun wx hx => by
          obtain ⟨k, rfl⟩ := hx
          obtain ⟨a', e, hc⟩ := SlZF.cell (HQ.out.below (below_drewN GB.out k)) hltb
          cases e
          exact hc
        obtain ⟨eq, heq⟩ : ∃ eq : Bool, ((x.getD j 0) != (y.getD j 0)) = eq := ⟨_, rfl⟩
        have HEQ : Hid (eq = false ↔ x.getD j 0 = y.getD j 0) := Lib.hid (by rw [← heq]; simp)
        obtain ⟨X, hX⟩ : ∃ X, x.getD j 0 = X := ⟨_, rfl⟩
        obtain ⟨Y, hY⟩ : ∃ Y, y.getD j 0 = Y := ⟨_, rfl⟩
        rw [hX] at R0 heq
        rw [hY] at R1 heq
        clear hX hY
        go_wp2_with fail
        refine region_drew_tail 8 mixed (by kernel_rfl) ?_
        simp only [List.take_succ_cons, List.take_zero, List.drop_succ_cons, List.drop_zero]
        repeat (first | (refine wpQuiet_load_one rfl 3 _ rfl (a1.add j) rfl _ R0.out Try.underlying3 rfl ?_) | (refine wpQuiet_load_one rfl 3 _ rfl (a2.add j) rfl _ R1.out Try.underlying3 rfl ?_) | go_big_quiet_step (fail) | (refine wpQuiet_step (fun K' hK' => ?_); go_simp; first | (refine hK' _ ?_; clear hK' K') | (refine ⟨_, fun _ _ => rfl, hK' _ ?_⟩; clear hK' K')))
        refine wpQuiet_nil ?_
        rintro w7 ⟨k7, rfl⟩
        have D7 := Lib.hid (below_drewN GB.out k7)
        cases eq with
        | false =>
          have HQ1 := Lib.hid (HEQ.out.1 rfl)
          go_wp2
          go_roundw
          case rel => exact ⟨j + 1, by omega, by go_num, (fun k hk => by
            rcases Nat.lt_or_ge k j with h | h
            · exact HF.out k h
            · obtain rfl : k = j := by omega
              exact HQ1.out), D7.out⟩
          case measure => (simp [intOf]; try omega)
        | true =>
          have HN : Hid (false = b) := Lib.hid (by
            rw [← HB.out]
            symm
            rw [decide_eq_false_iff_not]
            intro h
            have h2 := HEQ.out.2 (by rw [h])
            cases h2)
          go_wp2
          go_ret
          exact ⟨congrArg (fun x => Ending.returned (.bool x)) HN.out, D7.out⟩
      · obtain rfl : j = x.length := by omega
        have HN : Hid (true = b) := Lib.hid (by
          rw [← HB.out]
          symm
          rw [decide_eq_true_eq]
          exact listZ_ext L1.out HF.out)
        go_wp2
        go_ret
        exact ⟨congrArg (fun x => Ending.returned (.bool x)) HN.out, GB.out⟩
  · have g0 : ((x.length : Int) != (y.length : Int)) = true := by rw [bne_iff_ne]; omega
    have HN : Hid (false = b) := Lib.hid (by
      rw [← HB.out]
      symm
      rw [decide_eq_false_iff_not]
      intro h
      exact q1 (by rw [h]))
    clear q1
    go_enter Try.func42, Try.ntmps42
    go_wp2
    go_ret
    exact ⟨congrArg (fun x => Ending.returned (.bool x)) HN.out, Below.refl _ _⟩
end Go.Proofs.Ytogonbgelaehhaa
