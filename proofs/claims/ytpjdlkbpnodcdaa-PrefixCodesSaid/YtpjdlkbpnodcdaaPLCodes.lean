/-
  For all lengths: the words are the document's, or its error, and so is the sum. Longer lists than the bound are answered by the case shown alone. No condition.
-/
import Derived.Test.YtpjdlkbpnodcdaaRows
import Derived.Test.YtpjdlkbpnodcdaaPRCo
import Derived.ShutString
import Derived.ChangeOld
namespace Go.Proofs.Ytpjdlkbpnodcdaa.prefixCodes
open Go.ChangeShapes Go.WideShapes Go.ChangeAt Go.RowKit
open Go.ChangeMaps (open_string shut_string)
set_option linter.unusedVariables false

set_option maxHeartbeats 4000000 in
set_option maxRecDepth 100000 in
theorem walk (l : List Int) (p : Option Addr) (cap : Nat) (hu : (∀ q ∈ l, (Lit.int .i64 q).wf = true) ∧ (Value.slice p l.length cap = .slice none 0 0 ∨ ∃ ad n c, Value.slice p l.length cap = .slice (some ad) n c)) (w : World) (hS : Sl w 1 (.slice p l.length cap) (rowsI l)) :
    Calls Try.prog 4 #[.slice p l.length cap] w fun e w' => e = .returned (.bool true) ∧ Below w.heap.size w w' := by
  have hSh := fun w => l7_shown w
  have HSh := Lib.hid hSh
  have HS := Lib.hid hS
  clear hSh hS hu
  by_cases h1 : 310 < l.length
  · have g1 : (310 : Int) < (l.length : Int) := by omega
    go_enter Try.func4, Try.ntmps4
    go_wp2_with (go_at_call 10; (with_reducible refine (HSh.out _).mono ?_); rintro e w1 ⟨rfl, hb1⟩)
    go_ret
    exact ⟨rfl, hb1⟩
  have g1 : ¬ (310 : Int) < (l.length : Int) := by omega
  have hKr : ∀ w', Below w.heap.size w w' → ∀ n, ((kraftW (clL l) : Nat) : Int) = n → Calls Try.prog 16 #[.slice p l.length cap] w' fun e w'' => e = .returned (.int .i64 n) ∧ Below w'.heap.size w' w'' := fun w' h n hn => by rw [← hn]; exact p_Kraft l p cap w' (by omega) (HS.out.below h)
  have hRK : ∀ w', Below w.heap.size w w' → ∀ n, ((kraftW (clL l) : Nat) : Int) = n → Calls Try.prog 17 #[.slice p l.length cap] w' fun e w'' => e = .returned (.int .i64 n) ∧ w' = w'' := fun w' h n hn => by rw [← hn]; exact r_Kraft l p cap w' (by omega) (HS.out.below h)
  obtain ⟨K, hK⟩ : ∃ K : Int, ((kraftW (clL l) : Nat) : Int) = K := ⟨_, rfl⟩
  have HKr := Lib.hid (fun w' h => hKr w' h K hK)
  have HRK := Lib.hid (fun w' h => hRK w' h K hK)
  clear hKr hRK hK
  by_cases hR : RightI l
  case neg =>
    have HC := Lib.hid (fun w' (h : Below w.heap.size w w') => p_Codes_no l p cap w' (by omega) (HS.out.below h) hR)
    have HD := Lib.hid (fun w' (h : Below w.heap.size w w') => r_Codes_no l p cap w' (by omega) (HS.out.below h) hR)
    clear hR h1
    go_enter Try.func4, Try.ntmps4
    go_wp2_with (go_at_call 10; (with_reducible refine (HSh.out _).mono ?_); rintro e w1 ⟨rfl, hb1⟩)
    (with_reducible refine (HC.out _ hb1).mono ?_)
    rintro e w2 ⟨rfl, hb2⟩
    have hb3 := hb1.trans (hb2.mono hb1.size)
    clear hb1 hb2
    go_wp2_with fail
    (with_reducible refine (HD.out _ hb3).mono ?_)
    rintro e w3 ⟨rfl, rfl⟩
    go_wp2_with fail
    (with_reducible refine (HKr.out _ hb3).mono ?_)
    rintro e w4 ⟨rfl, hb4⟩
    have hb5 := hb3.trans (hb4.mono hb3.size)
    clear hb3 hb4
    go_wp2_with fail
    (with_reducible refine (HRK.out _ hb5).mono ?_)
    rintro e w5 ⟨rfl, rfl⟩
    have HB5 := Lib.hid hb5
    clear hb5
    go_wp2
    go_loop [7] (fun i => i = .int .i64 0) (fun _ => 0)
    case atStart => rfl
    case round =>
      subst hrel
      go_wp2
      go_ret
      exact ⟨rfl, HB5.out⟩
  case pos =>
  obtain ⟨L, hL, hN⟩ := hR.nat
  have hLl : L.length = l.length := by rw [hL, nn_length]
  have hSN : ∀ w', Below w.heap.size w w' → Sl w' 1 (.slice p L.length cap) (rowsN L) := fun w' h => by
    have := HS.out.below h
    rw [hL, rowsI_nn, nn_length] at this
    exact this
  have hC := fun w' (h : Below w.heap.size w w') => p_Codes_yes L p cap w' hN (hSN w' h)
  have hD := fun w' (h : Below w.heap.size w w') => r_Codes_yes L p cap w' hN (hSN w' h)
  unfold PcRet at hC
  unfold RcRet at hD
  rw [hLl] at hC hD
  have HC := Lib.hid hC
  have HD := Lib.hid hD
  have HLL := Lib.hid hLl
  clear hC hD hSN hN hL hR hLl h1
  go_enter Try.func4, Try.ntmps4
  go_wp2_with (go_at_call 10; (with_reducible refine (HSh.out _).mono ?_); rintro e w1 ⟨rfl, hb1⟩)
  (with_reducible refine (HC.out _ hb1).mono ?_)
  rintro e w2 ⟨g, rfl, hg, hsz, hb2⟩
  have hb3 := hb1.trans (hb2.mono hb1.size)
  have hSP := sl_pcW l.length hg
  rw [HLL.out] at hSP
  have HSP := Lib.hid hSP
  clear hb1 hb2 hg hsz hSP HC
  go_wp2_with fail
  (with_reducible refine (HD.out _ hb3).mono ?_)
  rintro e w3 ⟨g', cap', rfl, hSQ, hb4⟩
  have hb5 := hb3.trans (hb4.mono hb3.size)
  have HSP3 := Lib.hid (HSP.out.below hb4)
  have HSQ := Lib.hid hSQ
  clear hb3 hb4 hSQ HSP HD
  go_wp2_with fail
  (with_reducible refine (HKr.out _ hb5).mono ?_)
  rintro e w4 ⟨rfl, hb6⟩
  have hb7 := hb5.trans (hb6.mono hb5.size)
  have HSP4 := Lib.hid (HSP3.out.below hb6)
  have HSQ4 := Lib.hid (HSQ.out.below hb6)
  clear hb5 hb6 HSP3 HSQ
  go_wp2_with fail
  (with_reducible refine (HRK.out _ hb7).mono ?_)
  rintro e w5 ⟨rfl, rfl⟩
  have HB7 := Lib.hid hb7
  clear hb7
  go_wp2
  go_loopw [7] (fun i wr => ∃ j : Nat, j ≤ l.length ∧ i = .int .i64 (j : Int) ∧ Sl wr 2 (.slice (some ⟨g, 0, none⟩) l.length l.length) (rowsP (pcW L)) ∧ Sl wr 2 (.slice (some ⟨g', 0, none⟩) l.length cap') (rowsP (pcW L)) ∧ Below w.heap.size w wr) (fun i _ => l.length - (intOf i).toNat)
  case atStart => exact ⟨0, by omega, rfl, HSP4.out, HSQ4.out, HB7.out⟩
  case round =>
    obtain ⟨j, hj, rfl, gP, gQ, gb⟩ := hrel
    clear HSP4 HSQ4 HB7
    by_cases hlt : j < l.length
    · have d1 : (j : Int) < (l.length : Int) := by omega
      obtain ⟨cN, hcN⟩ : ∃ cN, codeW L j = cN := ⟨_, rfl⟩
      obtain ⟨cW, hcW⟩ : ∃ cW : Int, ((L.getD j 0 : Nat) : Int) = cW := ⟨_, rfl⟩
      have hr1 : ∀ wx, (∃ m, wx = wr.drewN m) → wx.rangeAt g (j * 2) [.int .u32 (cN : Int), .int .i64 cW] := fun wx hx jj v hv => by
        obtain ⟨m, rfl⟩ := hx
        have := pcW_cells (gP.below (below_drewN (Below.refl _ _) m)) (show j < L.length by rw [HLL.out]; exact hlt)
        rw [hcN, hcW] at this
        match jj, hv with
        | 0, hv => cases hv; exact this.1
        | 1, hv => cases hv; exact this.2
      have hr2 : ∀ wx, (∃ m, wx = wr.drewN m) → wx.rangeAt g' (j * 2) [.int .u32 (cN : Int), .int .i64 cW] := fun wx hx jj v hv => by
        obtain ⟨m, rfl⟩ := hx
        have := pcW_cells (gQ.below (below_drewN (Below.refl _ _) m)) (show j < L.length by rw [HLL.out]; exact hlt)
        rw [hcN, hcW] at this
        match jj, hv with
        | 0, hv => cases hv; exact this.1
        | 1, hv => cases hv; exact this.2
      have HR1 := Lib.hid hr1
      have HR2 := Lib.hid hr2
      have GP := Lib.hid gP
      have GQ := Lib.hid gQ
      have GB := Lib.hid gb
      clear hr1 hr2 gP gQ gb hcN hcW
      go_wp2_with fail
      refine region_drew_tail 8 mixed (by kernel_rfl) ?_
      simp only [List.take_succ_cons, List.take_zero, List.drop_succ_cons, List.drop_zero]
      repeat (first | (refine wpQuiet_load_row rfl 39 _ rfl g (j * 2) rfl [.int .u32 (cN : Int), .int .i64 cW] HR1.out Try.underlying39 rfl (by rw [size_piece]; rfl) ?_) | (refine wpQuiet_load_row rfl 38 _ rfl g' (j * 2) rfl [.int .u32 (cN : Int), .int .i64 cW] HR2.out Try.underlying38 rfl (by rw [size_rp]; rfl) ?_) | (refine wpQuiet_step (fun K' hK' => ?_); go_simp; first | (refine hK' _ ?_; clear hK' K') | (refine ⟨_, fun _ _ => rfl, hK' _ ?_⟩; clear hK' K')))
      refine wpQuiet_nil ?_
      rintro w7 ⟨m, rfl⟩
      go_wp2
      go_roundw
      case rel => exact ⟨j + 1, by omega, by go_num, GP.out.below (below_drewN (Below.refl _ _) _), GQ.out.below (below_drewN (Below.refl _ _) _), below_drewN GB.out _⟩
      case measure => simp [intOf]; omega
    · obtain rfl : j = l.length := by omega
      have GB := Lib.hid gb
      clear gP gQ gb hlt
      go_wp2
      go_ret
      exact ⟨rfl, GB.out⟩

set_option maxRecDepth 100000 in
theorem lifted (os : Os) (started : os.Started) (H : Type) (enc : TypeId × Value → H) :
    ReturnsInHanded {} Try.checked os 4 .any (Rows.prefixCodesSpec.pre6 enc Try.prog Try.f4 Rows.prefixCodesRow.domain false) (Rows.prefixCodesSpec.post enc Try.prog Try.f4 false true false false) := by
  refine returnsInHanded_of_change (C := Try.checked) own started (by kernel_rfl) Try.func4
    (ChangeSpec.witness6 (enc := enc) (C := Try.checked) false ⟨#[], #[.slice none 0 0], []⟩ 8 (by kernel_rfl) (by kernel_rfl) (by kernel_rfl) (by kernel_rfl)) ?_
  intro W base args ds gs before hval0 hW hcnd _
  have hval : ∀ (j : Nat) t v, Try.f4.params[j]? = some t → args[j]? = some v → Value.okWide Try.prog W .any base t v := hval0
  have hW' := hW
  obtain ⟨p, q, hA0, hV, rfl, hfz, hnd⟩ := hW
  have hA : DataW.TrodAll enc Try.prog W 0 (fun _ => true) true Try.f4.params.toList args.toList ds p := hA0
  rw [Try.params4] at hA hval
  obtain ⟨v0, vs0, d0, ds0, p0, q0, hargs, rfl, rfl, h0, r0⟩ := trodAll_cons hA
  obtain ⟨rfl, rfl, rfl⟩ := trodAll_nil r0
  obtain rfl : args = #[v0] := by cases args; simp_all
  obtain ⟨rfl, rfl⟩ := trodVars_none hV
  have k0 := h0
  have lt0 : ∀ x ∈ p0, x.block < W.heap.size := by obtain ⟨m, hm⟩ := k0; exact DataW.trod_lt m _ _ _ hm
  obtain ⟨a0, m0, c0, rfl⟩ := Go.WideShapes.okWide_slice Try.underlying22 (hval 0 22 v0 rfl rfl)
  obtain ⟨l0, rfl, S0, n0⟩ := open_ilist2 h0
  clear hA0 hval0
  simp only [List.append_nil] at hW'
  refine (walk l0 a0 c0 n0 W S0).mono fun e W' ⟨he, bel⟩ => ?_
  subst he
  exact ⟨_, rfl, _, _, _, [], _, [], hW', trodAll_mk1 (shut_bool Try.underlying4 _), (trodAll_cons_mk (Below.trod laidOut (by kernel_rfl) (of_decide_eq_true (by kernel_rfl)) k0 bel lt0) trodAll_mk0), rfl, bel.frame _, fun h => by cases h⟩

theorem over : Rows.prefixCodesRow.holds Try.pinned (OpenSpec.ofChange Rows.prefixCodesSpec) :=
  OpenClaim.holds_of_wide 4 Try.f4 rfl rfl rfl rfl rfl rfl rfl ⟨rfl, rfl, rfl, rfl, rfl⟩ rfl rfl rfl rfl rfl (by kernel_rfl) Try.func4 (by kernel_rfl)
    (of_decide_eq_true (by kernel_rfl)) (by unfold Func.isWrapper; first | (rw [if_pos (by decide +kernel)]; kernel_rfl) | (rw [if_neg (by decide +kernel)]; exact ⟨rfl, rfl⟩))
    (fun os started H enc _ => lifted os started H enc)

theorem proved : Rows.PrefixCodesSaid :=
  over
#print axioms proved
end Go.Proofs.Ytpjdlkbpnodcdaa.prefixCodes
