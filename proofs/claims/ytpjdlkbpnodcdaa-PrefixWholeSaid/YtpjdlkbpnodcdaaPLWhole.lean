/-
  For all frequencies and bounds: the lengths make a whole code, of no more bits than may be; of one, one bit; what never comes has no word. Longer lists than the bound are answered by the case shown alone. No condition.
-/
import Derived.Test.YtpjdlkbpnodcdaaRows
import Derived.Test.YtpjdlkbpnodcdaaPFacts
import Derived.Test.YtpjdlkbpnodcdaaPOpen
import Derived.ShutString
import Derived.ChangeOld
namespace Go.Proofs.Ytpjdlkbpnodcdaa.prefixWhole
open Go.ChangeShapes Go.WideShapes Go.ChangeAt Go.RowKit
open Go.ChangeMaps (open_string shut_string)
set_option linter.unusedVariables false

theorem info_int' : (Try.prog.info? 3).map (fun i => (i.zero, i.size, i.bytes)) = some (some (.int .i64 0), 1, 8) := by kernel_rfl
theorem nil_or {w : World} {base : Nat} {e : TypeId} {k : Nat} {v : Value} {rows : List (List Value)} (h : OwnR w base e k v rows) : v = .slice none 0 0 ∨ ∃ ad n c, v = .slice (some ad) n c := by
  rcases h.2.2 with ⟨hv, _⟩ | ⟨g, cap, cur, hv, _⟩
  · exact .inl hv
  · exact .inr ⟨_, _, _, hv⟩
theorem used_step {l : List Nat} {j : Nat} (h : j < l.length) : usedI (nn (l.take (j + 1))) = usedI (nn (l.take j)) + if 0 < l.getD j 0 then 1 else 0 := by
  rw [take_snoc l j h]
  have : nn (l.take j ++ [l.getD j 0]) = nn (l.take j) ++ [((l.getD j 0 : Nat) : Int)] := by unfold nn; rw [List.map_append]; rfl
  rw [this, usedI_snoc]
  by_cases h0 : 0 < l.getD j 0
  · rw [if_pos h0, if_pos (by omega)]
  · rw [if_neg h0, if_neg (by omega)]
set_option maxHeartbeats 4000000 in
set_option maxRecDepth 100000 in
theorem walk (l : List Nat) (p : Option Addr) (cap : Nat) (x : Int) (hu : ∀ q ∈ l, q < 65536) (hx : (Lit.int .u8 x).wf = true) (w : World) (hS : Sl w 1 (.slice p l.length cap) (rowsU .u16 l)) :
    Calls Try.prog 6 #[.slice p l.length cap, .int .u8 x] w fun e w' => e = .returned (.bool true) ∧ Below w.heap.size w w' := by
  have hSh := fun w => l7_shown w
  have HSh := Lib.hid hSh
  have HS := Lib.hid hS
  clear hSh hS
  by_cases h1 : 300 < l.length
  · have g1 : (300 : Int) < (l.length : Int) := by omega
    go_enter Try.func6, Try.ntmps6
    go_wp2_with (go_at_call 10; (with_reducible refine (HSh.out _).mono ?_); rintro e w1 ⟨rfl, hb1⟩)
    go_ret
    exact ⟨rfl, hb1⟩
  have g1 : ¬ (300 : Int) < (l.length : Int) := by omega
  obtain ⟨k, hk⟩ : ∃ k : Nat, (k : Int) = 9 + x % 7 := ⟨(9 + x % 7).toNat, by omega⟩
  have hx2 := bounds_u8 hx
  have hk9 : 9 ≤ k := by omega
  have hk15 : k ≤ 15 := by omega
  have hl16 : ∀ i, l.getD i 0 < 65536 := fun i => by
    rcases Nat.lt_or_ge i l.length with h | h
    · exact hu _ (getD_mem _ _ h)
    · rw [List.getD_eq_getElem?_getD, List.getElem?_eq_none h]; decide
  have hM := trees_le (show l.length ≤ 300 by omega) hk9
  have hfa := lens_facts (fr := l) (show 1 ≤ k by omega) hk15 (by omega) hM (fun i => by have := hl16 i; omega)
  have hmc := mayC_of (show l.length ≤ 300 by omega) hM (fun i => by have := hl16 i; omega)
  have hP := fun v w hS hn => p_Lengths_yes l k v w (by omega) hk15 hmc hS hn
  obtain ⟨L, hL⟩ : ∃ L, lensF k 20 l = L := ⟨_, rfl⟩
  rw [hL] at hP hfa
  obtain ⟨f1, f2, f3, f4, f5, f6⟩ := hfa
  obtain ⟨i0, hi0, hz0, hz1, hz2⟩ := info_parts2 info_int'
  have hus := usedI_nn l
  have hG : ∀ i, (decide (L.getD i 0 = 0)) = (decide (l.getD i 0 = 0)) := fun i => by
    have := f3 i
    by_cases h : l.getD i 0 = 0
    · rw [decide_eq_true h, decide_eq_true (show L.getD i 0 = 0 by omega)]
    · rw [decide_eq_false h, decide_eq_false (show ¬ L.getD i 0 = 0 by omega)]
  have F4 := Lib.hid f4
  have F5 := Lib.hid f5
  have F6 := Lib.hid f6
  have F2 := Lib.hid f2
  have HG := Lib.hid hG
  have HP := Lib.hid hP
  have H16 := Lib.hid hl16
  have HUS := Lib.hid hus
  have F1 := Lib.hid f1
  have h300 : l.length ≤ 300 := by omega
  clear h1 hx hu hl16 hM hmc hP hL f1 f2 f3 f4 f5 f6 hus hG
  go_enter Try.func6, Try.ntmps6
  go_wp2_with (go_at_call 10; (with_reducible refine (HSh.out _).mono ?_); rintro e w1 ⟨rfl, hb1⟩; have k0 := Lib.hid (OwnR.empty w1 w.heap.size 3 1 hb1.size); have kb := Lib.hid (hb1.alloc hb1.size (.cells #[] 3)))
  go_loopw [5, 6, 7] (fun u n i wr => ∃ j : Nat, j ≤ l.length ∧ i = .int .i64 (j : Int) ∧ n = .int .i64 ((usedI (nn (l.take j)) : Nat) : Int) ∧ OwnR wr w.heap.size 3 1 u (rowsN (l.take j)) ∧ Below w.heap.size w wr) (fun _ _ i _ => l.length - (intOf i).toNat)
  case atStart => exact ⟨0, by omega, rfl, rfl, k0.out, kb.out⟩
  case round =>
    obtain ⟨j, hj, rfl, rfl, go, gb⟩ := hrel
    clear k0 kb
    by_cases hlt : j < l.length
    · have hS' := HS.out.below gb
      obtain ⟨a, rfl, hc⟩ := SlU.cell hS' hlt
      have d1 : (j : Int) < (l.length : Int) := by omega
      have hq16 := H16.out j
      have hst := used_step hlt
      have hul : usedI (nn (l.take j)) ≤ j := by have := usedI_le (nn (l.take j)); rw [nn_length, List.length_take] at this; omega
      have hsn : rowsN (l.take (j + 1)) = rowsN (l.take j) ++ [[.int .i64 ((l.getD j 0 : Nat) : Int)]] := by rw [take_snoc l j hlt, rowsN_snoc]
      have hrl : (rowsN (l.take j)).length = j := by rw [rowsN_len, List.length_take]; omega
      have HSN := Lib.hid hsn
      have HRL := Lib.hid hrl
      obtain ⟨q, hq⟩ : ∃ q, l.getD j 0 = q := ⟨_, rfl⟩
      obtain ⟨U, hU⟩ : ∃ U, usedI (nn (l.take j)) = U := ⟨_, rfl⟩
      rw [hq] at hc hq16 hst HSN
      rw [hU] at hst hul ⊢
      have HQ := Lib.hid hq
      clear hsn hrl hS' hq hU
      generalize rowsN (l.take j) = rows at *
      have hnb := Blk.new' wr 3 (c := #[.int .i64 (q : Int)]) [.int .i64 (q : Int)] rfl
      have hnews := sl_one hnb
      have hown := go.alloc (.cells #[.int .i64 (q : Int)] 3)
      have hlo := go.lt
      have hgb := gb.alloc gb.size (.cells #[.int .i64 (q : Int)] 3)
      have hbase : w.heap.size ≤ (wr.alloc (.cells #[.int .i64 (q : Int)] 3)).heap.size := hgb.size
      have hone : ∀ r ∈ [[Value.int .i64 (q : Int)]], ∀ u ∈ r, u.oneCell' = true := by simp [Value.oneCell']
      have hlen : rows.length + [[Value.int .i64 (q : Int)]].length ≤ maxLen := by rw [HRL.out, List.length_singleton]; unfold maxLen; omega
      have hby : (rows.length + [[Value.int .i64 (q : Int)]].length) * 8 ≤ 140737488355328 := by rw [HRL.out, List.length_singleton]; omega
      have HONE := Lib.hid hone
      have HLEN := Lib.hid hlen
      have HBY := Lib.hid hby
      have HOW := Lib.hid hown
      have HNW := Lib.hid hnews
      have HLO := Lib.hid hlo
      have HGB := Lib.hid hgb
      have HBA := Lib.hid hbase
      have HGB0 := Lib.hid gb
      have HST := Lib.hid hst
      clear hone hlen hby hnb hnews hown hlo hgb hbase go gb hst
      by_cases hq0 : 0 < q
      · have e0 : (0 : Int) < (q : Int) := by omega
        have iU : (U : Int) ≤ 300 := by omega
        go_wp2_with (first | (refine wpList_append_rows rfl _ _ 22 rfl w.heap.size 3 i0 (.int .i64 0) 1 8 Try.underlying22 hi0 hz0 hz1 hz2 rfl (by decide) _ rows rfl HOW.out (.slice (some ⟨wr.heap.size, 0, none⟩) 1 1) [[.int .i64 (q : Int)]] rfl HNW.out HONE.out HLEN.out HBY.out HBA.out (.inr ⟨_, _, _, rfl⟩) ?_; intro v' w5 ho5 hg5 hv5; have gb5 := HGB.out.grown hg5 HBA.out (fun k e => (HLO.out k e).1); obtain ⟨a', ha', hc5⟩ := SlU.cell (HS.out.below gb5) hlt; cases ha'; rw [HQ.out] at hc5; have GB5 := Lib.hid gb5; have HO5 := Lib.hid ho5; clear hg5 ho5 gb5))
        go_roundw
        case rel => exact ⟨j + 1, by omega, by go_num, by rw [HST.out, if_pos hq0]; go_num, by rw [HSN.out]; exact HO5.out, GB5.out⟩
        case measure => simp [intOf]; omega
      · have e0 : ¬ (0 : Int) < (q : Int) := by omega
        go_wp2_with (first | (refine wpList_append_rows rfl _ _ 22 rfl w.heap.size 3 i0 (.int .i64 0) 1 8 Try.underlying22 hi0 hz0 hz1 hz2 rfl (by decide) _ rows rfl HOW.out (.slice (some ⟨wr.heap.size, 0, none⟩) 1 1) [[.int .i64 (q : Int)]] rfl HNW.out HONE.out HLEN.out HBY.out HBA.out (.inr ⟨_, _, _, rfl⟩) ?_; intro v' w5 ho5 hg5 hv5; have gb5 := HGB.out.grown hg5 HBA.out (fun k e => (HLO.out k e).1); obtain ⟨a', ha', hc5⟩ := SlU.cell (HS.out.below gb5) hlt; cases ha'; rw [HQ.out] at hc5; have GB5 := Lib.hid gb5; have HO5 := Lib.hid ho5; clear hg5 ho5 gb5))
        go_roundw
        case rel => exact ⟨j + 1, by omega, by go_num, by rw [HST.out, if_neg hq0]; rfl, by rw [HSN.out]; exact HO5.out, GB5.out⟩
        case measure => simp [intOf]; omega
    · obtain rfl : j = l.length := by omega
      rw [List.take_length] at go ⊢
      rw [HUS.out]
      have hnil := nil_or go
      have HPv := HP.out _ wr go.sl hnil
      obtain ⟨p5, c5, e5⟩ := go.isSlice
      rw [rowsN_len] at e5
      subst e5
      unfold IntsRet2 at HPv
      rw [F1.out] at HPv
      have HPv := Lib.hid HPv
      have GO := Lib.hid go
      have GB := Lib.hid gb
      clear go gb hnil hlt HUS
      obtain ⟨T, hT⟩ : ∃ T, (treesF l).length = T := ⟨_, rfl⟩
      rw [hT] at F4 F5 F6 ⊢
      clear hT
      go_wp2_with fail
      rw [← hk]
      (with_reducible refine HPv.out.mono ?_)
      rintro e w6 ⟨g, rfl, hg, hsz, hb6⟩
      have GB6 := Lib.hid (GB.out.trans (hb6.mono GB.out.size))
      have GS6 := Lib.hid (GO.out.sl.below hb6)
      have HGB := Lib.hid hg
      clear hb6 hg hsz HPv GB GO
      go_wp2
      go_loopw [11] (fun i wr => ∃ j : Nat, j ≤ l.length ∧ i = .int .i64 (j : Int) ∧ Blk wr g 3 (ints .i64 (nn L)) ∧ Sl wr 1 (.slice p5 l.length c5) (rowsN l) ∧ Below w.heap.size w wr) (fun i _ => l.length - (intOf i).toNat)
      case atStart => exact ⟨0, by omega, rfl, HGB.out, GS6.out, GB6.out⟩
      case round =>
        obtain ⟨j, hj, rfl, gL, gF, gb⟩ := hrel
        clear HGB GS6 GB6
        by_cases hlt : j < l.length
        · have d1 : (j : Int) < (l.length : Int) := by omega
          have c1 := gL.nat (j := j) (by rw [F1.out]; exact hlt)
          obtain ⟨a, rfl, c2⟩ := SlN.cell gF hlt
          have hle := F2.out j
          have heq := HG.out j
          obtain ⟨a1, ha1⟩ : ∃ a1, L.getD j 0 = a1 := ⟨_, rfl⟩
          obtain ⟨b1, hb1'⟩ : ∃ b1, l.getD j 0 = b1 := ⟨_, rfl⟩
          rw [ha1] at c1 hle heq
          rw [hb1'] at c2 heq
          have e1 : decide ((a1 : Int) < 0) = false := decide_eq_false (by omega)
          have e2 : decide ((k : Int) < (a1 : Int)) = false := decide_eq_false (by omega)
          have e2a : decide (9 + x % 7 < (a1 : Int)) = false := decide_eq_false (by omega)
          have e3 : ((a1 : Int) == 0) = ((b1 : Int) == 0) := by
            by_cases h : b1 = 0
            · rw [decide_eq_true h] at heq
              rw [h, of_decide_eq_true heq]
            · rw [decide_eq_false h] at heq
              have h' := of_decide_eq_false heq
              rw [beq_eq_false_iff_ne.2 (show (a1 : Int) ≠ 0 by omega), beq_eq_false_iff_ne.2 (show (b1 : Int) ≠ 0 by omega)]
          have GL := Lib.hid gL
          have GF := Lib.hid gF
          have GB := Lib.hid gb
          clear gL gF gb ha1 hb1' heq
          go_wp2_with fail
          go_quiet (fail)
          go_wp2
          go_roundw
          case rel => exact ⟨j + 1, by omega, by go_num, GL.out.drewN _, GF.out.below (below_drewN (Below.refl _ _) _), below_drewN GB.out _⟩
          case measure => simp [intOf]; omega
        · obtain rfl : j = l.length := by omega
          have hSL := gL.slN l.length
          rw [← rowsI_nn, F1.out] at hSL
          have h15 : ∀ i, L.getD i 0 ≤ 15 := fun i => by have := F2.out i; omega
          have hKr : ∀ w' n, Below wr.heap.size wr w' → ((kraftW L : Nat) : Int) = n → Calls Try.prog 16 #[.slice (some ⟨g, 0, none⟩) l.length l.length] w' fun e w'' => e = .returned (.int .i64 n) ∧ Below w'.heap.size w' w'' := by
            intro w' n h hn
            have := p_Kraft (nn L) (some ⟨g, 0, none⟩) l.length w' (by rw [nn_length, F1.out]; omega) (by rw [nn_length, F1.out]; exact hSL.below h)
            rw [nn_length, F1.out, clL_nn h15, hn] at this
            exact this
          have HKr := Lib.hid hKr
          have HSL := Lib.hid hSL
          have GB := Lib.hid gb
          clear hKr hSL gb gL gF h15 hlt
          rcases Nat.lt_trichotomy T 1 with hT | hT | hT
          · obtain rfl : T = 0 := by omega
            obtain ⟨hk0, hno⟩ := F4.out rfl
            have hC := p_Codes_no (nn L) (some ⟨g, 0, none⟩) l.length wr (by rw [nn_length, F1.out]; omega) (by rw [nn_length, F1.out]; exact HSL.out) hno
            rw [nn_length, F1.out] at hC
            have HC := Lib.hid hC
            have HK := Lib.hid (fun w7 h => HKr.out w7 0 h (by rw [hk0]; rfl))
            clear hC hno hk0 HKr HSL
            go_wp2_with fail
            (with_reducible refine HC.out.mono ?_)
            rintro e w7 ⟨rfl, hb7⟩
            have GB7 := Lib.hid (GB.out.trans (hb7.mono GB.out.size))
            have hK := Lib.hid (HK.out w7 hb7)
            clear hb7 HK
            go_wp2_with fail
            (with_reducible refine hK.out.mono ?_)
            rintro e w8 ⟨rfl, hb8⟩
            have GB8 := Lib.hid (GB7.out.trans (hb8.mono GB7.out.size))
            clear hb8
            go_wp2
            go_ret
            exact ⟨rfl, GB8.out⟩
          · obtain rfl : T = 1 := by omega
            obtain ⟨hk0, hR⟩ := F5.out rfl
            have hC := p_Codes_yes L (some ⟨g, 0, none⟩) l.length wr hR (by rw [← rowsI_nn, F1.out]; exact HSL.out)
            rw [F1.out] at hC
            have HC := Lib.hid hC
            have HK := Lib.hid (fun w7 h => HKr.out w7 16384 h (by rw [hk0]; rfl))
            clear hC hR hk0 HKr HSL
            go_wp2_with fail
            (with_reducible refine HC.out.mono ?_)
            rintro e w7 ⟨g7, rfl, _, _, hb7⟩
            have GB7 := Lib.hid (GB.out.trans (hb7.mono GB.out.size))
            have hK := Lib.hid (HK.out w7 hb7)
            clear hb7 HK
            go_wp2_with fail
            (with_reducible refine hK.out.mono ?_)
            rintro e w8 ⟨rfl, hb8⟩
            have GB8 := Lib.hid (GB7.out.trans (hb8.mono GB7.out.size))
            clear hb8
            go_wp2
            go_ret
            exact ⟨rfl, GB8.out⟩
          · have hT0 : ((T : Int) == 0) = false := by rw [beq_eq_false_iff_ne]; omega
            have hT1 : ((T : Int) == 1) = false := by rw [beq_eq_false_iff_ne]; omega
            obtain ⟨hk0, hR⟩ := F6.out (by omega)
            have hC := p_Codes_yes L (some ⟨g, 0, none⟩) l.length wr hR (by rw [← rowsI_nn, F1.out]; exact HSL.out)
            rw [F1.out] at hC
            have HC := Lib.hid hC
            have HK := Lib.hid (fun w7 h => HKr.out w7 32768 h (by rw [hk0]; rfl))
            clear hC hR hk0 HKr HSL
            go_wp2_with fail
            (with_reducible refine HC.out.mono ?_)
            rintro e w7 ⟨g7, rfl, _, _, hb7⟩
            have GB7 := Lib.hid (GB.out.trans (hb7.mono GB.out.size))
            have hK := Lib.hid (HK.out w7 hb7)
            clear hb7 HK
            go_wp2_with fail
            (with_reducible refine hK.out.mono ?_)
            rintro e w8 ⟨rfl, hb8⟩
            have GB8 := Lib.hid (GB7.out.trans (hb8.mono GB7.out.size))
            clear hb8
            go_wp2
            go_ret
            exact ⟨rfl, GB8.out⟩

set_option maxRecDepth 100000 in
theorem lifted (os : Os) (started : os.Started) (H : Type) (enc : TypeId × Value → H) :
    ReturnsInHanded {} Try.checked os 6 .any (Rows.prefixWholeSpec.pre6 enc Try.prog Try.f6 Rows.prefixWholeRow.domain false) (Rows.prefixWholeSpec.post enc Try.prog Try.f6 false true false false) := by
  refine returnsInHanded_of_change (C := Try.checked) own started (by kernel_rfl) Try.func6
    (ChangeSpec.witness6 (enc := enc) (C := Try.checked) false ⟨#[], #[.slice none 0 0, .int .u8 0], []⟩ 8 (by kernel_rfl) (by kernel_rfl) (by kernel_rfl) (by kernel_rfl)) ?_
  intro W base args ds gs before hval0 hW hcnd _
  have hval : ∀ (j : Nat) t v, Try.f6.params[j]? = some t → args[j]? = some v → Value.okWide Try.prog W .any base t v := hval0
  have hW' := hW
  obtain ⟨p, q, hA0, hV, rfl, hfz, hnd⟩ := hW
  have hA : DataW.TrodAll enc Try.prog W 0 (fun _ => true) true Try.f6.params.toList args.toList ds p := hA0
  rw [Try.params6] at hA hval
  obtain ⟨v0, vs0, d0, ds0, p0, q0, hargs, rfl, rfl, h0, r0⟩ := trodAll_cons hA
  obtain ⟨v1, vs1, d1, ds1, p1, q1, rfl, rfl, rfl, h1, r1⟩ := trodAll_cons r0
  obtain ⟨rfl, rfl, rfl⟩ := trodAll_nil r1
  obtain rfl : args = #[v0, v1] := by cases args; simp_all
  obtain ⟨rfl, rfl⟩ := trodVars_none hV
  have k0 := h0
  have lt0 : ∀ x ∈ p0, x.block < W.heap.size := by obtain ⟨m, hm⟩ := k0; exact DataW.trod_lt m _ _ _ hm
  obtain ⟨a0, m0, c0, rfl⟩ := Go.WideShapes.okWide_slice Try.underlying51 (hval 0 51 v0 rfl rfl)
  obtain ⟨l0, rfl, S0, n0⟩ := open_u16s h0
  obtain ⟨l1, rfl, rfl, rfl, n1⟩ := open_int Try.underlying5 (hval 1 5 v1 rfl rfl) h1
  clear hA0 hval0
  simp only [List.append_nil] at hW'
  refine (walk l0 a0 c0 l1 n0 n1 W S0).mono fun e W' ⟨he, bel⟩ => ?_
  subst he
  exact ⟨_, rfl, _, _, _, [], _, [], hW', trodAll_mk1 (shut_bool Try.underlying4 _), (trodAll_cons_mk (Below.trod laidOut (by kernel_rfl) (of_decide_eq_true (by kernel_rfl)) k0 bel lt0) (trodAll_cons_mk (shut_int Try.underlying5 n1) trodAll_mk0)), rfl, bel.frame _, fun h => by cases h⟩

theorem over : Rows.prefixWholeRow.holds Try.pinned (OpenSpec.ofChange Rows.prefixWholeSpec) :=
  OpenClaim.holds_of_wide 6 Try.f6 rfl rfl rfl rfl rfl rfl rfl ⟨rfl, rfl, rfl, rfl, rfl⟩ rfl rfl rfl rfl rfl (by kernel_rfl) Try.func6 (by kernel_rfl)
    (of_decide_eq_true (by kernel_rfl)) (by unfold Func.isWrapper; first | (rw [if_pos (by decide +kernel)]; kernel_rfl) | (rw [if_neg (by decide +kernel)]; exact ⟨rfl, rfl⟩))
    (fun os started H enc _ => lifted os started H enc)

theorem proved : Rows.PrefixWholeSaid :=
  over
#print axioms proved
end Go.Proofs.Ytpjdlkbpnodcdaa.prefixWhole
