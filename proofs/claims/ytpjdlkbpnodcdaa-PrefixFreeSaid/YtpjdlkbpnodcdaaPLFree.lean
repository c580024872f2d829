/-
  For all frequencies: no symbol's word begins another one's. Longer lists than the bound are answered by the case shown alone. No condition.
-/
import Derived.Test.YtpjdlkbpnodcdaaRows
import Derived.Test.YtpjdlkbpnodcdaaPFacts
import Derived.Test.YtpjdlkbpnodcdaaPOpen
import Derived.Test.YtpjdlkbpnodcdaaPLawG
import Derived.ShutString
import Derived.ChangeOld
namespace Go.Proofs.Ytpjdlkbpnodcdaa.prefixFree
open Go.ChangeShapes Go.WideShapes Go.ChangeAt Go.RowKit
open Go.ChangeMaps (open_string shut_string)
set_option linter.unusedVariables false

theorem info_int' : (Try.prog.info? 3).map (fun i => (i.zero, i.size, i.bytes)) = some (some (.int .i64 0), 1, 8) := by kernel_rfl
theorem nil_or {w : World} {base : Nat} {e : TypeId} {k : Nat} {v : Value} {rows : List (List Value)} (h : OwnR w base e k v rows) : v = .slice none 0 0 ∨ ∃ ad n c, v = .slice (some ad) n c := by
  rcases h.2.2 with ⟨hv, _⟩ | ⟨g, cap, cur, hv, _⟩
  · exact .inl hv
  · exact .inr ⟨_, _, _, hv⟩
theorem map_getD (g : Nat → Nat) (l : List Nat) (i : Nat) (h : i < l.length) : (l.map g).getD i 0 = g (l.getD i 0) := by
  rw [List.getD_eq_getElem?_getD, List.getD_eq_getElem?_getD, List.getElem?_map, List.getElem?_eq_getElem h]
  rfl
set_option maxHeartbeats 4000000 in
set_option maxRecDepth 100000 in
theorem walk (l : List Nat) (p : Option Addr) (cap : Nat) (hu : ∀ q ∈ l, q < 65536) (w : World) (hS : Sl w 1 (.slice p l.length cap) (rowsU .u16 l)) :
    Calls Try.prog 9 #[.slice p l.length cap] w fun e w' => e = .returned (.bool true) ∧ Below w.heap.size w w' := by
  have hSh := fun w => l7_shown w
  have HSh := Lib.hid hSh
  have HS := Lib.hid hS
  clear hSh hS
  by_cases h1 : 100 < l.length
  · have g1 : (100 : Int) < (l.length : Int) := by omega
    go_enter Try.func9, Try.ntmps9
    go_wp2_with (go_at_call 10; (with_reducible refine (HSh.out _).mono ?_); rintro e w1 ⟨rfl, hb1⟩)
    go_ret
    exact ⟨rfl, hb1⟩
  have g1 : ¬ (100 : Int) < (l.length : Int) := by omega
  have hl16 : ∀ i, l.getD i 0 < 65536 := fun i => by
    rcases Nat.lt_or_ge i l.length with h | h
    · exact hu _ (getD_mem _ _ h)
    · rw [List.getD_eq_getElem?_getD, List.getElem?_eq_none h]; decide
  obtain ⟨fr, hfr⟩ : ∃ fr, l.map (fun x : Nat => x + 1) = fr := ⟨_, rfl⟩
  have hfl : fr.length = l.length := by rw [← hfr, List.length_map]
  have hfj : ∀ i, i < l.length → fr.getD i 0 = ((fun x : Nat => x + 1)) (l.getD i 0) := fun i hi => by rw [← hfr]; exact map_getD _ _ _ hi
  have hfo : ∀ i, ¬ i < l.length → fr.getD i 0 = 0 := fun i hi => by rw [List.getD_eq_getElem?_getD, List.getElem?_eq_none (by omega)]; rfl
  have hf1 : ∀ i, i < fr.length → 0 < fr.getD i 0 := fun i h => by rw [hfj i (by omega)]; show 0 < l.getD i 0 + 1; omega
  have hf8 : ∀ i, fr.getD i 0 ≤ 65536 := fun i => by
    by_cases h : i < l.length
    · rw [hfj i h]; have := hl16 i; show l.getD i 0 + 1 ≤ 65536; omega
    · rw [hfo i h]; omega
  have hM := trees_le (show fr.length ≤ 300 by omega) (show 9 ≤ 15 by decide)
  have hmc := mayC_of (show fr.length ≤ 300 by omega) hM (fun i => by have := hf8 i; omega)
  have hP := fun v w hS hn => p_Lengths_yes fr 15 v w (by decide) (by decide) hmc hS hn
  have hfa := lens_facts (fr := fr) (show 1 ≤ 15 by decide) (by decide) (by omega) hM (fun i => by have := hf8 i; omega)
  have htr := trees_all hf1
  obtain ⟨L, hL⟩ : ∃ L, lensF 15 20 fr = L := ⟨_, rfl⟩
  rw [hL] at hP hfa
  obtain ⟨hdl, _, f3, _, f5, f6⟩ := hfa
  rw [hfl] at hdl
  have hR : 0 < l.length → RightN L := fun h => by
    rcases Nat.lt_or_ge 1 l.length with h' | h'
    · exact (f6 (by omega)).2
    · exact (f5 (by omega)).2
  have hL0 : ∀ i, i < l.length → 0 < L.getD i 0 := fun i h => (f3 i).2 (hf1 i (by omega))
  obtain ⟨i0, hi0, hz0, hz1, hz2⟩ := info_parts2 info_int'
  have HP := Lib.hid hP
  have H16 := Lib.hid hl16
  have HFL := Lib.hid hfl
  have HFJ := Lib.hid hfj
  have HDL := Lib.hid hdl
  have HRR := Lib.hid hR
  have HL0 := Lib.hid hL0
  have h100 : l.length ≤ 100 := by omega
  clear h1 hu hl16 hM hmc hP hL hfr hfl hfj hfo hf8 hdl hf1 f3 f5 f6 hR hL0 htr
  go_enter Try.func9, Try.ntmps9
  go_wp2_with (go_at_call 10; (with_reducible refine (HSh.out _).mono ?_); rintro e w1 ⟨rfl, hb1⟩; have k0 := Lib.hid (OwnR.empty w1 w.heap.size 3 1 hb1.size); have kb := Lib.hid (hb1.alloc hb1.size (.cells #[] 3)))
  go_loopw [3, 4] (fun u i wr => ∃ j : Nat, j ≤ l.length ∧ i = .int .i64 (j : Int) ∧ OwnR wr w.heap.size 3 1 u (rowsN (fr.take j)) ∧ Below w.heap.size w wr) (fun _ i _ => l.length - (intOf i).toNat)
  case atStart => exact ⟨0, by omega, rfl, k0.out, kb.out⟩
  case round =>
    obtain ⟨j, hj, rfl, go, gb⟩ := hrel
    clear k0 kb
    by_cases hlt : j < l.length
    · have hS' := HS.out.below gb
      obtain ⟨a, rfl, hc⟩ := SlU.cell hS' hlt
      have d1 : (j : Int) < (l.length : Int) := by omega
      have hq16 := H16.out j
      have hfj := HFJ.out j hlt
      have hsn : rowsN (fr.take (j + 1)) = rowsN (fr.take j) ++ [[.int .i64 ((fr.getD j 0 : Nat) : Int)]] := by rw [take_snoc fr j (by rw [HFL.out]; exact hlt), rowsN_snoc]
      have hrl : (rowsN (fr.take j)).length = j := by rw [rowsN_len, List.length_take, HFL.out]; omega
      rw [hfj] at hsn
      have HSN := Lib.hid hsn
      have HRL := Lib.hid hrl
      obtain ⟨q, hq⟩ : ∃ q, l.getD j 0 = q := ⟨_, rfl⟩
      rw [hq] at hc hq16 HSN
      clear hsn hrl hS' hq hfj
      generalize rowsN (fr.take j) = rows at *
      obtain ⟨y, hy⟩ : ∃ y : Int, (q : Int) + 1 = y := ⟨_, rfl⟩
      have hy' : ((((fun x : Nat => x + 1) q : Nat)) : Int) = y := by rw [← hy]; show ((q + 1 : Nat) : Int) = _; omega
      rw [hy'] at HSN
      have hnb := Blk.new' wr 3 (c := #[.int .i64 ((q : Int) + 1)]) [.int .i64 ((q : Int) + 1)] rfl
      rw [hy] at hnb
      have hnews := sl_one hnb
      have hown := go.alloc (.cells #[.int .i64 y] 3)
      have hlo := go.lt
      have hgb := gb.alloc gb.size (.cells #[.int .i64 y] 3)
      have hbase : w.heap.size ≤ (wr.alloc (.cells #[.int .i64 y] 3)).heap.size := hgb.size
      have hone : ∀ r ∈ [[Value.int .i64 y]], ∀ u ∈ r, u.oneCell' = true := by simp [Value.oneCell']
      have hlen : rows.length + [[Value.int .i64 y]].length ≤ maxLen := by rw [HRL.out, List.length_singleton]; unfold maxLen; omega
      have hby : (rows.length + [[Value.int .i64 y]].length) * 8 ≤ 140737488355328 := by rw [HRL.out, List.length_singleton]; omega
      have HONE := Lib.hid hone
      have HLEN := Lib.hid hlen
      have HBY := Lib.hid hby
      have HOW := Lib.hid hown
      have HNW := Lib.hid hnews
      have HLO := Lib.hid hlo
      have HGB := Lib.hid hgb
      have HBA := Lib.hid hbase
      have HY := Lib.hid hy
      clear hone hlen hby hnb hnews hown hlo hgb hbase go gb hy hy'
      go_wp2_with (first | (rw [HY.out]; refine wpList_append_rows rfl _ _ 22 rfl w.heap.size 3 i0 (.int .i64 0) 1 8 Try.underlying22 hi0 hz0 hz1 hz2 rfl (by decide) _ rows rfl HOW.out (.slice (some ⟨wr.heap.size, 0, none⟩) 1 1) [[.int .i64 y]] rfl HNW.out HONE.out HLEN.out HBY.out HBA.out (.inr ⟨_, _, _, rfl⟩) ?_; intro v' w5 ho5 hg5 hv5; have gb5 := HGB.out.grown hg5 HBA.out (fun k e => (HLO.out k e).1); have GB5 := Lib.hid gb5; have HO5 := Lib.hid ho5; clear hg5 ho5 gb5))
      go_roundw
      case rel => exact ⟨j + 1, by omega, by go_num, by rw [HSN.out]; exact HO5.out, GB5.out⟩
      case measure => simp [intOf]; omega
    · obtain rfl : j = l.length := by omega
      rw [← HFL.out, List.take_length] at go
      have hnil := nil_or go
      have HPv := HP.out _ wr go.sl hnil
      obtain ⟨p5, c5, e5⟩ := go.isSlice
      rw [rowsN_len, HFL.out] at e5
      subst e5
      unfold IntsRet2 at HPv
      rw [HDL.out] at HPv
      have HPv := Lib.hid HPv
      have GB := Lib.hid gb
      clear go gb hnil hlt HP
      go_wp2_with fail
      refine HPv.out.mono ?_
      rintro e w6 ⟨g, rfl, hg, hsz, hb6⟩
      have GB6 := Lib.hid (GB.out.trans (hb6.mono GB.out.size))
      have hSL := hg.slN l.length
      rw [HDL.out] at hSL
      obtain ⟨bd, hbd⟩ : ∃ bd : Addr, (⟨g, 0, none⟩ : Addr) = bd := ⟨_, rfl⟩
      rw [hbd] at hSL ⊢
      have HSL := Lib.hid hSL
      clear hb6 hg hsz HPv GB hSL hbd
      rcases Nat.eq_zero_or_pos l.length with h0 | h0
      · rw [h0]
        go_wp2
        go_ret
        exact ⟨rfl, GB6.out⟩
      · have d0 : ((l.length : Int) == 0) = false := by rw [beq_eq_false_iff_ne]; omega
        have hR := HRR.out h0
        have h15 := hR.2.1
        have hK := hR.le
        have hC := p_Codes_yes L (some bd) l.length w6 hR (by rw [HDL.out]; exact HSL.out)
        unfold PcRet at hC
        rw [HDL.out] at hC
        have HC := Lib.hid hC
        have HFR := Lib.hid (fun i k (hi : i < l.length) (hk : k < l.length) (hne : i ≠ k) (hl : L.getD i 0 ≤ L.getD k 0) => codeW_free L (i := i) (k := k) (by rw [HDL.out]; exact hi) (by rw [HDL.out]; exact hk) hne (HL0.out i hi) hl (h15 k) hK)
        have H15 := Lib.hid h15
        have HCL := Lib.hid (fun i (hi : i < l.length) => codeW_lt' L i (h15 i))
        clear hC hR h15 hK
        go_wp2_with fail
        (with_reducible refine HC.out.mono ?_)
        rintro e w7 ⟨g7, rfl, hg7, hsz7, hb7⟩
        have GB7 := Lib.hid (GB6.out.trans (hb7.mono GB6.out.size))
        have GL7 := Lib.hid (HSL.out.below hb7)
        have hSP := sl_pcW l.length hg7
        rw [HDL.out] at hSP
        have GP7 := Lib.hid hSP
        clear hg7 hsz7 hb7 hSP HC HSL GB6
        go_wp2
        go_loopw [9, 10] (fun i k' wr => ∃ j : Nat, j ≤ l.length ∧ i = .int .i64 (j : Int) ∧ Sl wr 1 (.slice (some bd) l.length l.length) (rowsN L) ∧ Sl wr 2 (.slice (some ⟨g7, 0, none⟩) l.length l.length) (rowsP (pcW L)) ∧ Below w.heap.size w wr) (fun i _ _ => l.length - (intOf i).toNat)
        case atStart => exact ⟨0, by omega, rfl, GL7.out, GP7.out, GB7.out⟩
        case round =>
          obtain ⟨j, hj, rfl, gL, gP, gb⟩ := hrel
          clear GL7 GP7 GB7
          by_cases hlt : j < l.length
          · have d1 : (j : Int) < (l.length : Int) := by omega
            obtain ⟨a1, ha1, c1⟩ := SlN.cell gL (j := j) (by rw [HDL.out]; exact hlt)
            cases ha1
            obtain ⟨b1, c2⟩ := pcW_cells gP (show j < L.length by rw [HDL.out]; exact hlt)
            have hL0 := HL0.out j hlt
            have hL15 := H15.out j
            obtain ⟨x1, hx1⟩ : ∃ x1, L.getD j 0 = x1 := ⟨_, rfl⟩
            have HX1 := Lib.hid hx1
            rw [hx1] at c1 c2 hL0 hL15
            have t1 : decide ((x1 : Int) < 1) = false := decide_eq_false (by omega)
            have t2 : ((x1 : Int) != (x1 : Int)) = false := by simp
            have GL := Lib.hid gL
            have GP := Lib.hid gP
            have GB := Lib.hid gb
            clear gL gP gb hx1 b1
            go_wp2_with fail
            go_quiet (fail)
            clear c1 c2 t1 t2
            go_wp2
            go_loopw [10] (fun i wr => ∃ k : Nat, k ≤ l.length ∧ i = .int .i64 (k : Int) ∧ Sl wr 1 (.slice (some bd) l.length l.length) (rowsN L) ∧ Sl wr 2 (.slice (some ⟨g7, 0, none⟩) l.length l.length) (rowsP (pcW L)) ∧ Below w.heap.size w wr) (fun i _ => l.length - (intOf i).toNat)
            case atStart => exact ⟨0, by omega, rfl, GL.out.below (below_drewN (Below.refl _ _) _), GP.out.below (below_drewN (Below.refl _ _) _), below_drewN GB.out _⟩
            case round =>
              obtain ⟨k, hk, rfl, gL, gP, gb⟩ := hrel
              clear GL GP GB
              have GL := Lib.hid gL
              have GB := Lib.hid gb
              have GP := Lib.hid gP
              clear gL gb
              by_cases hlk : k < l.length
              · have d2 : (k : Int) < (l.length : Int) := by omega
                by_cases hne : j = k
                · subst hne
                  have t1 : ((j : Int) != (j : Int)) = false := by simp
                  clear gP
                  go_wp2_with fail
                  go_quiet (fail)
                  go_wp2
                  go_roundw
                  case rel => exact ⟨j + 1, by omega, by go_num, GL.out.below (below_drewN (Below.refl _ _) _), GP.out.below (below_drewN (Below.refl _ _) _), below_drewN GB.out _⟩
                  case measure => simp [intOf]; omega
                · have t1 : ((j : Int) != (k : Int)) = true := by rw [bne_iff_ne]; omega
                  obtain ⟨b1, c1⟩ := pcW_cells gP (show j < L.length by rw [HDL.out]; exact hlt)
                  obtain ⟨b2, c2⟩ := pcW_cells gP (show k < L.length by rw [HDL.out]; exact hlk)
                  have ho := HFR.out j k hlt hlk hne
                  have n1 := HCL.out j hlt
                  have n2 := HCL.out k hlk
                  rw [HX1.out] at c1 ho
                  obtain ⟨x2, hx2⟩ : ∃ x2, L.getD k 0 = x2 := ⟨_, rfl⟩
                  obtain ⟨y1, hy1⟩ : ∃ y1, codeW L j = y1 := ⟨_, rfl⟩
                  obtain ⟨y2, hy2⟩ : ∃ y2, codeW L k = y2 := ⟨_, rfl⟩
                  rw [hx2] at c2 ho
                  rw [hy1] at b1 ho n1
                  rw [hy2] at b2 ho n2
                  clear gP hx2 hy1 hy2
                  by_cases hw : x1 ≤ x2
                  · have t2 : (x1 : Int) ≤ (x2 : Int) := by omega
                    have h3 := ho hw
                    have hp : (2 : Nat) ^ x1 ≤ 2 ^ 15 := Nat.pow_le_pow_right (by decide) hL15
                    have hpos := Nat.two_pow_pos x1
                    obtain ⟨P2, hP2⟩ : ∃ P2, 2 ^ x1 = P2 := ⟨_, rfl⟩
                    have hP2' : ((2 : Int) ^ x1) = (P2 : Int) := by rw [← hP2]; simp
                    rw [hP2] at hp hpos h3
                    have i1 : (x1 : Int).toNat = x1 := by omega
                    have i2 : IntKind.u32.wrap ((2 : Int) ^ x1) = (P2 : Int) := by rw [hP2']; exact wraps_u32 _ (by omega) (by omega)
                    have i3 : ((P2 : Int) == 0) = false := by rw [beq_eq_false_iff_ne]; omega
                    have t3 : (((y2 : Int) % (P2 : Int)) == (y1 : Int)) = false := by rw [beq_eq_false_iff_ne]; omega
                    clear ho hne hw h3 hP2
                    go_wp2_with fail
                    go_quiet (fail)
                    go_wp2
                    go_roundw
                    case rel => exact ⟨k + 1, by omega, by go_num, GL.out.below (below_drewN (Below.refl _ _) _), GP.out.below (below_drewN (Below.refl _ _) _), below_drewN GB.out _⟩
                    case measure => simp [intOf]; omega
                  · have t2 : decide ((x1 : Int) ≤ (x2 : Int)) = false := decide_eq_false (by omega)
                    have t2n : decide (x1 ≤ x2) = false := decide_eq_false (by omega)
                    clear ho hne hw
                    go_wp2_with fail
                    go_quiet (fail)
                    go_wp2
                    go_roundw
                    case rel => exact ⟨k + 1, by omega, by go_num, GL.out.below (below_drewN (Below.refl _ _) _), GP.out.below (below_drewN (Below.refl _ _) _), below_drewN GB.out _⟩
                    case measure => simp [intOf]; omega
              · obtain rfl : k = l.length := by omega
                clear gP hlk
                go_wp2
                go_roundw
                case rel => exact ⟨j + 1, by omega, by go_num, GL.out, GP.out, GB.out⟩
                case measure => simp [intOf]; omega
          · obtain rfl : j = l.length := by omega
            clear hlt gL gP
            go_wp2
            go_ret
            exact ⟨rfl, gb⟩

set_option maxRecDepth 100000 in
theorem lifted (os : Os) (started : os.Started) (H : Type) (enc : TypeId × Value → H) :
    ReturnsInHanded {} Try.checked os 9 .any (Rows.prefixFreeSpec.pre6 enc Try.prog Try.f9 Rows.prefixFreeRow.domain false) (Rows.prefixFreeSpec.post enc Try.prog Try.f9 false true false false) := by
  refine returnsInHanded_of_change (C := Try.checked) own started (by kernel_rfl) Try.func9
    (ChangeSpec.witness6 (enc := enc) (C := Try.checked) false ⟨#[], #[.slice none 0 0], []⟩ 8 (by kernel_rfl) (by kernel_rfl) (by kernel_rfl) (by kernel_rfl)) ?_
  intro W base args ds gs before hval0 hW hcnd _
  have hval : ∀ (j : Nat) t v, Try.f9.params[j]? = some t → args[j]? = some v → Value.okWide Try.prog W .any base t v := hval0
  have hW' := hW
  obtain ⟨p, q, hA0, hV, rfl, hfz, hnd⟩ := hW
  have hA : DataW.TrodAll enc Try.prog W 0 (fun _ => true) true Try.f9.params.toList args.toList ds p := hA0
  rw [Try.params9] at hA hval
  obtain ⟨v0, vs0, d0, ds0, p0, q0, hargs, rfl, rfl, h0, r0⟩ := trodAll_cons hA
  obtain ⟨rfl, rfl, rfl⟩ := trodAll_nil r0
  obtain rfl : args = #[v0] := by cases args; simp_all
  obtain ⟨rfl, rfl⟩ := trodVars_none hV
  have k0 := h0
  have lt0 : ∀ x ∈ p0, x.block < W.heap.size := by obtain ⟨m, hm⟩ := k0; exact DataW.trod_lt m _ _ _ hm
  obtain ⟨a0, m0, c0, rfl⟩ := Go.WideShapes.okWide_slice Try.underlying51 (hval 0 51 v0 rfl rfl)
  obtain ⟨l0, rfl, S0, n0⟩ := open_u16s h0
  clear hA0 hval0
  simp only [List.append_nil] at hW'
  refine (walk l0 a0 c0 n0 W S0).mono fun e W' ⟨he, bel⟩ => ?_
  subst he
  exact ⟨_, rfl, _, _, _, [], _, [], hW', trodAll_mk1 (shut_bool Try.underlying4 _), (trodAll_cons_mk (Below.trod laidOut (by kernel_rfl) (of_decide_eq_true (by kernel_rfl)) k0 bel lt0) trodAll_mk0), rfl, bel.frame _, fun h => by cases h⟩

theorem over : Rows.prefixFreeRow.holds Try.pinned (OpenSpec.ofChange Rows.prefixFreeSpec) :=
  OpenClaim.holds_of_wide 9 Try.f9 rfl rfl rfl rfl rfl rfl rfl ⟨rfl, rfl, rfl, rfl, rfl⟩ rfl rfl rfl rfl rfl (by kernel_rfl) Try.func9 (by kernel_rfl)
    (of_decide_eq_true (by kernel_rfl)) (by unfold Func.isWrapper; first | (rw [if_pos (by decide +kernel)]; kernel_rfl) | (rw [if_neg (by decide +kernel)]; exact ⟨rfl, rfl⟩))
    (fun os started H enc _ => lifted os started H enc)

theorem proved : Rows.PrefixFreeSaid :=
  over
#print axioms proved
end Go.Proofs.Ytpjdlkbpnodcdaa.prefixFree
