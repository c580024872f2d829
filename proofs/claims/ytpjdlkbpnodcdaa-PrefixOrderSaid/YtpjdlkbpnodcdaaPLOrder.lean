/-
  For all frequencies: what comes more often never has a longer word, where no word is too long. Longer lists than the bound are answered by the case shown alone. No condition.
-/
import Derived.Test.YtpjdlkbpnodcdaaRows
import Derived.Test.YtpjdlkbpnodcdaaPFacts
import Derived.Test.YtpjdlkbpnodcdaaPOpen
import Derived.ShutString
import Derived.ChangeOld
namespace Go.Proofs.Ytpjdlkbpnodcdaa.prefixOrder
open Go.ChangeShapes Go.WideShapes Go.ChangeAt Go.RowKit
open Go.ChangeMaps (open_string shut_string)
set_option linter.unusedVariables false

theorem info_int' : (Try.prog.info? 3).map (fun i => (i.zero, i.size, i.bytes)) = some (some (.int .i64 0), 1, 8) := by kernel_rfl
theorem nil_or {w : World} {base : Nat} {e : TypeId} {k : Nat} {v : Value} {rows : List (List Value)} (h : OwnR w base e k v rows) : v = .slice none 0 0 ∨ ∃ ad n c, v = .slice (some ad) n c := by
  rcases h.2.2 with ⟨hv, _⟩ | ⟨g, cap, cur, hv, _⟩
  · exact .inl hv
  · exact .inr ⟨_, _, _, hv⟩
theorem map_getD (g : Nat → Nat) (l : List Nat) (i : Nat) (h : i < l.length) : (l.map g).getD i 0 = g (l.getD i 0) := by
  rw [List.getD_eq_getElem?_getD, List.getD_eq_getElem?_getD, List.getElem?_map, List.getElem?_eq_getElem h]
  rfl
set_option maxHeartbeats 4000000 in
set_option maxRecDepth 100000 in
theorem walk (l : List Nat) (p : Option Addr) (cap : Nat) (hu : ∀ q ∈ l, q < 65536) (w : World) (hS : Sl w 1 (.slice p l.length cap) (rowsU .u16 l)) :
    Calls Try.prog 8 #[.slice p l.length cap] w fun e w' => e = .returned (.bool true) ∧ Below w.heap.size w w' := by
  have hSh := fun w => l7_shown w
  have HSh := Lib.hid hSh
  have HS := Lib.hid hS
  clear hSh hS
  by_cases h1 : 100 < l.length
  · have g1 : (100 : Int) < (l.length : Int) := by omega
    go_enter Try.func8, Try.ntmps8
    go_wp2_with (go_at_call 10; (with_reducible refine (HSh.out _).mono ?_); rintro e w1 ⟨rfl, hb1⟩)
    go_ret
    exact ⟨rfl, hb1⟩
  have g1 : ¬ (100 : Int) < (l.length : Int) := by omega
  have hl16 : ∀ i, l.getD i 0 < 65536 := fun i => by
    rcases Nat.lt_or_ge i l.length with h | h
    · exact hu _ (getD_mem _ _ h)
    · rw [List.getD_eq_getElem?_getD, List.getElem?_eq_none h]; decide
  obtain ⟨fr, hfr⟩ : ∃ fr, l.map (fun x : Nat => x % 9) = fr := ⟨_, rfl⟩
  have hfl : fr.length = l.length := by rw [← hfr, List.length_map]
  have hfj : ∀ i, i < l.length → fr.getD i 0 = ((fun x : Nat => x % 9)) (l.getD i 0) := fun i hi => by rw [← hfr]; exact map_getD _ _ _ hi
  have hfo : ∀ i, ¬ i < l.length → fr.getD i 0 = 0 := fun i hi => by rw [List.getD_eq_getElem?_getD, List.getElem?_eq_none (by omega)]; rfl
  have hf8 : ∀ i, fr.getD i 0 ≤ 8 := fun i => by
    by_cases h : i < l.length
    · rw [hfj i h]; show l.getD i 0 % 9 ≤ 8; omega
    · rw [hfo i h]; omega
  have hM := trees_le (show fr.length ≤ 300 by omega) (show 9 ≤ 15 by decide)
  have hmc := mayC_of (show fr.length ≤ 300 by omega) hM (fun i => by have := hf8 i; omega)
  have hP := fun v w hS hn => p_Lengths_yes fr 15 v w (by decide) (by decide) hmc hS hn
  have hfit := lensF_first (k := 20) (fits_few (fr := fr) (lim := 15) (by decide) (by have := treesF_sum hf8; omega))
  rw [hfit] at hP
  have hdo : ∀ i k, i < l.length → k < l.length → 0 < fr.getD k 0 → fr.getD k 0 < fr.getD i 0 → (depthsF fr).getD i 0 ≤ (depthsF fr).getD k 0 := fun i k hi hk h0 h => by
    rw [depthsF_getD (by omega), depthsF_getD (by omega)]
    exact dep_order (by omega) (by omega) h0 h
  have hdl : (depthsF fr).length = l.length := by rw [depthsF_len, hfl]
  have hd1 : ∀ i, fr.getD i 0 ≤ 1000 := fun i => by have := hf8 i; omega
  obtain ⟨L, hL⟩ : ∃ L, depthsF fr = L := ⟨_, rfl⟩
  rw [hL] at hP hdo hdl
  obtain ⟨i0, hi0, hz0, hz1, hz2⟩ := info_parts2 info_int'
  have HP := Lib.hid hP
  have H16 := Lib.hid hl16
  have HFL := Lib.hid hfl
  have HFJ := Lib.hid hfj
  have HDO := Lib.hid hdo
  have HDL := Lib.hid hdl
  have H8 := Lib.hid hf8
  have h100 : l.length ≤ 100 := by omega
  clear h1 hu hl16 hM hmc hP hL hfr hfl hfj hfo hf8 hfit hdo hdl hd1
  go_enter Try.func8, Try.ntmps8
  go_wp2_with (go_at_call 10; (with_reducible refine (HSh.out _).mono ?_); rintro e w1 ⟨rfl, hb1⟩; have k0 := Lib.hid (OwnR.empty w1 w.heap.size 3 1 hb1.size); have kb := Lib.hid (hb1.alloc hb1.size (.cells #[] 3)))
  go_loopw [3, 4] (fun u i wr => ∃ j : Nat, j ≤ l.length ∧ i = .int .i64 (j : Int) ∧ OwnR wr w.heap.size 3 1 u (rowsN (fr.take j)) ∧ Below w.heap.size w wr) (fun _ i _ => l.length - (intOf i).toNat)
  case atStart => exact ⟨0, by omega, rfl, k0.out, kb.out⟩
  case round =>
    obtain ⟨j, hj, rfl, go, gb⟩ := hrel
    clear k0 kb
    by_cases hlt : j < l.length
    · have hS' := HS.out.below gb
      obtain ⟨a, rfl, hc⟩ := SlU.cell hS' hlt
      have d1 : (j : Int) < (l.length : Int) := by omega
      have hq16 := H16.out j
      have hfj := HFJ.out j hlt
      have hsn : rowsN (fr.take (j + 1)) = rowsN (fr.take j) ++ [[.int .i64 ((fr.getD j 0 : Nat) : Int)]] := by rw [take_snoc fr j (by rw [HFL.out]; exact hlt), rowsN_snoc]
      have hrl : (rowsN (fr.take j)).length = j := by rw [rowsN_len, List.length_take, HFL.out]; omega
      rw [hfj] at hsn
      have HSN := Lib.hid hsn
      have HRL := Lib.hid hrl
      obtain ⟨q, hq⟩ : ∃ q, l.getD j 0 = q := ⟨_, rfl⟩
      rw [hq] at hc hq16 HSN
      clear hsn hrl hS' hq hfj
      generalize rowsN (fr.take j) = rows at *
      obtain ⟨y, hy⟩ : ∃ y : Int, (q : Int) % 9 = y := ⟨_, rfl⟩
      have hy' : ((((fun x : Nat => x % 9) q : Nat)) : Int) = y := by rw [← hy]; show ((q % 9 : Nat) : Int) = _; omega
      rw [hy'] at HSN
      have hnb := Blk.new' wr 3 (c := #[.int .i64 ((q : Int) % 9)]) [.int .i64 ((q : Int) % 9)] rfl
      rw [hy] at hnb
      have hnews := sl_one hnb
      have hown := go.alloc (.cells #[.int .i64 y] 3)
      have hlo := go.lt
      have hgb := gb.alloc gb.size (.cells #[.int .i64 y] 3)
      have hbase : w.heap.size ≤ (wr.alloc (.cells #[.int .i64 y] 3)).heap.size := hgb.size
      have hone : ∀ r ∈ [[Value.int .i64 y]], ∀ u ∈ r, u.oneCell' = true := by simp [Value.oneCell']
      have hlen : rows.length + [[Value.int .i64 y]].length ≤ maxLen := by rw [HRL.out, List.length_singleton]; unfold maxLen; omega
      have hby : (rows.length + [[Value.int .i64 y]].length) * 8 ≤ 140737488355328 := by rw [HRL.out, List.length_singleton]; omega
      have HONE := Lib.hid hone
      have HLEN := Lib.hid hlen
      have HBY := Lib.hid hby
      have HOW := Lib.hid hown
      have HNW := Lib.hid hnews
      have HLO := Lib.hid hlo
      have HGB := Lib.hid hgb
      have HBA := Lib.hid hbase
      have HY := Lib.hid hy
      clear hone hlen hby hnb hnews hown hlo hgb hbase go gb hy hy'
      go_wp2_with (first | (rw [HY.out]; refine wpList_append_rows rfl _ _ 22 rfl w.heap.size 3 i0 (.int .i64 0) 1 8 Try.underlying22 hi0 hz0 hz1 hz2 rfl (by decide) _ rows rfl HOW.out (.slice (some ⟨wr.heap.size, 0, none⟩) 1 1) [[.int .i64 y]] rfl HNW.out HONE.out HLEN.out HBY.out HBA.out (.inr ⟨_, _, _, rfl⟩) ?_; intro v' w5 ho5 hg5 hv5; have gb5 := HGB.out.grown hg5 HBA.out (fun k e => (HLO.out k e).1); have GB5 := Lib.hid gb5; have HO5 := Lib.hid ho5; clear hg5 ho5 gb5))
      go_roundw
      case rel => exact ⟨j + 1, by omega, by go_num, by rw [HSN.out]; exact HO5.out, GB5.out⟩
      case measure => simp [intOf]; omega
    · obtain rfl : j = l.length := by omega
      rw [← HFL.out, List.take_length] at go
      have hnil := nil_or go
      have HPv := HP.out _ wr go.sl hnil
      obtain ⟨p5, c5, e5⟩ := go.isSlice
      rw [rowsN_len, HFL.out] at e5
      subst e5
      unfold IntsRet2 at HPv
      rw [HDL.out] at HPv
      have HPv := Lib.hid HPv
      have GO := Lib.hid go
      have GB := Lib.hid gb
      clear go gb hnil hlt HP
      go_wp2_with fail
      refine HPv.out.mono ?_
      rintro e w6 ⟨g, rfl, hg, hsz, hb6⟩
      have GB6 := Lib.hid (GB.out.trans (hb6.mono GB.out.size))
      have GS6 := Lib.hid (GO.out.sl.below hb6)
      have HGB := Lib.hid hg
      clear hb6 hg hsz HPv GB GO
      go_wp2
      go_loopw [7, 8] (fun i k' wr => ∃ j : Nat, j ≤ l.length ∧ i = .int .i64 (j : Int) ∧ Blk wr g 3 (ints .i64 (nn L)) ∧ Sl wr 1 (.slice p5 l.length c5) (rowsN fr) ∧ Below w.heap.size w wr) (fun i _ _ => l.length - (intOf i).toNat)
      case atStart => exact ⟨0, by omega, rfl, HGB.out, GS6.out, GB6.out⟩
      case round =>
        obtain ⟨j, hj, rfl, gL, gF, gb⟩ := hrel
        clear HGB GS6 GB6
        have GL0 := Lib.hid gL
        have GF0 := Lib.hid gF
        have GB0 := Lib.hid gb
        clear gL gF gb
        by_cases hlt : j < l.length
        · have d1 : (j : Int) < (l.length : Int) := by omega
          go_wp2
          go_loopw [8] (fun i wr => ∃ k : Nat, k ≤ l.length ∧ i = .int .i64 (k : Int) ∧ Blk wr g 3 (ints .i64 (nn L)) ∧ Sl wr 1 (.slice p5 l.length c5) (rowsN fr) ∧ Below w.heap.size w wr) (fun i _ => l.length - (intOf i).toNat)
          case atStart => exact ⟨0, by omega, rfl, GL0.out, GF0.out, GB0.out⟩
          case round =>
            obtain ⟨k, hk, rfl, gL, gF, gb⟩ := hrel
            clear GL0 GF0 GB0
            by_cases hlk : k < l.length
            · have d2 : (k : Int) < (l.length : Int) := by omega
              have c1 := gL.nat (j := j) (by rw [HDL.out]; exact hlt)
              have c2 := gL.nat (j := k) (by rw [HDL.out]; exact hlk)
              obtain ⟨a, rfl, c3⟩ := SlN.cell gF (j := j) (by rw [HFL.out]; exact hlt)
              obtain ⟨a', ha', c4⟩ := SlN.cell gF (j := k) (by rw [HFL.out]; exact hlk)
              cases ha'
              have ho := HDO.out j k hlt hlk
              obtain ⟨x1, hx1⟩ : ∃ x1, L.getD j 0 = x1 := ⟨_, rfl⟩
              obtain ⟨x2, hx2⟩ : ∃ x2, L.getD k 0 = x2 := ⟨_, rfl⟩
              obtain ⟨x3, hx3⟩ : ∃ x3, fr.getD j 0 = x3 := ⟨_, rfl⟩
              obtain ⟨x4, hx4⟩ : ∃ x4, fr.getD k 0 = x4 := ⟨_, rfl⟩
              rw [hx1] at c1 ho
              rw [hx2] at c2 ho
              rw [hx3] at c3 ho
              rw [hx4] at c4 ho
              have GL := Lib.hid gL
              have GF := Lib.hid gF
              have GB := Lib.hid gb
              clear gL gF gb hx1 hx2 hx3 hx4
              by_cases e1 : x4 < x3
              · have t1 : (x4 : Int) < (x3 : Int) := by omega
                by_cases e2 : 0 < x4
                · have t2 : (0 : Int) < (x4 : Int) := by omega
                  have h3 := ho e2 e1
                  have t3 : decide ((x2 : Int) < (x1 : Int)) = false := decide_eq_false (by omega)
                  have t3n : decide (x2 < x1) = false := decide_eq_false (by omega)
                  have t2n : decide (0 < x4) = true := decide_eq_true (by omega)
                  clear ho e1 e2 h3
                  go_wp2_with fail
                  go_quiet (fail)
                  go_wp2
                  go_roundw
                  case rel => exact ⟨k + 1, by omega, by go_num, GL.out.drewN _, GF.out.below (below_drewN (Below.refl _ _) _), below_drewN GB.out _⟩
                  case measure => simp [intOf]; omega
                · have t2 : decide ((0 : Int) < (x4 : Int)) = false := decide_eq_false (by omega)
                  have t2n : decide (0 < x4) = false := decide_eq_false (by omega)
                  clear ho e1 e2
                  go_wp2_with fail
                  go_quiet (fail)
                  go_wp2
                  go_roundw
                  case rel => exact ⟨k + 1, by omega, by go_num, GL.out.drewN _, GF.out.below (below_drewN (Below.refl _ _) _), below_drewN GB.out _⟩
                  case measure => simp [intOf]; omega
              · have t1 : decide ((x4 : Int) < (x3 : Int)) = false := decide_eq_false (by omega)
                have t1n : decide (x4 < x3) = false := decide_eq_false (by omega)
                clear ho e1
                go_wp2_with fail
                go_quiet (fail)
                go_wp2
                go_roundw
                case rel => exact ⟨k + 1, by omega, by go_num, GL.out.drewN _, GF.out.below (below_drewN (Below.refl _ _) _), below_drewN GB.out _⟩
                case measure => simp [intOf]; omega
            · obtain rfl : k = l.length := by omega
              have GL := Lib.hid gL
              have GF := Lib.hid gF
              have GB := Lib.hid gb
              clear gL gF gb hlk
              go_wp2
              go_roundw
              case rel => exact ⟨j + 1, by omega, by go_num, GL.out, GF.out, GB.out⟩
              case measure => simp [intOf]; omega
        · obtain rfl : j = l.length := by omega
          clear hlt
          go_wp2
          go_ret
          exact ⟨rfl, GB0.out⟩

set_option maxRecDepth 100000 in
theorem lifted (os : Os) (started : os.Started) (H : Type) (enc : TypeId × Value → H) :
    ReturnsInHanded {} Try.checked os 8 .any (Rows.prefixOrderSpec.pre6 enc Try.prog Try.f8 Rows.prefixOrderRow.domain false) (Rows.prefixOrderSpec.post enc Try.prog Try.f8 false true false false) := by
  refine returnsInHanded_of_change (C := Try.checked) own started (by kernel_rfl) Try.func8
    (ChangeSpec.witness6 (enc := enc) (C := Try.checked) false ⟨#[], #[.slice none 0 0], []⟩ 8 (by kernel_rfl) (by kernel_rfl) (by kernel_rfl) (by kernel_rfl)) ?_
  intro W base args ds gs before hval0 hW hcnd _
  have hval : ∀ (j : Nat) t v, Try.f8.params[j]? = some t → args[j]? = some v → Value.okWide Try.prog W .any base t v := hval0
  have hW' := hW
  obtain ⟨p, q, hA0, hV, rfl, hfz, hnd⟩ := hW
  have hA : DataW.TrodAll enc Try.prog W 0 (fun _ => true) true Try.f8.params.toList args.toList ds p := hA0
  rw [Try.params8] at hA hval
  obtain ⟨v0, vs0, d0, ds0, p0, q0, hargs, rfl, rfl, h0, r0⟩ := trodAll_cons hA
  obtain ⟨rfl, rfl, rfl⟩ := trodAll_nil r0
  obtain rfl : args = #[v0] := by cases args; simp_all
  obtain ⟨rfl, rfl⟩ := trodVars_none hV
  have k0 := h0
  have lt0 : ∀ x ∈ p0, x.block < W.heap.size := by obtain ⟨m, hm⟩ := k0; exact DataW.trod_lt m _ _ _ hm
  obtain ⟨a0, m0, c0, rfl⟩ := Go.WideShapes.okWide_slice Try.underlying51 (hval 0 51 v0 rfl rfl)
  obtain ⟨l0, rfl, S0, n0⟩ := open_u16s h0
  clear hA0 hval0
  simp only [List.append_nil] at hW'
  refine (walk l0 a0 c0 n0 W S0).mono fun e W' ⟨he, bel⟩ => ?_
  subst he
  exact ⟨_, rfl, _, _, _, [], _, [], hW', trodAll_mk1 (shut_bool Try.underlying4 _), (trodAll_cons_mk (Below.trod laidOut (by kernel_rfl) (of_decide_eq_true (by kernel_rfl)) k0 bel lt0) trodAll_mk0), rfl, bel.frame _, fun h => by cases h⟩

theorem over : Rows.prefixOrderRow.holds Try.pinned (OpenSpec.ofChange Rows.prefixOrderSpec) :=
  OpenClaim.holds_of_wide 8 Try.f8 rfl rfl rfl rfl rfl rfl rfl ⟨rfl, rfl, rfl, rfl, rfl⟩ rfl rfl rfl rfl rfl (by kernel_rfl) Try.func8 (by kernel_rfl)
    (of_decide_eq_true (by kernel_rfl)) (by unfold Func.isWrapper; first | (rw [if_pos (by decide +kernel)]; kernel_rfl) | (rw [if_neg (by decide +kernel)]; exact ⟨rfl, rfl⟩))
    (fun os started H enc _ => lifted os started H enc)

theorem proved : Rows.PrefixOrderSaid :=
  over
#print axioms proved
end Go.Proofs.Ytpjdlkbpnodcdaa.prefixOrder
