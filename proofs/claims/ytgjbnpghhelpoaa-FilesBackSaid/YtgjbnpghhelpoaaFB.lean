/- Walks of the reference's Check, Solid and Same over files. -/
import Derived.Test.YtgjbnpghhelpoaaFA
import Derived.Test.YtgjbnpghhelpoaaG3
import Derived.Test.YtgjbnpghhelpoaaG4
namespace Go.Proofs.Ytgjbnpghhelpoaa
open Go.RowKit
set_option linter.unusedVariables false

set_option maxRecDepth 100000 in
set_option maxHeartbeats 2000000 in
theorem fr_Check (l : List (List Nat × List Nat)) (p : Option Addr) (cap n : Nat) (w : World) (hn : checkF l = n) (hbys : ∀ f ∈ l, Bys f.1) (hl : l.length ≤ 1000000) (hS : Sl w 2 (.slice p l.length cap) (rowsF l)) :
    Calls Try.prog 13 #[.slice p l.length cap] w fun e w' => e = .returned (.int .i64 (n : Int)) ∧ Below w.heap.size w w' := by
  have HS := Lib.hid hS
  have HN := Lib.hid hn
  have HY := Lib.hid hbys
  clear hS hn hbys
  by_cases h0 : 12 < l.length
  · have g0 : (12 : Int) < (l.length : Int) := by omega
    have e0 : n = 111 := by rw [← HN.out, check_long h0]
    subst e0
    clear h0
    go_enter Try.func13, Try.ntmps13
    go_wp2
    go_ret
    exact ⟨rfl, Below.refl _ _⟩
  have g0 : ¬ (12 : Int) < (l.length : Int) := by omega
  have h12 : Hid (l.length ≤ 12) := Lib.hid (by omega)
  clear h0
  go_enter Try.func13, Try.ntmps13
  go_wp2
  go_loopw [3] (fun i wr => ∃ j : Nat, j ≤ l.length ∧ i = .int .i64 (j : Int) ∧ (∀ k, k < j → mayF (l.getD k noF) = true) ∧ Below w.heap.size w wr) (fun i _ => l.length - (intOf i).toNat)
  case atStart => exact ⟨0, by omega, rfl, fun k h => by omega, Below.refl _ _⟩
  case round =>
    obtain ⟨j, hj, rfl, hk, gb⟩ := hrel
    have HK := Lib.hid hk
    clear hk
    by_cases hlt : j < l.length
    · obtain ⟨a, rfl, c1, c2⟩ := SlF.fields (HS.out.below gb) hlt
      have d1 : (j : Int) < (l.length : Int) := by omega
      have hm := mayF_iff (l.getD j noF)
      rw [← tx_size (l.getD j noF).1, ← tx_size (l.getD j noF).2] at hm
      have HM := Lib.hid hm
      clear hm
      generalize tx (l.getD j noF).1 = X at *
      generalize tx (l.getD j noF).2 = Y at *
      by_cases hmj : mayF (l.getD j noF) = true
      · have HNX : Hid (∀ k, k < j + 1 → mayF (l.getD k noF) = true) := Lib.hid fun k hk => by
          by_cases e : k = j
          · subst e; exact hmj
          · exact HK.out k (by omega)
        have q := HM.out.1 hmj
        have t1 := tx_some (t := X) (by omega)
        have g1 : ¬ (20 : Int) < (X.size : Int) := by omega
        have g2 : ¬ (300 : Int) < (Y.size : Int) := by omega
        clear HM hmj q
        go_wp2
        go_roundw
        case rel => exact ⟨j + 1, by omega, by go_num, HNX.out, gb⟩
        case measure => simp [intOf]; omega
      · have e0 : n = 111 := by rw [← HN.out, check_bad hlt (by simpa using hmj)]
        subst e0
        by_cases h1 : X.size = 0
        · have t1 := tx_none h1
          clear HM hmj h1
          go_wp2
          go_ret
          exact ⟨rfl, gb⟩
        · have t1 := tx_some h1
          by_cases h2 : 20 < X.size
          · have g1 : (20 : Int) < (X.size : Int) := by omega
            clear HM hmj h1 h2
            go_wp2
            go_ret
            exact ⟨rfl, gb⟩
          · have g1 : ¬ (20 : Int) < (X.size : Int) := by omega
            have g2 : (300 : Int) < (Y.size : Int) := by
              have : ¬ Y.size ≤ 300 := fun h => hmj (HM.out.2 ⟨by omega, by omega, h⟩)
              omega
            clear HM hmj h1 h2
            go_wp2
            go_ret
            exact ⟨rfl, gb⟩
    · obtain rfl : j = l.length := by omega
      have GB0 := Lib.hid gb
      clear gb hlt
      go_wp2
      go_loopw [4] (fun i wr => ∃ j : Nat, 1 ≤ j ∧ (j ≤ l.length ∨ j = 1) ∧ i = .int .i64 (j : Int) ∧ (∀ k, k + 1 < j → ltB (l.getD k noF).1 (l.getD (k + 1) noF).1 = true) ∧ Below w.heap.size w wr) (fun i _ => l.length - (intOf i).toNat)
      case atStart => exact ⟨1, by omega, .inr rfl, rfl, fun k h => by omega, GB0.out⟩
      case round =>
        obtain ⟨j, hj1, hj, rfl, hr, gb⟩ := hrel
        have HR := Lib.hid hr
        clear hr GB0
        by_cases hlt : j < l.length
        · obtain ⟨i, rfl⟩ : ∃ i, j = i + 1 := ⟨j - 1, by omega⟩
          obtain ⟨a, rfl, c1, _⟩ := SlF.fields (HS.out.below gb) (j := i) (by omega)
          obtain ⟨a', ea, c2, _⟩ := SlF.fields (HS.out.below gb) hlt
          cases ea
          have d1 : ((i + 1 : Nat) : Int) < (l.length : Int) := by omega
          have q1 : Bys (l.getD i noF).1 := HY.out _ (getF_mem (by omega))
          have q2 : Bys (l.getD (i + 1) noF).1 := HY.out _ (getF_mem hlt)
          have hless := less_tx (tx (l.getD i noF).1) (tx (l.getD (i + 1) noF).1)
          rw [sl_tx q1, sl_tx q2] at hless
          have HL := Lib.hid hless
          clear q1 q2 hless
          generalize tx (l.getD i noF).1 = X at *
          generalize tx (l.getD (i + 1) noF).1 = Y at *
          have i1 : (i : Int) < (l.length : Int) := by omega
          by_cases hlt2 : ltB (l.getD i noF).1 (l.getD (i + 1) noF).1 = true
          · have g1 : Op.bytesLess X.toList Y.toList = true := by rw [HL.out]; exact hlt2
            have HN2 : Hid (∀ k, k + 1 < i + 1 + 1 → ltB (l.getD k noF).1 (l.getD (k + 1) noF).1 = true) := Lib.hid fun k hk => by
              by_cases e : k = i
              · subst e; exact hlt2
              · exact HR.out k (by omega)
            clear HL hlt2
            go_wp2
            go_quiet (fail)
            go_wp2
            go_roundw
            case rel => exact ⟨i + 2, by omega, .inl (by omega), by go_num, HN2.out, below_drewN gb _⟩
            case measure => simp [intOf]; omega
          · have g1 : Op.bytesLess X.toList Y.toList = false := by rw [HL.out]; simpa using hlt2
            have e0 : n = 110 := by rw [← HN.out, check_falls h12.out HK.out hlt (by simpa using hlt2)]
            subst e0
            clear HL hlt2
            go_wp2
            go_quiet (fail)
            go_wp2
            go_ret
            exact ⟨rfl, below_drewN gb _⟩
        · have d1 : ¬ (j : Int) < (l.length : Int) := by omega
          have e0 : n = 0 := by
            rw [← HN.out]
            exact check_all h12.out HK.out fun i hi => HR.out i (by omega)
          subst e0
          go_wp2
          go_ret
          exact ⟨rfl, gb⟩
theorem solid_snoc (l : List (List Nat × List Nat)) {j : Nat} (h : j < l.length) : solidF (l.take (j + 1)) = solidF (l.take j) ++ (l.getD j noF).2 := by
  unfold solidF
  rw [List.take_succ_eq_append_getElem h, List.flatMap_append, List.getD_eq_getElem?_getD, List.getElem?_eq_getElem h]
  simp
theorem solid_take (l : List (List Nat × List Nat)) {n : Nat} (h : ∀ f ∈ l, f.2.length ≤ n) (j : Nat) : (solidF (l.take j)).length ≤ n * l.length := by
  have h1 := solid_len (l := l.take j) (n := n) fun f hf => h f (List.mem_of_mem_take hf)
  have h2 : n * (l.take j).length ≤ n * l.length := Nat.mul_le_mul_left _ (by rw [List.length_take]; omega)
  omega
set_option maxRecDepth 100000 in
set_option maxHeartbeats 1000000 in
theorem fr_Solid (l : List (List Nat × List Nat)) (p : Option Addr) (cap : Nat) (w : World) (hl : l.length ≤ 1000) (hd : ∀ f ∈ l, f.2.length ≤ 100000) (hS : Sl w 2 (.slice p l.length cap) (rowsF l)) :
    Calls Try.prog 15 #[.slice p l.length cap] w fun e w' => e = .returned (.string (tx (solidF l))) ∧ Below w.heap.size w w' := by
  have HS := Lib.hid hS
  have HD := Lib.hid hd
  clear hS hd
  go_enter Try.func15, Try.ntmps15
  go_wp2
  go_loopw [3, 4] (fun u i wr => ∃ j : Nat, j ≤ l.length ∧ i = .int .i64 (j : Int) ∧ u = .string (tx (solidF (l.take j))) ∧ Below w.heap.size w wr) (fun _ i _ => l.length - (intOf i).toNat)
  case atStart => exact ⟨0, by omega, rfl, rfl, Below.refl _ _⟩
  case round =>
    obtain ⟨j, hj, rfl, rfl, gb⟩ := hrel
    by_cases hlt : j < l.length
    · obtain ⟨a, rfl, c1, c2⟩ := SlF.fields (HS.out.below gb) hlt
      have d1 : (j : Int) < (l.length : Int) := by omega
      have hs := solid_snoc l hlt
      have h1 := solid_take l HD.out j
      have h2 := HD.out _ (getF_mem hlt)
      have HE : Hid (tx (solidF (l.take (j + 1))) = tx (solidF (l.take j)) ++ tx (l.getD j noF).2) := Lib.hid (by rw [hs, tx_app])
      rw [← tx_size] at h1 h2
      generalize tx (solidF (l.take j)) = U at *
      generalize tx (l.getD j noF).2 = Y at *
      have hadd := fun w' => run_string_add_sum (P := Try.prog) w' U Y (by omega)
      clear hs h1 h2
      go_wp2
      go_roundw
      case rel => exact ⟨j + 1, by omega, by go_num, by rw [HE.out], gb⟩
      case measure => simp [intOf]; omega
    · obtain rfl : j = l.length := by omega
      go_wp2
      go_ret
      refine ⟨?_, gb⟩
      show Ending.returned (.string (tx (solidF (l.take l.length)))) = _
      rw [List.take_length]
end Go.Proofs.Ytgjbnpghhelpoaa
namespace Go.Proofs.Ytgjbnpghhelpoaa
open Go.RowKit
set_option linter.unusedVariables false

/-- whole numbers as rows -/
def rowsZ (l : List Int) : List (List Value) := l.map fun q => [.int .i64 q]
theorem rowsZ_len (l : List Int) : (rowsZ l).length = l.length := by simp [rowsZ]
theorem rowsZ_at {l : List Int} {j : Nat} (h : j < l.length) : (rowsZ l)[j]? = some [.int .i64 (l.getD j 0)] := by simp [rowsZ, h]
theorem rowsZ_snoc (l : List Int) (x : Int) : rowsZ (l ++ [x]) = rowsZ l ++ [[.int .i64 x]] := by simp [rowsZ]
theorem SlZ.cell {w : World} {p : Option Addr} {n cap : Nat} {l : List Int} (h : Sl w 1 (.slice p n cap) (rowsZ l)) {j : Nat} (hj : j < l.length) : ∃ a : Addr, p = some a ∧ w.cell? (a.add j) = some (.int .i64 (l.getD j 0)) := by
  obtain ⟨a, e, hc⟩ := h.row (rowsZ_at hj)
  exact ⟨a, e, by have := hc 0 _ rfl; rw [Nat.mul_one] at this; exact this⟩
theorem rowsS_snoc (l : List (List Nat)) (x : List Nat) : rowsS (l ++ [x]) = rowsS l ++ [[.string (tx x)]] := by simp [rowsS]
theorem names_snoc (l : List (List Nat × List Nat)) {j : Nat} (h : j < l.length) : namesF (l.take (j + 1)) = namesF (l.take j) ++ [(l.getD j noF).1] := by
  unfold namesF
  rw [List.take_succ_eq_append_getElem h, List.map_append, List.getD_eq_getElem?_getD, List.getElem?_eq_getElem h]
  rfl
theorem sizes_snoc (l : List (List Nat × List Nat)) {j : Nat} (h : j < l.length) : sizesF (l.take (j + 1)) = sizesF (l.take j) ++ [((l.getD j noF).2.length : Int)] := by
  unfold sizesF
  rw [List.take_succ_eq_append_getElem h, List.map_append, List.getD_eq_getElem?_getD, List.getElem?_eq_getElem h]
  rfl
theorem names_len (l : List (List Nat × List Nat)) : (namesF l).length = l.length := by simp [namesF]
theorem sizes_len (l : List (List Nat × List Nat)) : (sizesF l).length = l.length := by simp [sizesF]
def NamesRet (l : List (List Nat × List Nat)) (w : World) (e : Ending) (w' : World) : Prop :=
  ∃ v u, e = .returned (.tuple #[v, u]) ∧ OwnR w' w.heap.size 9 1 v (rowsS (namesF l)) ∧ OwnR w' w.heap.size 3 1 u (rowsZ (sizesF l)) ∧ Below w.heap.size w w'
set_option maxRecDepth 100000 in
set_option maxHeartbeats 2000000 in
theorem fr_Names (l : List (List Nat × List Nat)) (p : Option Addr) (cap : Nat) (w : World) (hl : l.length ≤ 1000000) (hS : Sl w 2 (.slice p l.length cap) (rowsF l)) :
    Calls Try.prog 11 #[.slice p l.length cap] w (NamesRet l w) := by
  obtain ⟨i0, hi0, hz0, hz1, hz2⟩ := info_parts2 info_str
  obtain ⟨i1, hi1, hy0, hy1, hy2⟩ := info_parts2 info_intK
  have HS := Lib.hid hS
  have k1 := (OwnR.empty w w.heap.size 9 1 (Nat.le_refl _)).alloc (.cells #[] 3)
  have kb := ((Below.refl w.heap.size w).alloc (Nat.le_refl _) (.cells #[] 9)).alloc (by simp) (.cells #[] 3)
  have k2 := (OwnR.empty (w.alloc (.cells #[] 9)) (w.alloc (.cells #[] 9)).heap.size 3 1 (Nat.le_refl _)).lower (base' := w.heap.size) (by simp)
  simp only [World.size_alloc] at k2
  have K1 := Lib.hid k1
  have K2 := Lib.hid k2
  have KB := Lib.hid kb
  clear hS k1 k2 kb
  go_enter Try.func11, Try.ntmps11
  go_wp2
  go_loopw [4, 5, 6] (fun u v i wr => ∃ j : Nat, j ≤ l.length ∧ i = .int .i64 (j : Int) ∧ OwnR wr w.heap.size 9 1 u (rowsS (namesF (l.take j))) ∧ OwnR wr w.heap.size 3 1 v (rowsZ (sizesF (l.take j))) ∧ Below w.heap.size w wr) (fun _ _ i _ => l.length - (intOf i).toNat)
  case atStart => exact ⟨0, by omega, rfl, K1.out, K2.out, KB.out⟩
  case round =>
    obtain ⟨j, hj, rfl, go1, go2, gb⟩ := hrel
    clear K1 K2 KB
    by_cases hlt : j < l.length
    · have d1 : (j : Int) < (l.length : Int) := by omega
      have hcs : ∀ wx, Below w.heap.size w wx → ∃ a : Addr, p = some a ∧ wx.cell? (a.add (j * 2)) = some (.string (tx (l.getD j noF).1)) ∧ wx.cell? ⟨(a.add (j * 2)).block, (a.add (j * 2)).off + 1, none⟩ = some (.string (tx (l.getD j noF).2)) := fun wx hb => SlF.fields (HS.out.below hb) hlt
      obtain ⟨a, rfl, c1, _⟩ := hcs wr gb
      have hc2 : ∀ wx, Below w.heap.size w wx → wx.cell? ⟨(a.add (j * 2)).block, (a.add (j * 2)).off + 1, none⟩ = some (.string (tx (l.getD j noF).2)) := fun wx hb => by
        obtain ⟨a', e, _, h⟩ := hcs wx hb
        cases e
        exact h
      have e1 : rowsS (namesF (l.take (j + 1))) = rowsS (namesF (l.take j)) ++ [[.string (tx (l.getD j noF).1)]] := by rw [names_snoc l hlt, rowsS_snoc]
      have e2 : rowsZ (sizesF (l.take (j + 1))) = rowsZ (sizesF (l.take j)) ++ [[.int .i64 ((tx (l.getD j noF).2).size : Int)]] := by rw [sizes_snoc l hlt, rowsZ_snoc, tx_size]
      have l1 : (rowsS (namesF (l.take j))).length = j := by rw [rowsS_len, names_len, List.length_take]; omega
      have l2 : (rowsZ (sizesF (l.take j))).length = j := by rw [rowsZ_len, sizes_len, List.length_take]; omega
      have E1 := Lib.hid e1
      have E2 := Lib.hid e2
      have L1 := Lib.hid l1
      have L2 := Lib.hid l2
      have HC2 := Lib.hid hc2
      clear e1 e2 l1 l2 hc2 hcs
      generalize rowsS (namesF (l.take j)) = R1 at *
      generalize rowsZ (sizesF (l.take j)) = R2 at *
      generalize tx (l.getD j noF).1 = X at *
      generalize tx (l.getD j noF).2 = Y at *
      have hnb := Blk.new' wr 9 (c := #[.string X]) [.string X] rfl
      have HNW := Lib.hid (sl_one hnb)
      have HLO := Lib.hid go1.lt
      have HLV := Lib.hid go2.lt
      have HOW := Lib.hid (go1.alloc (.cells #[.string X] 9))
      have HOV := Lib.hid (go2.alloc (.cells #[.string X] 9))
      have hgb := gb.alloc gb.size (.cells #[.string X] 9)
      have HBA := Lib.hid hgb.size
      have HGB := Lib.hid hgb
      have HONE : Hid (∀ r ∈ [[Value.string X]], ∀ u ∈ r, u.oneCell' = true) := Lib.hid (by simp [Value.oneCell'])
      have HLEN : Hid (R1.length + [[Value.string X]].length ≤ maxLen) := Lib.hid (by rw [L1.out, List.length_singleton]; unfold maxLen; omega)
      have HBY : Hid ((R1.length + [[Value.string X]].length) * 16 ≤ 140737488355328) := Lib.hid (by rw [L1.out, List.length_singleton]; omega)
      have HONE2 : Hid (∀ r ∈ [[Value.int .i64 (Y.size : Int)]], ∀ u ∈ r, u.oneCell' = true) := Lib.hid (by simp [Value.oneCell'])
      have HLEN2 : Hid (R2.length + [[Value.int .i64 (Y.size : Int)]].length ≤ maxLen) := Lib.hid (by rw [L2.out, List.length_singleton]; unfold maxLen; omega)
      have HBY2 : Hid ((R2.length + [[Value.int .i64 (Y.size : Int)]].length) * 8 ≤ 140737488355328) := Lib.hid (by rw [L2.out, List.length_singleton]; omega)
      clear hnb hgb
      obtain ⟨pu, cu, rfl⟩ := go1.isSlice
      obtain ⟨pv, cv, rfl⟩ := go2.isSlice
      clear go1 go2 gb
      go_wp2_with (first | (refine wpList_append_rows rfl _ _ 25 rfl w.heap.size 9 i0 (.string ⟨#[]⟩) 1 16 Try.underlying25 hi0 hz0 hz1 hz2 rfl (by decide) _ R1 rfl HOW.out (.slice (some ⟨wr.heap.size, 0, none⟩) 1 1) [[.string X]] rfl HNW.out HONE.out HLEN.out HBY.out HBA.out (.inr ⟨_, _, _, rfl⟩) ?_; intro v5 w5 ho5 hg5 hv5; have gb5 := HGB.out.grown hg5 HBA.out (fun k e => (HLO.out k e).1); have c2 := HC2.out w5 gb5; have ov5 := HOV.out.grownO hg5 (HOV.out.apart HOW.out (by decide)); have HNW5 := Lib.hid (sl_one (Blk.new' w5 3 (c := #[.int .i64 (Y.size : Int)]) [.int .i64 (Y.size : Int)] rfl)); have HOV5 := Lib.hid (ov5.alloc (.cells #[.int .i64 (Y.size : Int)] 3)); have HO5 := Lib.hid (ho5.alloc (.cells #[.int .i64 (Y.size : Int)] 3)); have hgb5 := gb5.alloc gb5.size (.cells #[.int .i64 (Y.size : Int)] 3); have HBA5 := Lib.hid hgb5.size; have HGB5 := Lib.hid hgb5; clear gb5 ov5 ho5 hg5 hgb5) | (refine wpList_append_rows rfl _ _ 26 rfl w.heap.size 3 i1 (.int .i64 0) 1 8 Try.underlying26 hi1 hy0 hy1 hy2 rfl (by decide) _ R2 rfl HOV5.out (.slice (some ⟨w5.heap.size, 0, none⟩) 1 1) [[.int .i64 (Y.size : Int)]] rfl HNW5.out HONE2.out HLEN2.out HBY2.out HBA5.out (.inr ⟨_, _, _, rfl⟩) ?_; intro v6 w6 ho6 hg6 hv6; have GB6 := Lib.hid (HGB5.out.grown hg6 HBA5.out (fun k e => (HLV.out k e).1)); have HU6 := Lib.hid (HO5.out.grownO hg6 (HO5.out.apart HOV5.out (by decide))); have HV6 := Lib.hid ho6; clear hg6 ho6))
      go_roundw
      case rel => exact ⟨j + 1, by omega, by go_num, by rw [E1.out]; exact HU6.out, by rw [E2.out]; exact HV6.out, GB6.out⟩
      case measure => simp [intOf]; omega
    · obtain rfl : j = l.length := by omega
      rw [List.take_length] at go1 go2
      have HO1 := Lib.hid go1
      have HO2 := Lib.hid go2
      clear go1 go2
      go_wp2
      go_ret2
      exact ⟨_, _, rfl, HO1.out, HO2.out, gb⟩
end Go.Proofs.Ytgjbnpghhelpoaa
namespace Go.Proofs.Ytgjbnpghhelpoaa
open Go.RowKit
set_option linter.unusedVariables false

set_option maxRecDepth 100000 in
set_option maxHeartbeats 1000000 in
theorem fr_Same (l : List (List Nat × List Nat)) (p q : Option Addr) (c d : Nat) (w : World) (hl : l.length ≤ 1000000) (hP : Sl w 2 (.slice p l.length c) (rowsF l)) (hQ : Sl w 2 (.slice q l.length d) (rowsF l)) :
    Calls Try.prog 21 #[.slice p l.length c, .slice q l.length d] w fun e w' => e = .returned (.bool true) ∧ Below w.heap.size w w' := by
  have HP := Lib.hid hP
  have HQ := Lib.hid hQ
  clear hP hQ
  go_enter Try.func21, Try.ntmps21
  go_wp2
  go_loopw [5] (fun i wr => ∃ j : Nat, j ≤ l.length ∧ i = .int .i64 (j : Int) ∧ Below w.heap.size w wr) (fun i _ => l.length - (intOf i).toNat)
  case atStart => exact ⟨0, by omega, rfl, Below.refl _ _⟩
  case round =>
    obtain ⟨j, hj, rfl, gb⟩ := hrel
    by_cases hlt : j < l.length
    · have d1 : (j : Int) < (l.length : Int) := by omega
      obtain ⟨a, rfl, _⟩ := (HP.out.below gb).row (rowsF_at hlt)
      obtain ⟨b, rfl, _⟩ := (HQ.out.below gb).row (rowsF_at hlt)
      have h1 : ∀ wx, (∃ m, wx = wr.drewN m) → ∀ i v, (rowF (l.getD j noF))[i]? = some v → wx.cell? ((a.add (j * 2)).add i) = some v := fun wx hx => by
        obtain ⟨k, rfl⟩ := hx
        obtain ⟨a', e, hc⟩ := (HP.out.below (below_drewN gb k)).row (rowsF_at hlt)
        cases e
        exact hc
      have h2 : ∀ wx, (∃ m, wx = wr.drewN m) → ∀ i v, (rowF (l.getD j noF))[i]? = some v → wx.cell? ((b.add (j * 2)).add i) = some v := fun wx hx => by
        obtain ⟨k, rfl⟩ := hx
        obtain ⟨a', e, hc⟩ := (HQ.out.below (below_drewN gb k)).row (rowsF_at hlt)
        cases e
        exact hc
      have H1 := Lib.hid h1
      have H2 := Lib.hid h2
      clear h1 h2
      have g1 := txt_same (tx (l.getD j noF).1)
      have g2 := txt_same (tx (l.getD j noF).2)
      unfold rowF at H1 H2
      generalize tx (l.getD j noF).1 = X at *
      generalize tx (l.getD j noF).2 = Y at *
      have GB := Lib.hid gb
      clear gb
      go_wp2_with fail
      refine region_drew_tail 8 mixed (by kernel_rfl) ?_
      simp only [List.take_succ_cons, List.take_zero, List.drop_succ_cons, List.drop_zero]
      repeat (first | (refine wpQuiet_load_addr rfl 40 _ rfl (a.add (j * 2)) rfl [.string X, .string Y] H1.out Try.underlying40 rfl size_file ?_) | (refine wpQuiet_load_addr rfl 40 _ rfl (b.add (j * 2)) rfl [.string X, .string Y] H2.out Try.underlying40 rfl size_file ?_) | (refine wpQuiet_step (fun K' hK' => ?_); go_simp; first | (refine hK' _ ?_; clear hK' K') | (refine ⟨_, fun _ _ => rfl, hK' _ ?_⟩; clear hK' K')))
      refine wpQuiet_nil ?_
      rintro w7 ⟨k7, rfl⟩
      have HD7 := Lib.hid (below_drewN GB.out k7)
      go_wp2
      go_roundw
      case rel => exact ⟨j + 1, by omega, by go_num, HD7.out⟩
      case measure => (simp [intOf]; try omega)
    · obtain rfl : j = l.length := by omega
      go_wp2
      go_ret
      exact ⟨rfl, gb⟩
theorem pcs_le (s : List Nat) : pcs s ≤ s.length := by unfold pcs; omega
theorem pcs_lt {s : List Nat} {k : Nat} : k < pcs s ↔ 256 * k < s.length := by unfold pcs; omega
theorem piece_tx (s : ByteArray) (k N : Nat) (hN : N = min (256 * k + 256) s.size) : s.extract (256 * k) N = tx (pieceF (sl s) k) := by
  subst hN
  have h1 : s.extract (256 * k) (min (256 * k + 256) s.size) = tx (sl (s.extract (256 * k) (min (256 * k + 256) s.size))) := (tx_sl _).symm
  rw [h1]
  congr 1
  unfold pieceF sl
  rw [ByteArray.data_extract, Array.toList_extract, List.extract_eq_take_drop, List.map_take, List.map_drop]
  apply List.ext_getElem?
  intro i
  rw [List.getElem?_take, List.getElem?_take]
  by_cases h : i < 256
  · rw [if_pos h]
    by_cases h2 : 256 * k + i < s.size
    · rw [if_pos (by omega)]
    · rw [List.getElem?_drop, List.getElem?_eq_none (by simp; omega)]
      split <;> rfl
  · rw [if_neg h, if_neg (by omega)]
theorem cut_snoc (s : List Nat) (k : Nat) : (List.range (k + 1)).map (pieceF s) = (List.range k).map (pieceF s) ++ [pieceF s k] := by rw [List.range_succ, List.map_append]; rfl
set_option maxRecDepth 100000 in
set_option maxHeartbeats 1000000 in
theorem fr_Cut (s : ByteArray) (w : World) (hs : s.size ≤ 10000000) :
    Calls Try.prog 18 #[.string s] w (OwnRetR 9 1 (rowsS (cutF (sl s))) w) := by
  obtain ⟨i0, hi0, hz0, hz1, hz2⟩ := info_parts2 info_str
  have K0 := Lib.hid (OwnR.empty w w.heap.size 9 1 (Nat.le_refl _))
  have KB := Lib.hid ((Below.refl w.heap.size w).alloc (Nat.le_refl _) (.cells #[] 9))
  go_enter Try.func18, Try.ntmps18
  go_wp2
  go_loopw [3, 4] (fun u i wr => ∃ k : Nat, k ≤ pcs (sl s) ∧ i = .int .i64 ((256 * k : Nat) : Int) ∧ OwnR wr w.heap.size 9 1 u (rowsS ((List.range k).map (pieceF (sl s)))) ∧ Below w.heap.size w wr) (fun _ i _ => s.size + 256 - (intOf i).toNat)
  case atStart => exact ⟨0, by omega, rfl, K0.out, KB.out⟩
  case round =>
    obtain ⟨k, hk, rfl, go1, gb⟩ := hrel
    clear K0 KB
    have hz := sl_len s
    by_cases hlt : k < pcs (sl s)
    · have hlt2 := pcs_lt.1 hlt
      rw [hz] at hlt2
      obtain ⟨i, hi⟩ : ∃ i, 256 * k = i := ⟨_, rfl⟩
      obtain ⟨N, hN⟩ : ∃ N, N = min (256 * k + 256) s.size := ⟨_, rfl⟩
      have hp := piece_tx s k N hN
      have e1 : rowsS ((List.range (k + 1)).map (pieceF (sl s))) = rowsS ((List.range k).map (pieceF (sl s))) ++ [[.string (tx (pieceF (sl s) k))]] := by rw [cut_snoc, rowsS_snoc]
      have l1 : (rowsS ((List.range k).map (pieceF (sl s)))).length = k := by rw [rowsS_len]; simp
      have hkz : k ≤ s.size := by omega
      rw [hi] at hlt2 hN hp ⊢
      have E1 := Lib.hid e1
      have L1 := Lib.hid l1
      clear e1 l1
      generalize rowsS ((List.range k).map (pieceF (sl s))) = R1 at *
      generalize tx (pieceF (sl s) k) = X at *
      have d1 : (i : Int) < (s.size : Int) := by omega
      have hmn : (if (s.size : Int) < (i : Int) + 256 then (s.size : Int) else (i : Int) + 256) = (N : Int) := by split <;> omega
      have i1 : (i : Int) ≤ (N : Int) := by omega
      have i2 : (N : Int) ≤ (s.size : Int) := by omega
      have HMN := Lib.hid hmn
      have HI := Lib.hid hi
      have hnb := Blk.new' wr 9 (c := #[.string X]) [.string X] rfl
      have HNW := Lib.hid (sl_one hnb)
      have HLO := Lib.hid go1.lt
      have HOW := Lib.hid (go1.alloc (.cells #[.string X] 9))
      have hgb := gb.alloc gb.size (.cells #[.string X] 9)
      have HBA := Lib.hid hgb.size
      have HGB := Lib.hid hgb
      have HONE : Hid (∀ r ∈ [[Value.string X]], ∀ u ∈ r, u.oneCell' = true) := Lib.hid (by simp [Value.oneCell'])
      have HLEN : Hid (R1.length + [[Value.string X]].length ≤ maxLen) := Lib.hid (by rw [L1.out, List.length_singleton]; unfold maxLen; omega)
      have HBY : Hid ((R1.length + [[Value.string X]].length) * 16 ≤ 140737488355328) := Lib.hid (by rw [L1.out, List.length_singleton]; omega)
      clear hnb hgb hmn hN hi
      obtain ⟨pu, cu, rfl⟩ := go1.isSlice
      clear go1 gb
      go_wp2_with (first | (refine wpList_min2 rfl _ _ 3 rfl _ _ (N : Int) rfl rfl HMN.out ?_) | (refine wpList_append_rows rfl _ _ 25 rfl w.heap.size 9 i0 (.string ⟨#[]⟩) 1 16 Try.underlying25 hi0 hz0 hz1 hz2 rfl (by decide) _ R1 rfl HOW.out (.slice (some ⟨wr.heap.size, 0, none⟩) 1 1) [[.string X]] rfl HNW.out HONE.out HLEN.out HBY.out HBA.out (.inr ⟨_, _, _, rfl⟩) ?_; intro v5 w5 ho5 hg5 hv5; have GB5 := Lib.hid (HGB.out.grown hg5 HBA.out (fun k e => (HLO.out k e).1)); have HO5 := Lib.hid ho5; clear ho5 hg5))
      go_roundw
      case rel => exact ⟨k + 1, by omega, by rw [show 256 * (k + 1) = i + 256 by have := HI.out; omega]; go_num, by rw [E1.out]; exact HO5.out, GB5.out⟩
      case measure => simp [intOf]; omega
    · obtain rfl : k = pcs (sl s) := by omega
      have d1 : ¬ (((256 * pcs (sl s) : Nat) : Int)) < (s.size : Int) := by
        have : ¬ 256 * pcs (sl s) < (sl s).length := fun h => hlt (pcs_lt.2 h)
        omega
      have HO1 := Lib.hid go1
      clear go1
      generalize 256 * pcs (sl s) = m at *
      go_wp2
      go_ret
      exact ⟨_, rfl, HO1.out, gb⟩
end Go.Proofs.Ytgjbnpghhelpoaa
