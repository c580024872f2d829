/-
  For all frequencies and symbols: symbols that are packed by a code are read by it, in order. Longer lists than the bounds are answered by the case shown alone. No condition.
-/
import Derived.Test.YtpjdlkbpnodcdaaRows
import Derived.Test.YtpjdlkbpnodcdaaPFacts
import Derived.Test.YtpjdlkbpnodcdaaPOpen
import Derived.Test.YtpjdlkbpnodcdaaPLawG
import Derived.ShutString
import Derived.ChangeOld
namespace Go.Proofs.Ytpjdlkbpnodcdaa.prefixBack
open Go.ChangeShapes Go.WideShapes Go.ChangeAt Go.RowKit
open Go.ChangeMaps (open_string shut_string)
set_option linter.unusedVariables false

theorem info_int' : (Try.prog.info? 3).map (fun i => (i.zero, i.size, i.bytes)) = some (some (.int .i64 0), 1, 8) := by kernel_rfl
theorem nil_or {w : World} {base : Nat} {e : TypeId} {k : Nat} {v : Value} {rows : List (List Value)} (h : OwnR w base e k v rows) : v = .slice none 0 0 ∨ ∃ ad n c, v = .slice (some ad) n c := by
  rcases h.2.2 with ⟨hv, _⟩ | ⟨g, cap, cur, hv, _⟩
  · exact .inl hv
  · exact .inr ⟨_, _, _, hv⟩
theorem map_getD (g : Nat → Nat) (l : List Nat) (i : Nat) (h : i < l.length) : (l.map g).getD i 0 = g (l.getD i 0) := by
  rw [List.getD_eq_getElem?_getD, List.getD_eq_getElem?_getD, List.getElem?_map, List.getElem?_eq_getElem h]
  rfl
/-- the pieces of symbols -/
def psB (L sy : List Nat) (n : Nat) : List (Nat × Int) := sy.map fun q => (codeW L (q % n), ((L.getD (q % n) 0 : Nat) : Int))
theorem psB_len (L sy : List Nat) (n : Nat) : (psB L sy n).length = sy.length := by simp [psB]
theorem psB_may {L sy : List Nat} {n : Nat} (h15 : ∀ i, L.getD i 0 ≤ 15) : ∀ q ∈ psB L sy n, mayP q := fun q hq => by
  obtain ⟨x, _, rfl⟩ := List.mem_map.1 hq
  have := h15 (x % n)
  exact ⟨by show (0 : Int) ≤ ((_ : Nat) : Int); omega, by show ((_ : Nat) : Int) ≤ 24; omega, by simpa using codeW_lt L (x % n)⟩
theorem psB_get {L sy : List Nat} {n j : Nat} (h : j < sy.length) : (psB L sy n)[j]'(by rw [psB_len]; exact h) = (codeW L (sy.getD j 0 % n), ((L.getD (sy.getD j 0 % n) 0 : Nat) : Int)) := by
  simp [psB, h]
theorem psB_snoc {L sy : List Nat} {n j : Nat} (h : j < sy.length) : (psB L sy n).take (j + 1) = (psB L sy n).take j ++ [(codeW L (sy.getD j 0 % n), ((L.getD (sy.getD j 0 % n) 0 : Nat) : Int))] := by
  rw [List.take_succ_eq_append_getElem (by rw [psB_len]; exact h), psB_get h]
theorem sizeP_one {q : Nat × Int} (h : mayP q) : sizeP [q] = q.2.toNat := by
  unfold sizeP
  rw [List.map_cons, List.map_nil, List.sum_cons, List.sum_nil, if_pos h, Nat.add_zero]
theorem psB_told {L sy : List Nat} {n j : Nat} (hn : L.length = n) (n0 : 0 < n) (h0 : ∀ i, i < n → 0 < L.getD i 0) (h15 : ∀ i, L.getD i 0 ≤ 15) (hK : kraftW L ≤ 2 ^ 15) (h : j < sy.length) :
    toldW L (bytesB (bitsP (psB L sy n))) (sizeP ((psB L sy n).take j)) 15 1 = (sy.getD j 0 % n, 0, sizeP ((psB L sy n).take (j + 1))) := by
  have hm := psB_may (sy := sy) (n := n) h15
  have hi : sy.getD j 0 % n < n := Nat.mod_lt _ n0
  have hl : j < (psB L sy n).length := by rw [psB_len]; exact h
  have e : psB L sy n = (psB L sy n).take j ++ (codeW L (sy.getD j 0 % n), ((L.getD (sy.getD j 0 % n) 0 : Nat) : Int)) :: (psB L sy n).drop (j + 1) := by
    rw [← psB_get h, ← List.drop_eq_getElem_cons hl, List.take_append_drop]
  have hnum := take_pack (a := (psB L sy n).take j) (p := (codeW L (sy.getD j 0 % n), ((L.getD (sy.getD j 0 % n) 0 : Nat) : Int))) (b := (psB L sy n).drop (j + 1)) (by rw [← e]; exact hm)
  rw [← e] at hnum
  have hs1 : sizeP ((psB L sy n).take (j + 1)) = sizeP ((psB L sy n).take j) + L.getD (sy.getD j 0 % n) 0 := by
    rw [psB_snoc h, sizeP_app]
    have hmq := hm _ (List.getElem_mem hl)
    rw [psB_get h] at hmq
    rw [sizeP_one hmq]
    rfl
  have hle := sizeP_take (psB L sy n) (j + 1)
  have hlen := size_pack hm
  rw [hs1]
  exact toldW_word (by omega) (h0 _ hi) h15 hK hnum (by rw [hlen]; omega) 15 1 (by omega) (h0 _ hi) (by have := h15 (sy.getD j 0 % n); omega)
theorem rowsP_snoc1 (l : List (Nat × Int)) (q : Nat × Int) : rowsP (l ++ [q]) = rowsP l ++ [rowP q] := by simp [rowsP]
theorem info_piece' : (Try.prog.info? 39).map (fun i => (i.zero, i.size, i.bytes)) = some (some (.agg #[.int .u32 0, .int .i64 0]), 2, 16) := by kernel_rfl
set_option maxHeartbeats 4000000 in
set_option maxRecDepth 100000 in
theorem walk (l : List Nat) (p : Option Addr) (cap : Nat) (sy : List Nat) (ps : Option Addr) (caps : Nat) (hu : ∀ q ∈ l, q < 65536) (hsy : ∀ q ∈ sy, q < 256) (w : World) (hS : Sl w 1 (.slice p l.length cap) (rowsU .u16 l)) (hT : Sl w 1 (.slice ps sy.length caps) (rowsU .u8 sy)) :
    Calls Try.prog 7 #[.slice p l.length cap, .slice ps sy.length caps] w fun e w' => e = .returned (.bool true) ∧ Below w.heap.size w w' := by
  have hSh := fun w => l7_shown w
  have HSh := Lib.hid hSh
  have HS := Lib.hid hS
  have HT := Lib.hid hT
  clear hSh hS hT
  by_cases h1 : 300 < l.length
  · have g1 : (300 : Int) < (l.length : Int) := by omega
    go_enter Try.func7, Try.ntmps7
    go_wp2_with (go_at_call 10; (with_reducible refine (HSh.out _).mono ?_); rintro e w1 ⟨rfl, hb1⟩)
    go_ret
    exact ⟨rfl, hb1⟩
  have g1 : ¬ (300 : Int) < (l.length : Int) := by omega
  by_cases h2 : 200 < sy.length
  · have g2 : (200 : Int) < (sy.length : Int) := by omega
    go_enter Try.func7, Try.ntmps7
    go_wp2_with (go_at_call 10; (with_reducible refine (HSh.out _).mono ?_); rintro e w1 ⟨rfl, hb1⟩)
    go_ret
    exact ⟨rfl, hb1⟩
  have g2 : ¬ (200 : Int) < (sy.length : Int) := by omega
  have hl16 : ∀ i, l.getD i 0 < 65536 := fun i => by
    rcases Nat.lt_or_ge i l.length with h | h
    · exact hu _ (getD_mem _ _ h)
    · rw [List.getD_eq_getElem?_getD, List.getElem?_eq_none h]; decide
  obtain ⟨fr, hfr⟩ : ∃ fr, l.map (fun x : Nat => x + 1) = fr := ⟨_, rfl⟩
  have hfl : fr.length = l.length := by rw [← hfr, List.length_map]
  have hfj : ∀ i, i < l.length → fr.getD i 0 = ((fun x : Nat => x + 1)) (l.getD i 0) := fun i hi => by rw [← hfr]; exact map_getD _ _ _ hi
  have hfo : ∀ i, ¬ i < l.length → fr.getD i 0 = 0 := fun i hi => by rw [List.getD_eq_getElem?_getD, List.getElem?_eq_none (by omega)]; rfl
  have hf1 : ∀ i, i < fr.length → 0 < fr.getD i 0 := fun i h => by rw [hfj i (by omega)]; show 0 < l.getD i 0 + 1; omega
  have hf8 : ∀ i, fr.getD i 0 ≤ 65536 := fun i => by
    by_cases h : i < l.length
    · rw [hfj i h]; have := hl16 i; show l.getD i 0 + 1 ≤ 65536; omega
    · rw [hfo i h]; omega
  have hM := trees_le (show fr.length ≤ 300 by omega) (show 9 ≤ 15 by decide)
  have hmc := mayC_of (show fr.length ≤ 300 by omega) hM (fun i => by have := hf8 i; omega)
  have hP := fun v w hS hn => p_Lengths_yes fr 15 v w (by decide) (by decide) hmc hS hn
  have hfa := lens_facts (fr := fr) (show 1 ≤ 15 by decide) (by decide) (by omega) hM (fun i => by have := hf8 i; omega)
  have htr := trees_all hf1
  obtain ⟨L, hL⟩ : ∃ L, lensF 15 20 fr = L := ⟨_, rfl⟩
  rw [hL] at hP hfa
  obtain ⟨hdl, _, f3, _, f5, f6⟩ := hfa
  rw [hfl] at hdl
  have hR : 0 < l.length → RightN L := fun h => by
    rcases Nat.lt_or_ge 1 l.length with h' | h'
    · exact (f6 (by omega)).2
    · exact (f5 (by omega)).2
  have hL0 : ∀ i, i < l.length → 0 < L.getD i 0 := fun i h => (f3 i).2 (hf1 i (by omega))
  obtain ⟨i0, hi0, hz0, hz1, hz2⟩ := info_parts2 info_int'
  have HP := Lib.hid hP
  have H16 := Lib.hid hl16
  have HFL := Lib.hid hfl
  have HFJ := Lib.hid hfj
  have HDL := Lib.hid hdl
  have HRR := Lib.hid hR
  have HL0 := Lib.hid hL0
  have h300 : l.length ≤ 300 := by omega
  have h200 : sy.length ≤ 200 := by omega
  have hs8 : ∀ i, sy.getD i 0 < 256 := fun i => by
    rcases Nat.lt_or_ge i sy.length with h | h
    · exact hsy _ (getD_mem _ _ h)
    · rw [List.getD_eq_getElem?_getD, List.getElem?_eq_none h]; decide
  have HS8 := Lib.hid hs8
  clear h1 h2 hu hsy hs8 hl16 hM hmc hP hL hfr hfl hfj hfo hf8 hdl hf1 f3 f5 f6 hR hL0 htr
  go_enter Try.func7, Try.ntmps7
  go_wp2_with (go_at_call 10; (with_reducible refine (HSh.out _).mono ?_); rintro e w1 ⟨rfl, hb1⟩; have k0 := Lib.hid (OwnR.empty w1 w.heap.size 3 1 hb1.size); have kb := Lib.hid (hb1.alloc hb1.size (.cells #[] 3)))
  go_loopw [5, 6] (fun u i wr => ∃ j : Nat, j ≤ l.length ∧ i = .int .i64 (j : Int) ∧ OwnR wr w.heap.size 3 1 u (rowsN (fr.take j)) ∧ Below w.heap.size w wr) (fun _ i _ => l.length - (intOf i).toNat)
  case atStart => exact ⟨0, by omega, rfl, k0.out, kb.out⟩
  case round =>
    obtain ⟨j, hj, rfl, go, gb⟩ := hrel
    clear k0 kb
    by_cases hlt : j < l.length
    · have hS' := HS.out.below gb
      obtain ⟨a, rfl, hc⟩ := SlU.cell hS' hlt
      have d1 : (j : Int) < (l.length : Int) := by omega
      have hq16 := H16.out j
      have hfj := HFJ.out j hlt
      have hsn : rowsN (fr.take (j + 1)) = rowsN (fr.take j) ++ [[.int .i64 ((fr.getD j 0 : Nat) : Int)]] := by rw [take_snoc fr j (by rw [HFL.out]; exact hlt), rowsN_snoc]
      have hrl : (rowsN (fr.take j)).length = j := by rw [rowsN_len, List.length_take, HFL.out]; omega
      rw [hfj] at hsn
      have HSN := Lib.hid hsn
      have HRL := Lib.hid hrl
      obtain ⟨q, hq⟩ : ∃ q, l.getD j 0 = q := ⟨_, rfl⟩
      rw [hq] at hc hq16 HSN
      clear hsn hrl hS' hq hfj
      generalize rowsN (fr.take j) = rows at *
      obtain ⟨y, hy⟩ : ∃ y : Int, (q : Int) + 1 = y := ⟨_, rfl⟩
      have hy' : ((((fun x : Nat => x + 1) q : Nat)) : Int) = y := by rw [← hy]; show ((q + 1 : Nat) : Int) = _; omega
      rw [hy'] at HSN
      have hnb := Blk.new' wr 3 (c := #[.int .i64 ((q : Int) + 1)]) [.int .i64 ((q : Int) + 1)] rfl
      rw [hy] at hnb
      have hnews := sl_one hnb
      have hown := go.alloc (.cells #[.int .i64 y] 3)
      have hlo := go.lt
      have hgb := gb.alloc gb.size (.cells #[.int .i64 y] 3)
      have hbase : w.heap.size ≤ (wr.alloc (.cells #[.int .i64 y] 3)).heap.size := hgb.size
      have hone : ∀ r ∈ [[Value.int .i64 y]], ∀ u ∈ r, u.oneCell' = true := by simp [Value.oneCell']
      have hlen : rows.length + [[Value.int .i64 y]].length ≤ maxLen := by rw [HRL.out, List.length_singleton]; unfold maxLen; omega
      have hby : (rows.length + [[Value.int .i64 y]].length) * 8 ≤ 140737488355328 := by rw [HRL.out, List.length_singleton]; omega
      have HONE := Lib.hid hone
      have HLEN := Lib.hid hlen
      have HBY := Lib.hid hby
      have HOW := Lib.hid hown
      have HNW := Lib.hid hnews
      have HLO := Lib.hid hlo
      have HGB := Lib.hid hgb
      have HBA := Lib.hid hbase
      have HY := Lib.hid hy
      clear hone hlen hby hnb hnews hown hlo hgb hbase go gb hy hy'
      go_wp2_with (first | (rw [HY.out]; refine wpList_append_rows rfl _ _ 22 rfl w.heap.size 3 i0 (.int .i64 0) 1 8 Try.underlying22 hi0 hz0 hz1 hz2 rfl (by decide) _ rows rfl HOW.out (.slice (some ⟨wr.heap.size, 0, none⟩) 1 1) [[.int .i64 y]] rfl HNW.out HONE.out HLEN.out HBY.out HBA.out (.inr ⟨_, _, _, rfl⟩) ?_; intro v' w5 ho5 hg5 hv5; have gb5 := HGB.out.grown hg5 HBA.out (fun k e => (HLO.out k e).1); have GB5 := Lib.hid gb5; have HO5 := Lib.hid ho5; clear hg5 ho5 gb5))
      go_roundw
      case rel => exact ⟨j + 1, by omega, by go_num, by rw [HSN.out]; exact HO5.out, GB5.out⟩
      case measure => simp [intOf]; omega
    · obtain rfl : j = l.length := by omega
      rw [← HFL.out, List.take_length] at go
      have hnil := nil_or go
      have HPv := HP.out _ wr go.sl hnil
      obtain ⟨p5, c5, e5⟩ := go.isSlice
      rw [rowsN_len, HFL.out] at e5
      subst e5
      unfold IntsRet2 at HPv
      rw [HDL.out] at HPv
      have HPv := Lib.hid HPv
      have GB := Lib.hid gb
      clear go gb hnil hlt HP
      go_wp2_with fail
      refine HPv.out.mono ?_
      rintro e w6 ⟨g, rfl, hg, hsz, hb6⟩
      have GB6 := Lib.hid (GB.out.trans (hb6.mono GB.out.size))
      have hgl := hg.lt
      have hSL := hg.slN l.length
      rw [HDL.out] at hSL
      have HSL := Lib.hid hSL
      clear hb6 hg hsz HPv GB hSL
      rcases Nat.eq_zero_or_pos l.length with h0 | h0
      · rw [h0]
        go_wp2
        go_ret
        exact ⟨rfl, GB6.out⟩
      · have d0 : ((l.length : Int) == 0) = false := by rw [beq_eq_false_iff_ne]; omega
        have hR := HRR.out h0
        have h15 := hR.2.1
        have hK := hR.le
        have hC := p_Codes_yes L (some ⟨g, 0, none⟩) l.length w6 hR (by rw [HDL.out]; exact HSL.out)
        unfold PcRet at hC
        rw [HDL.out] at hC
        have HC := Lib.hid hC
        have HTD := Lib.hid (fun j (h : j < sy.length) => psB_told (sy := sy) HDL.out h0 HL0.out h15 hK h)
        have HMP := Lib.hid (psB_may (sy := sy) (n := l.length) h15)
        have H15 := Lib.hid h15
        have HRN := Lib.hid hR
        clear hC hR h15 hK
        go_wp2_with fail
        (with_reducible refine HC.out.mono ?_)
        rintro e w7 ⟨g7, rfl, hg7, hsz7, hb7⟩
        have hgb7 := GB6.out.trans (hb7.mono GB6.out.size)
        have GL7 := Lib.hid (HSL.out.below hb7)
        have hSP := sl_pcW l.length hg7
        rw [HDL.out] at hSP
        have hg67 : g < w7.heap.size := Nat.lt_of_lt_of_le hgl hb7.size
        have k7 := Lib.hid (OwnR.empty w7 w7.heap.size 39 2 (Nat.le_refl _))
        have kb7 := Lib.hid ((Below.refl w7.heap.size w7).alloc (Nat.le_refl _) (.cells #[] 39))
        have GP7 := Lib.hid hSP
        have GB7 := Lib.hid hgb7
        obtain ⟨i1, hi1, hy0, hy1, hy2⟩ := info_parts2 info_piece'
        clear hg7 hsz7 hb7 hSP HC HSL GB6 hgl hgb7
        go_wp2
        go_loopw [11, 12] (fun u i wr => ∃ j : Nat, j ≤ sy.length ∧ i = .int .i64 (j : Int) ∧ OwnR wr w7.heap.size 39 2 u (rowsP ((psB L sy l.length).take j)) ∧ Below w7.heap.size w7 wr) (fun _ i _ => sy.length - (intOf i).toNat)
        case atStart => exact ⟨0, by omega, rfl, k7.out, kb7.out⟩
        case round =>
          obtain ⟨j, hj, rfl, go, gb⟩ := hrel
          clear k7 kb7
          by_cases hlt : j < sy.length
          · have d1 : (j : Int) < (sy.length : Int) := by omega
            obtain ⟨a, rfl, hc⟩ := SlU.cell (HT.out.below (GB7.out.trans (gb.mono GB7.out.size))) hlt
            have hq8 := HS8.out j
            have hsn := psB_snoc (L := L) (n := l.length) hlt
            have hrl : (rowsP ((psB L sy l.length).take j)).length = j := by rw [rowsP_len, List.length_take, psB_len]; omega
            obtain ⟨q, hq⟩ : ∃ q, sy.getD j 0 = q := ⟨_, rfl⟩
            rw [hq] at hc hq8 hsn
            obtain ⟨r, hr⟩ : ∃ r, q % l.length = r := ⟨_, rfl⟩
            have hri : (q : Int) % (l.length : Int) = (r : Int) := by rw [← hr]; omega
            have hrl2 : r < l.length := by rw [← hr]; exact Nat.mod_lt _ h0
            have hrI : (r : Int) < (l.length : Int) := by omega
            have hcell := pcW_cell (GP7.out.below gb) (show r < L.length by rw [HDL.out]; exact hrl2)
            rw [hr] at hsn
            obtain ⟨cN, hcN⟩ : ∃ cN, codeW L r = cN := ⟨_, rfl⟩
            obtain ⟨cW, hcW⟩ : ∃ cW : Int, ((L.getD r 0 : Nat) : Int) = cW := ⟨_, rfl⟩
            rw [hcN, hcW] at hcell hsn
            have HSN : Hid (rowsP ((psB L sy l.length).take (j + 1)) = rowsP ((psB L sy l.length).take j) ++ [rowP (cN, cW)]) := Lib.hid (by rw [hsn, rowsP_snoc1])
            have hcc : ∀ (jj : Nat) (xx : Value), [Value.int .u32 (cN : Int), Value.int .i64 cW][jj]? = some xx → wr.cell? ((⟨g7, r * 2, none⟩ : Addr).add jj) = some xx := fun jj xx hx => by
              have e0 : (⟨g7, 0, none⟩ : Addr).add (r * 2) = ⟨g7, r * 2, none⟩ := by rw [Addr.add_mid, Nat.zero_add]
              rw [e0] at hcell
              match jj, hx with
              | 0, hx => cases hx; exact hcell.1
              | 1, hx => cases hx; exact hcell.2
            have HCC := Lib.hid hcc
            have HRL := Lib.hid hrl
            clear hsn hrl hq hr hcell hcN hcW hcc
            generalize rowsP ((psB L sy l.length).take j) = rows at *
            have hnb := Blk.new' wr 39 (c := #[.int .u32 (cN : Int), .int .i64 cW]) (rowP (cN, cW)) rfl
            have hnews := sl_one hnb
            have hown := go.alloc (.cells #[.int .u32 (cN : Int), .int .i64 cW] 39)
            have hlo := go.lt
            have hgb := gb.alloc gb.size (.cells #[.int .u32 (cN : Int), .int .i64 cW] 39)
            have hbase : w7.heap.size ≤ (wr.alloc (.cells #[.int .u32 (cN : Int), .int .i64 cW] 39)).heap.size := hgb.size
            have hone : ∀ r ∈ [rowP (cN, cW)], ∀ u ∈ r, u.oneCell' = true := by simp [rowP, Value.oneCell']
            have hlen : rows.length + [rowP (cN, cW)].length ≤ maxLen := by rw [HRL.out, List.length_singleton]; unfold maxLen; omega
            have hby : (rows.length + [rowP (cN, cW)].length) * 16 ≤ 140737488355328 := by rw [HRL.out, List.length_singleton]; omega
            have HONE := Lib.hid hone
            have HLEN := Lib.hid hlen
            have HBY := Lib.hid hby
            have HOW := Lib.hid hown
            have HNW := Lib.hid hnews
            have HLO := Lib.hid hlo
            have HGB := Lib.hid hgb
            have HBA := Lib.hid hbase
            clear hone hlen hby hnb hnews hown hlo hgb hbase go gb hrl2
            go_wp2_with (first | (refine wpList_load_addr rfl 39 _ rfl _ rfl [.int .u32 (cN : Int), .int .i64 cW] HCC.out Try.underlying39 rfl (by rw [size_piece]; rfl) ?_) | (refine wpList_append_rows rfl _ _ 29 rfl w7.heap.size 39 i1 (.agg #[.int .u32 0, .int .i64 0]) 2 16 Try.underlying29 hi1 hy0 hy1 hy2 rfl (by decide) _ rows rfl HOW.out (.slice (some ⟨wr.heap.size, 0, none⟩) 1 1) [rowP (cN, cW)] rfl HNW.out HONE.out HLEN.out HBY.out HBA.out (.inr ⟨_, _, _, rfl⟩) ?_; intro v' w5 ho5 hg5 hv5))
            have gb5 := HGB.out.grown hg5 HBA.out (fun k e => (HLO.out k e).1)
            go_roundw
            case rel => exact ⟨j + 1, by omega, by go_num, by rw [HSN.out]; exact ho5, gb5⟩
            case measure => simp [intOf]; omega
          · obtain rfl : j = sy.length := by omega
            have htl : (psB L sy l.length).take sy.length = psB L sy l.length := List.take_of_length_le (by rw [psB_len]; exact Nat.le_refl _)
            rw [htl] at go
            obtain ⟨s, hs⟩ : ∃ s, s = tx (bytesB (bitsP (psB L sy l.length))) := ⟨_, rfl⟩
            have hsl : sl s = bytesB (bitsP (psB L sy l.length)) := by rw [hs, sl_tx (bytesB_bys (bitsP_01 _))]
            have hsz : s.size = (sizeP (psB L sy l.length) + 7) / 8 := by rw [← sl_len, hsl, size_pack HMP.out]
            have hle := sizeP_le (psB L sy l.length)
            rw [psB_len] at hle
            have htk := fun j => sizeP_take (psB L sy l.length) j
            have hus : go.isSlice = go.isSlice := rfl
            obtain ⟨pu, cu, eu⟩ := go.isSlice
            subst eu
            have hPk := i_Pack (psB L sy l.length) pu cu wr (by rw [psB_len]; omega) (fun q hq => by obtain ⟨x, _, rfl⟩ := List.mem_map.1 hq; have := codeW_lt' L (x % l.length) (H15.out _); show codeW L (x % l.length) < 4294967296; omega) (by have := go.sl; rw [rowsP_len] at this; exact this) s 0 (.inl ⟨HMP.out, hs, rfl⟩)
            have hNx : ∀ j w' (h : j < sy.length), Sl w' 1 (.slice (some ⟨g, 0, none⟩) l.length l.length) (rowsN L) → ∀ Z, g < Z → Blk w' Z 72 (rdr s (sizeP ((psB L sy l.length).take j))) → Calls Try.prog 19 #[.pointer (some ⟨Z, 0, none⟩), .slice (some ⟨g, 0, none⟩) l.length l.length] w' fun e w'' => e = .returned (.tuple #[.int .i64 ((sy.getD j 0 % l.length : Nat) : Int), .int .i64 0]) ∧ Turned w' w'' Z 72 (rdr s (sizeP ((psB L sy l.length).take (j + 1)))) := fun j w' h h1 Z hZ h2 => by
              have := p_Next_yes L (some ⟨g, 0, none⟩) l.length Z s (sizeP ((psB L sy l.length).take j)) w' HRN.out (by rw [HDL.out]; exact h1) h2 (by have := htk j; omega) (by omega) (fun a ha => by cases ha; show g ≠ Z; omega)
              rw [HDL.out, hsl, HTD.out j h] at this
              exact this
            have hE := fun R w h => i_End R s (sizeP (psB L sy l.length)) w h (by omega) (by omega)
            rw [hsl, end_pack HMP.out] at hE
            have hN := fun w => i_New s w
            have z0 : sizeP ((psB L sy l.length).take 0) = 0 := rfl
            have zl : sizeP ((psB L sy l.length).take sy.length) = sizeP (psB L sy l.length) := by rw [htl]
            have hrp : (rowsP (psB L sy l.length)).length = (psB L sy l.length).length := rowsP_len _
            rw [hrp]
            have HPk := Lib.hid hPk
            have HNx := Lib.hid hNx
            have HE := Lib.hid hE
            have HN := Lib.hid hN
            have HZ0 := Lib.hid z0
            have HZL := Lib.hid zl
            have GB := Lib.hid gb
            clear go gb hPk hNx hE hN z0 zl hsl hsz hle htk hs htl hrp HMP HTD HRN hus
            go_wp2_with fail
            (with_reducible refine HPk.out.mono ?_)
            rintro e w8 ⟨rfl, hb8⟩
            have GB8 := Lib.hid (GB.out.trans (hb8.mono GB.out.size))
            clear hb8 GB HPk
            go_wp2_with fail
            (with_reducible refine (HN.out _).mono ?_)
            rintro e w9 ⟨rfl, hw9⟩
            subst hw9
            have k1 := Blk.new w8 72 (rdr s 0)
            have kb := GB8.out.alloc GB8.out.size (.cells (rdr s 0).toArray 72)
            have hz7 := GB8.out.size
            have kw := GB7.out.trans (kb.mono GB7.out.size)
            have kl := GL7.out.below kb
            have hz := GB7.out.size
            clear GB8
            go_wp2_with fail
            generalize World.alloc w8 _ = w9 at *
            generalize w8.heap.size = Z at *
            rw [← HZ0.out] at k1
            have K1 := Lib.hid k1
            have KW := Lib.hid kw
            have KL := Lib.hid kl
            have hgZ : g < Z := by omega
            have hwZ : w.heap.size ≤ Z := by omega
            clear k1 kb kw kl hz hz7 HZ0
            go_loopw [16, 17, 18] (fun i _ _ wr => ∃ j : Nat, j ≤ sy.length ∧ i = .int .i64 (j : Int) ∧ Blk wr Z 72 (rdr s (sizeP ((psB L sy l.length).take j))) ∧ Sl wr 1 (.slice (some ⟨g, 0, none⟩) l.length l.length) (rowsN L) ∧ Below w.heap.size w wr) (fun i _ _ _ => sy.length - (intOf i).toNat)
            case atStart => exact ⟨0, by omega, rfl, K1.out, KL.out, KW.out⟩
            case round =>
              obtain ⟨j, hj, rfl, gR, gL, gb⟩ := hrel
              clear K1 KL KW
              by_cases hlt : j < sy.length
              · have d1 : (j : Int) < (sy.length : Int) := by omega
                have hNj := HNx.out j _ hlt gL Z hgZ gR
                have hq8 := HS8.out j
                have hcell := fun wx (h : Below w.heap.size w wx) => SlU.cell (HT.out.below h) hlt
                obtain ⟨q, hq⟩ : ∃ q, sy.getD j 0 = q := ⟨_, rfl⟩
                rw [hq] at hNj hq8 hcell
                obtain ⟨r, hr⟩ : ∃ r, q % l.length = r := ⟨_, rfl⟩
                have hri : (q : Int) % (l.length : Int) = (r : Int) := by rw [← hr]; omega
                rw [hr] at hNj
                have HNj := Lib.hid hNj
                have GL := Lib.hid gL
                have GB := Lib.hid gb
                have HCE := Lib.hid hcell
                clear hNj gR gL gb hq hr hlt hcell
                go_wp2_with fail
                (with_reducible refine HNj.out.mono ?_)
                rintro e w4 ⟨rfl, t4⟩
                have b4 := t4.below GB.out GB.out.size hwZ
                have f4 := t4.2
                have l4 := SlN.turned GL.out t4 (fun a ha => by cases ha; show g ≠ Z; omega)
                obtain ⟨a, rfl, hc⟩ := HCE.out w4 b4
                have B4 := Lib.hid b4
                have F4 := Lib.hid f4
                have L4 := Lib.hid l4
                clear t4 b4 f4 l4 HNj GB GL HCE
                go_wp2
                go_roundw
                case rel => exact ⟨j + 1, by omega, by go_num, F4.out, L4.out, B4.out⟩
                case measure => simp [intOf]; omega
              · obtain rfl : j = sy.length := by omega
                rw [HZL.out] at gR
                have hEx := Lib.hid (HE.out _ _ gR)
                have GB := Lib.hid gb
                clear gR gL gb hlt
                go_wp2_with fail
                (with_reducible refine hEx.out.mono ?_)
                rintro e w5 ⟨rfl, hb5⟩
                have b5 := GB.out.trans (hb5.mono GB.out.size)
                clear hb5
                go_wp2
                go_ret
                exact ⟨rfl, b5⟩

set_option maxRecDepth 100000 in
theorem lifted (os : Os) (started : os.Started) (H : Type) (enc : TypeId × Value → H) :
    ReturnsInHanded {} Try.checked os 7 .any (Rows.prefixBackSpec.pre6 enc Try.prog Try.f7 Rows.prefixBackRow.domain false) (Rows.prefixBackSpec.post enc Try.prog Try.f7 false true false false) := by
  refine returnsInHanded_of_change (C := Try.checked) own started (by kernel_rfl) Try.func7
    (ChangeSpec.witness6 (enc := enc) (C := Try.checked) false ⟨#[], #[.slice none 0 0, .slice none 0 0], []⟩ 8 (by kernel_rfl) (by kernel_rfl) (by kernel_rfl) (by kernel_rfl)) ?_
  intro W base args ds gs before hval0 hW hcnd _
  have hval : ∀ (j : Nat) t v, Try.f7.params[j]? = some t → args[j]? = some v → Value.okWide Try.prog W .any base t v := hval0
  have hW' := hW
  obtain ⟨p, q, hA0, hV, rfl, hfz, hnd⟩ := hW
  have hA : DataW.TrodAll enc Try.prog W 0 (fun _ => true) true Try.f7.params.toList args.toList ds p := hA0
  rw [Try.params7] at hA hval
  obtain ⟨v0, vs0, d0, ds0, p0, q0, hargs, rfl, rfl, h0, r0⟩ := trodAll_cons hA
  obtain ⟨v1, vs1, d1, ds1, p1, q1, rfl, rfl, rfl, h1, r1⟩ := trodAll_cons r0
  obtain ⟨rfl, rfl, rfl⟩ := trodAll_nil r1
  obtain rfl : args = #[v0, v1] := by cases args; simp_all
  obtain ⟨rfl, rfl⟩ := trodVars_none hV
  have k0 := h0
  have lt0 : ∀ x ∈ p0, x.block < W.heap.size := by obtain ⟨m, hm⟩ := k0; exact DataW.trod_lt m _ _ _ hm
  obtain ⟨a0, m0, c0, rfl⟩ := Go.WideShapes.okWide_slice Try.underlying51 (hval 0 51 v0 rfl rfl)
  obtain ⟨l0, rfl, S0, n0⟩ := open_u16s h0
  have k1 := h1
  have lt1 : ∀ x ∈ p1, x.block < W.heap.size := by obtain ⟨m, hm⟩ := k1; exact DataW.trod_lt m _ _ _ hm
  obtain ⟨a1, m1, c1, rfl⟩ := Go.WideShapes.okWide_slice Try.underlying54 (hval 1 54 v1 rfl rfl)
  obtain ⟨l1, rfl, S1, n1⟩ := open_u8s h1
  clear hA0 hval0
  simp only [List.append_nil] at hW'
  refine (walk l0 a0 c0 l1 a1 c1 n0 n1 W S0 S1).mono fun e W' ⟨he, bel⟩ => ?_
  subst he
  exact ⟨_, rfl, _, _, _, [], _, [], hW', trodAll_mk1 (shut_bool Try.underlying4 _), (trodAll_cons_mk (Below.trod laidOut (by kernel_rfl) (of_decide_eq_true (by kernel_rfl)) k0 bel lt0) (trodAll_cons_mk (Below.trod laidOut (by kernel_rfl) (of_decide_eq_true (by kernel_rfl)) k1 bel lt1) trodAll_mk0)), rfl, bel.frame _, fun h => by cases h⟩

theorem over : Rows.prefixBackRow.holds Try.pinned (OpenSpec.ofChange Rows.prefixBackSpec) :=
  OpenClaim.holds_of_wide 7 Try.f7 rfl rfl rfl rfl rfl rfl rfl ⟨rfl, rfl, rfl, rfl, rfl⟩ rfl rfl rfl rfl rfl (by kernel_rfl) Try.func7 (by kernel_rfl)
    (of_decide_eq_true (by kernel_rfl)) (by unfold Func.isWrapper; first | (rw [if_pos (by decide +kernel)]; kernel_rfl) | (rw [if_neg (by decide +kernel)]; exact ⟨rfl, rfl⟩))
    (fun os started H enc _ => lifted os started H enc)

theorem proved : Rows.PrefixBackSaid :=
  over
#print axioms proved
end Go.Proofs.Ytpjdlkbpnodcdaa.prefixBack
