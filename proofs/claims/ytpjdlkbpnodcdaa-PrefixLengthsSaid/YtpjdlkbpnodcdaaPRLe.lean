/- Walk of the reference's Lengths (begun: its second loop is still to be walked). -/
import Derived.Test.YtpjdlkbpnodcdaaPRD2
namespace Go.Proofs.Ytpjdlkbpnodcdaa
open Go.RowKit
set_option linter.unusedVariables false

/-- the deepest of the first k -/
def mxL (L : List Nat) : Nat → Nat
  | 0 => 0
  | k + 1 => if mxL L k < L.getD k 0 then L.getD k 0 else mxL L k
theorem mxL_le (L : List Nat) (lim : Nat) : ∀ k, k ≤ L.length → (mxL L k ≤ lim ↔ ∀ i, i < k → L.getD i 0 ≤ lim)
  | 0, _ => ⟨fun _ i h => by omega, fun _ => Nat.zero_le _⟩
  | k + 1, h => by
    have ih := mxL_le L lim k (by omega)
    unfold mxL
    split
    · rename_i hlt
      constructor
      · intro h1 i hi
        rcases Nat.lt_or_ge i k with h' | h'
        · exact ih.1 (by omega) i h'
        · obtain rfl : i = k := by omega
          exact h1
      · intro h1; exact h1 k (by omega)
    · rename_i hlt
      constructor
      · intro h1 i hi
        rcases Nat.lt_or_ge i k with h' | h'
        · exact ih.1 h1 i h'
        · obtain rfl : i = k := by omega
          omega
      · intro h1; exact ih.2 (fun i hi => h1 i (by omega))
theorem mxL_fits (fr : List Nat) (lim : Nat) : mxL (depthsF fr) fr.length ≤ lim ↔ fitsF fr lim = true := by
  rw [mxL_le _ _ _ (by rw [depthsF_len]; exact Nat.le_refl _)]
  unfold fitsF
  rw [decide_eq_true_eq]
  constructor
  · intro h d hd
    obtain ⟨i, hi, rfl⟩ := mem_getD hd
    exact h i (by rw [depthsF_len] at hi; exact hi)
  · intro h i hi
    exact h _ (getD_mem _ _ (by rw [depthsF_len]; exact hi))
theorem halfF_skip (fr : List Nat) (j : Nat) (hj : j < fr.length) (h0 : fr.getD j 0 = 0) : halfF fr j = halfF fr (j + 1) := by
  refine getD_ext fr.length (halfF_len _ _) (halfF_len _ _) fun i hi => ?_
  rw [halfF_getD _ _ _ (by omega), halfF_getD _ _ _ (by omega)]
  by_cases e : i = j
  · subst e
    rw [if_neg (by omega), if_pos (by omega), h0]
  · by_cases h : i < j
    · rw [if_pos h, if_pos (by omega)]
    · rw [if_neg h, if_neg (by omega)]
/-- may these come, in so many bits? -/
def OkL (l : List Int) (x : Int) : Prop := 1 ≤ x ∧ x ≤ 15 ∧ MayC l x.toNat
/-- lengths, or an error -/
def LRet (l : List Int) (x : Int) (w : World) (e : Ending) (w' : World) : Prop :=
  (¬ OkL l x ∧ e = .returned (.tuple #[.slice none 0 0, .int .i64 1]) ∧ Below w.heap.size w w') ∨
  (OkL l x ∧ ∃ v, e = .returned (.tuple #[v, .int .i64 0]) ∧ OwnR w' w.heap.size 3 1 v (rowsN (lensF x.toNat 20 (l.map Int.toNat))) ∧ Below w.heap.size w w')
set_option maxRecDepth 100000 in
set_option maxHeartbeats 2000000 in
theorem r_Lengths_arg (l : List Int) (x : Int) (p : Option Addr) (cap : Nat) (w : World) (hno : 300 < l.length ∨ x < 1 ∨ 15 < x) :
    Calls Try.prog 12 #[.slice p l.length cap, .int .i64 x] w (LRet l x w) := by
  have hn : ¬ OkL l x := fun ⟨a, b, c⟩ => by
    have := c.1
    omega
  by_cases h1 : 300 < l.length
  · have t1 : (300 : Int) < (l.length : Int) := by omega
    have HN := Lib.hid hn
    clear hno hn
    go_enter Try.func12, Try.ntmps12
    go_wp2
    go_ret2
    exact .inl ⟨HN.out, rfl, Below.refl _ _⟩
  · have t1 : decide ((300 : Int) < (l.length : Int)) = false := decide_eq_false (by omega)
    have t1n : decide (300 < l.length) = false := decide_eq_false h1
    by_cases h2 : x < 1
    · have HN := Lib.hid hn
      clear hno hn
      go_enter Try.func12, Try.ntmps12
      go_wp2
      go_ret2
      exact .inl ⟨HN.out, rfl, Below.refl _ _⟩
    · have t2 : decide (x < 1) = false := decide_eq_false h2
      have h3 : 15 < x := by omega
      have HN := Lib.hid hn
      clear hno hn
      go_enter Try.func12, Try.ntmps12
      go_wp2
      go_ret2
      exact .inl ⟨HN.out, rfl, Below.refl _ _⟩
set_option maxRecDepth 100000 in
set_option maxHeartbeats 4000000 in
theorem r_Lengths_in (l : List Int) (lim : Nat) (p : Option Addr) (cap : Nat) (w : World) (hl : l.length ≤ 300) (x1 : 1 ≤ lim) (x15 : lim ≤ 15) (hS : Sl w 1 (.slice p l.length cap) (rowsI l)) :
    Calls Try.prog 12 #[.slice p l.length cap, .int .i64 (lim : Int)] w (LRet l (lim : Int) w) := by
  have hok : OkL l (lim : Int) ↔ ((∀ y ∈ l, Comes y) ∧ usedI l ≤ 2 ^ lim) := by
    constructor
    · rintro ⟨_, _, c⟩; exact ⟨c.2.1, c.2.2⟩
    · intro h; exact ⟨by omega, by omega, hl, h.1, h.2⟩
  obtain ⟨i0, hi0, hz0, hz1, hz2⟩ := info_parts2 info_int
  have HOK := Lib.hid hok
  have HS := Lib.hid hS
  have k0 := Lib.hid (OwnR.empty w w.heap.size 3 1 (Nat.le_refl _))
  have kb := Lib.hid ((Below.refl w.heap.size w).alloc (Nat.le_refl _) (.cells #[] 3))
  have t1 : ((l.length : Int) ≤ 300) := by omega
  have t1b : decide ((300 : Int) < (l.length : Int)) = false := decide_eq_false (by omega)
  have t1n : decide (300 < l.length) = false := decide_eq_false (by omega)
  have t2 : decide ((lim : Int) < 1) = false := decide_eq_false (by omega)
  have t3 : decide ((15 : Int) < (lim : Int)) = false := decide_eq_false (by omega)
  clear hok hS
  go_enter Try.func12, Try.ntmps12
  go_wp2
  go_loopw [6, 7, 8] (fun n u i wr => ∃ j : Nat, j ≤ l.length ∧ i = .int .i64 (j : Int) ∧ n = .int .i64 (usedI (l.take j) : Int) ∧ (∀ y ∈ l.take j, Comes y) ∧ OwnR wr w.heap.size 3 1 u (rowsN ((l.take j).map Int.toNat)) ∧ Below w.heap.size w wr) (fun _ _ i _ => l.length - (intOf i).toNat)
  case atStart => exact ⟨0, by omega, rfl, rfl, (fun y h => by simp at h), k0.out, kb.out⟩
  case round =>
    obtain ⟨j, hj, rfl, rfl, gn, go, gb⟩ := hrel
    clear k0 kb
    by_cases hlt : j < l.length
    · have d1 : (j : Int) < (l.length : Int) := by omega
      obtain ⟨a, rfl, hc⟩ := SlI.cell (HS.out.below gb) hlt
      have hsn := take_snocI l j hlt
      have hus := usedI_snoc (l.take j) (l.getD j 0)
      rw [← hsn] at hus
      have hmem := getD_memI l j hlt
      have hle := usedI_le (l.take j)
      have hle2 : (l.take j).length ≤ j := by simp; omega
      have hrl : (rowsN ((l.take j).map Int.toNat)).length = j := by rw [rowsN_len, List.length_map, List.length_take]; omega
      obtain ⟨y, hy⟩ : ∃ y, l.getD j 0 = y := ⟨_, rfl⟩
      rw [hy] at hc hsn hus hmem
      have HY := Lib.hid hy
      obtain ⟨U, hU⟩ : ∃ U, usedI (l.take j) = U := ⟨_, rfl⟩
      rw [hU] at hus hle ⊢
      have iU : (U : Int) ≤ 310 := by omega
      by_cases hcm : Comes y
      · obtain ⟨q, rfl⟩ : ∃ q : Nat, y = (q : Int) := ⟨y.toNat, by have := hcm.1; omega⟩
        have s1 : decide ((q : Int) < 0) = false := decide_eq_false (by omega)
        have s2 : decide ((1048576 : Int) < (q : Int)) = false := decide_eq_false (by have := hcm.2; omega)
        have hnew : ∀ z ∈ l.take (j + 1), Comes z := fun z hz => by
          rw [hsn] at hz
          rcases List.mem_append.1 hz with h | h
          · exact gn z h
          · rw [List.mem_singleton.1 h]; exact hcm
        have hrow : rowsN ((l.take (j + 1)).map Int.toNat) = rowsN ((l.take j).map Int.toNat) ++ [[.int .i64 (q : Int)]] := by
          rw [hsn, List.map_append, rowsN_app]
          rfl
        have HNEW := Lib.hid hnew
        have HROW := Lib.hid hrow
        have HUS := Lib.hid hus
        have HRL := Lib.hid hrl
        clear hsn hrow hnew hmem hle hle2 hU hy gn hcm hus hrl
        generalize rowsN ((l.take j).map Int.toNat) = rows at *
        have hnb := Blk.new' wr 3 (c := #[.int .i64 (q : Int)]) [.int .i64 (q : Int)] rfl
        have hnews := sl_one hnb
        have hown := go.alloc (.cells #[.int .i64 (q : Int)] 3)
        have hlo := go.lt
        have hgb := gb.alloc gb.size (.cells #[.int .i64 (q : Int)] 3)
        have hbase : w.heap.size ≤ (wr.alloc (.cells #[.int .i64 (q : Int)] 3)).heap.size := hgb.size
        have hone : ∀ r ∈ [[Value.int .i64 (q : Int)]], ∀ u ∈ r, u.oneCell' = true := by simp [Value.oneCell']
        have hlen : rows.length + [[Value.int .i64 (q : Int)]].length ≤ maxLen := by rw [HRL.out, List.length_singleton]; unfold maxLen; omega
        have hby : (rows.length + [[Value.int .i64 (q : Int)]].length) * 8 ≤ 140737488355328 := by rw [HRL.out, List.length_singleton]; omega
        have HONE := Lib.hid hone
        have HLEN := Lib.hid hlen
        have HBY := Lib.hid hby
        have HOW := Lib.hid hown
        have HNW := Lib.hid hnews
        have HLO := Lib.hid hlo
        have HGB := Lib.hid hgb
        have HBA := Lib.hid hbase
        clear hone hlen hby hnb hnews hown hlo hgb hbase go gb
        by_cases hq0 : 0 < q
        · have e0 : (0 : Int) < (q : Int) := by omega
          go_wp2_with (first | (refine wpList_append_rows rfl _ _ 22 rfl w.heap.size 3 i0 (.int .i64 0) 1 8 Try.underlying22 hi0 hz0 hz1 hz2 rfl (by decide) _ rows rfl HOW.out (.slice (some ⟨wr.heap.size, 0, none⟩) 1 1) [[.int .i64 (q : Int)]] rfl HNW.out HONE.out HLEN.out HBY.out HBA.out (.inr ⟨_, _, _, rfl⟩) ?_; intro v' w5 ho5 hg5 hv5; have gb5 := HGB.out.grown hg5 HBA.out (fun k e => (HLO.out k e).1)))
          go_roundw
          case rel => exact ⟨j + 1, by omega, by go_num, by rw [HUS.out, if_pos e0]; go_num, HNEW.out, by rw [HROW.out]; exact ho5, gb5⟩
          case measure => simp [intOf]; omega
        · have e0 : ¬ (0 : Int) < (q : Int) := by omega
          go_wp2_with (first | (refine wpList_append_rows rfl _ _ 22 rfl w.heap.size 3 i0 (.int .i64 0) 1 8 Try.underlying22 hi0 hz0 hz1 hz2 rfl (by decide) _ rows rfl HOW.out (.slice (some ⟨wr.heap.size, 0, none⟩) 1 1) [[.int .i64 (q : Int)]] rfl HNW.out HONE.out HLEN.out HBY.out HBA.out (.inr ⟨_, _, _, rfl⟩) ?_; intro v' w5 ho5 hg5 hv5; have gb5 := HGB.out.grown hg5 HBA.out (fun k e => (HLO.out k e).1)))
          go_roundw
          case rel => exact ⟨j + 1, by omega, by go_num, by rw [HUS.out, if_neg e0]; rfl, HNEW.out, by rw [HROW.out]; exact ho5, gb5⟩
          case measure => simp [intOf]; omega
      · have hno : ¬ OkL l (lim : Int) := fun h => hcm ((HOK.out.1 h).1 y hmem)
        have HNO := Lib.hid hno
        have GB := Lib.hid gb
        by_cases h0 : y < 0
        · clear hno gb go gn hus hsn hmem hcm hrl
          go_wp2
          go_ret2
          exact .inl ⟨HNO.out, rfl, GB.out⟩
        · have s1 : decide (y < 0) = false := decide_eq_false h0
          have s2 : (1048576 : Int) < y := by unfold Comes at hcm; omega
          clear hno gb go gn hus hsn hmem hcm hrl h0
          go_wp2
          go_ret2
          exact .inl ⟨HNO.out, rfl, GB.out⟩
    · obtain rfl : j = l.length := by omega
      rw [List.take_length] at gn go ⊢
      obtain ⟨Q, hQ⟩ : ∃ Q, 2 ^ lim = Q := ⟨_, rfl⟩
      have hp2 : (2 : Int) ^ lim = (Q : Int) := by rw [← hQ]; simp
      have hpl : 2 ^ lim ≤ 2 ^ 15 := Nat.pow_le_pow_right (by decide) x15
      have i2 : (lim : Int).toNat = lim := by omega
      have i3 : (0 : Int) ≤ (lim : Int) := by omega
      have i5 : (Q : Int) ≤ 32768 := by omega
      have hw64 : wrap64 (Q : Int) = (Q : Int) := Go.IntWalk.wrap64_in _ ⟨by omega, by omega⟩
      have hul := usedI_le l
      obtain ⟨U, hU⟩ : ∃ U, usedI l = U := ⟨_, rfl⟩
      have hok2 := HOK.out
      rw [hU, hQ] at hok2
      rw [hU] at hul ⊢
      by_cases hcnt : Q < U
      · have e0 : (Q : Int) < (U : Int) := by omega
        have HNO : Hid (¬ OkL l (lim : Int)) := Lib.hid (fun h => by have := (hok2.1 h).2; omega)
        have GB := Lib.hid gb
        clear hok2 gn go gb hU hQ hlt hpl
        go_wp2
        go_ret2
        exact .inl ⟨HNO.out, rfl, GB.out⟩
      · have e0 : decide ((Q : Int) < (U : Int)) = false := decide_eq_false (by omega)
        have e0n : decide (Q < U) = false := decide_eq_false hcnt
        have HYES : Hid (OkL l (lim : Int)) := Lib.hid (hok2.2 ⟨gn, by omega⟩)
        obtain ⟨fr, hfr⟩ : ∃ fr, l.map Int.toNat = fr := ⟨_, rfl⟩
        rw [hfr] at go
        have hnf : nn fr = l := by
          rw [← hfr]
          unfold nn
          rw [List.map_map]
          conv => rhs; rw [← List.map_id l]
          refine List.map_congr_left fun y hy => ?_
          have := (gn y hy).1
          show ((y.toNat : Nat) : Int) = y
          omega
        have hfl : fr.length = l.length := by rw [← hfr, List.length_map]
        have htr : (treesF fr).length ≤ 2 ^ lim := by rw [← usedI_nn, hnf, hU, hQ]; omega
        have hfb : ∀ i, fr.getD i 0 ≤ 2 ^ 20 := fun i => comes_nn (by rw [hnf]; exact gn) i
        obtain ⟨p7, c7, e7⟩ := go.isSlice
        rw [rowsN_len, hfl] at e7
        subst e7
        have HFR := Lib.hid hfr
        have HFL := Lib.hid hfl
        have HTR := Lib.hid htr
        have HFB := Lib.hid hfb
        have GO := Lib.hid go
        have GB := Lib.hid gb
        clear hok2 gn go gb hU hQ hlt hpl hnf hfr hfl htr hfb
        go_wp2
        go_loopg [9, 10, 11, 12] 20 (fun gk _ _ _ _ wr => ∃ fr' : List Nat, lensF lim gk fr' = lensF lim 20 fr ∧ fr'.length = l.length ∧ (treesF fr').length ≤ 2 ^ lim ∧ (∀ i, fr'.getD i 0 ≤ 2 ^ gk) ∧ gk ≤ 20 ∧ OwnR wr w.heap.size 3 1 (.slice p7 l.length c7) (rowsN fr') ∧ Below w.heap.size w wr)
        case atStart => exact ⟨fr, rfl, HFL.out, HTR.out, HFB.out, Nat.le_refl _, GO.out, GB.out⟩
        case round =>
          obtain ⟨fr', hR, hln, ht, hf, hgk, ho, hb⟩ := hrel
          clear GO GB
          have hp20 : 2 ^ gk ≤ 2 ^ 20 := Nat.pow_le_pow_right (by decide) hgk
          have hD := r_depths fr' p7 c7 wr (by omega) (fun i => by have := hf i; have e : (2 : Nat) ^ 20 = 1048576 := rfl; omega) (by rw [hln]; exact ho.sl)
          rw [hln] at hD
          have HD := Lib.hid hD
          have HO := Lib.hid ho
          have HB := Lib.hid hb
          have HR := Lib.hid hR
          have HT := Lib.hid ht
          have HF := Lib.hid hf
          have hdl := depthsF_len fr'
          clear hD ho hb hR ht hf hp20
          go_wp2_with fail
          (with_reducible refine HD.out.mono ?_)
          rintro e w3 ⟨v3, rfl, ho3, hb3⟩
          obtain ⟨p3, c3, e3⟩ := ho3.isSlice
          rw [rowsN_len, hdl, hln] at e3
          subst e3
          have HO3 := Lib.hid ho3
          have HO7 := Lib.hid (HO.out.keep hb3)
          have HB3 := Lib.hid (HB.out.trans (hb3.mono HB.out.size))
          have HWS := Lib.hid HB.out.size
          clear ho3 hb3 HD HO HB
          have hmx0 : mxL (depthsF fr') 0 = 0 := rfl
          have hmst : ∀ k, mxL (depthsF fr') (k + 1) = if mxL (depthsF fr') k < (depthsF fr').getD k 0 then (depthsF fr').getD k 0 else mxL (depthsF fr') k := fun k => rfl
          have hmf := mxL_fits fr' lim
          rw [hln] at hmf
          have HMST := Lib.hid hmst
          have HMF := Lib.hid hmf
          have HDL := Lib.hid (hdl.trans hln)
          clear hmst hmf hdl
          go_wp2
          go_loop [10, 11] (fun d i => ∃ k : Nat, k ≤ l.length ∧ i = .int .i64 (k : Int) ∧ d = .int .i64 ((mxL (depthsF fr') k : Nat) : Int)) (fun _ i => l.length - (intOf i).toNat)
          case atStart => exact ⟨0, by omega, rfl, by rw [hmx0]; rfl⟩
          case round =>
            obtain ⟨k, hk, rfl, rfl⟩ := hrel
            clear hmx0
            by_cases hlk : k < l.length
            · have d2 : (k : Int) < (l.length : Int) := by omega
              obtain ⟨a3, rfl, cs⟩ := SlN.cell HO3.out.sl (j := k) (by rw [HDL.out]; exact hlk)
              have hst := HMST.out k
              obtain ⟨y, hy⟩ : ∃ y, (depthsF fr').getD k 0 = y := ⟨_, rfl⟩
              obtain ⟨M, hM⟩ : ∃ M, mxL (depthsF fr') k = M := ⟨_, rfl⟩
              rw [hy] at cs hst
              rw [hM] at hst ⊢
              have HST := Lib.hid hst
              clear hst hy hM
              by_cases hmy : M < y
              · have e1 : (M : Int) < (y : Int) := by omega
                have e2 : max (M : Int) (y : Int) = (y : Int) := by omega
                go_wp2
                go_round
                case rel => exact ⟨k + 1, by omega, by go_num, by rw [HST.out, if_pos hmy]⟩
                case measure => simp [intOf]; omega
              · have e1 : ¬ (M : Int) < (y : Int) := by omega
                have e2 : max (M : Int) (y : Int) = (M : Int) := by omega
                go_wp2
                go_round
                case rel => exact ⟨k + 1, by omega, by go_num, by rw [HST.out, if_neg hmy]⟩
                case measure => simp [intOf]; omega
            · obtain rfl : k = l.length := by omega
              have hmf := HMF.out
              obtain ⟨M, hM⟩ : ∃ M, mxL (depthsF fr') l.length = M := ⟨_, rfl⟩
              rw [hM] at hmf ⊢
              clear hM hlk
              by_cases hfit : M ≤ lim
              · have e1 : (M : Int) ≤ (lim : Int) := by omega
                have hRR := lensF_first (k := gk) (hmf.1 hfit)
                rw [HR.out] at hRR
                have hfin : LRet l (lim : Int) w (.returned (.tuple #[.slice p3 l.length c3, .int .i64 0])) w3 := .inr ⟨HYES.out, _, rfl, by rw [HFR.out, Int.toNat_natCast, hRR]; exact HO3.out.base HWS.out, HB3.out⟩
                have HFIN := Lib.hid hfin
                clear hRR hfin hmf hfit
                go_wp2
                go_ret2
                exact HFIN.out
              · have e1 : decide ((M : Int) ≤ (lim : Int)) = false := decide_eq_false (by omega)
                have e1n : decide (M ≤ lim) = false := decide_eq_false hfit
                have hnf : ¬ fitsF fr' lim = true := fun h => hfit (hmf.2 h)
                have hk0 : gk ≠ 0 := fun e => hnf (by
                  subst e
                  exact fits_ones x1 HT.out (fun i => HF.out i))
                obtain ⟨gp, rfl⟩ : ∃ gp, gk = gp + 1 := ⟨gk - 1, by omega⟩
                have hRn : lensF lim gp (halveF fr') = lensF lim 20 fr := by
                  rw [← HR.out]
                  exact (if_neg hnf).symm
                have hn0 : 0 < fr'.length := by
                  rcases Nat.eq_zero_or_pos fr'.length with h | h
                  · refine absurd (decide_eq_true (fun d hd => ?_)) hnf
                    rw [List.eq_nil_of_length_eq_zero (show (depthsF fr').length = 0 by rw [depthsF_len]; exact h)] at hd
                    cases hd
                  · exact h
                obtain ⟨g, cg, rest, hv, hg, hgl, hB, hback⟩ := HO7.out.blkN hn0
                rw [hln] at hv
                cases hv
                have hz : halfF fr' 0 = fr' := halfF_zero fr'
                have HZ : Hid (Blk w3 g 3 (ints .i64 (nn (halfF fr' 0)) ++ rest)) := Lib.hid (by rw [hz]; exact hB)
                have HBK := Lib.hid hback
                have HRN := Lib.hid hRn
                have HLN := Lib.hid hln
                clear hmf hfit hnf hk0 hRn hn0 hB hback hz hln
                go_wp2
                go_loopw [12] (fun i wr => ∃ k : Nat, k ≤ l.length ∧ i = .int .i64 (k : Int) ∧ Blk wr g 3 (ints .i64 (nn (halfF fr' k)) ++ rest) ∧ Below w.heap.size w wr) (fun i _ => l.length - (intOf i).toNat)
                case atStart => exact ⟨0, by omega, rfl, HZ.out, HB3.out⟩
                case round =>
                  obtain ⟨k, hk, rfl, gG, gb⟩ := hrel
                  clear HZ HB3
                  by_cases hlk : k < l.length
                  · have d2 : (k : Int) < (l.length : Int) := by omega
                    have hkf : k < fr'.length := by rw [HLN.out]; exact hlk
                    have c1 := gG.natS (j := k) (by rw [halfF_len]; exact hkf)
                    rw [halfF_getD _ _ _ (by omega), if_neg (by omega)] at c1
                    have f1 := gG.free k
                    have hst := halfF_step fr' k hkf
                    have hsk := halfF_skip fr' k hkf
                    have hfk := HF.out k
                    have hp20 : 2 ^ (gp + 1) ≤ 2 ^ 20 := Nat.pow_le_pow_right (by decide) hgk
                    obtain ⟨y, hy⟩ : ∃ y, fr'.getD k 0 = y := ⟨_, rfl⟩
                    rw [hy] at c1 hst hsk hfk
                    have iy : (y : Int) ≤ 1048576 := by omega
                    by_cases hy0 : 0 < y
                    · have e2 : (0 : Int) < (y : Int) := by omega
                      obtain ⟨z, hzz⟩ : ∃ z, (y + 1) / 2 = z := ⟨_, rfl⟩
                      rw [hzz] at hst
                      have e3 : ((y : Int) + 1) / 2 = (z : Int) := by omega
                      have e4 : (0 : Int) ≤ (y : Int) + 1 := by omega
                      have hG' := gG.setS (j := k) (by rw [halfF_len]; exact hkf) z
                      rw [hst] at hG'
                      have gb' := gb.setCell (p := ⟨g, k, none⟩) hg (.int .i64 (z : Int))
                      have HG' := Lib.hid hG'
                      have HB' := Lib.hid gb'
                      clear hst hsk hfk hp20 hy hzz hG' gb' gG gb hkf
                      go_wp2
                      go_roundw
                      case rel => exact ⟨k + 1, by omega, by go_num, HG'.out, HB'.out⟩
                      case measure => simp [intOf]; omega
                    · have e2 : ¬ (0 : Int) < (y : Int) := by omega
                      have hs2 := hsk (by omega)
                      rw [hs2] at gG
                      have HG' := Lib.hid gG
                      have HB' := Lib.hid gb
                      clear hst hsk hfk hp20 hy hs2 gG gb hkf
                      go_wp2
                      go_roundw
                      case rel => exact ⟨k + 1, by omega, by go_num, HG'.out, HB'.out⟩
                      case measure => simp [intOf]; omega
                  · obtain rfl : k = l.length := by omega
                    rw [← HLN.out, halfF_all] at gG
                    have ho := HBK.out wr (halveF fr') (halveF_len fr') gG
                    have hln2 : (halveF fr').length = l.length := by rw [halveF_len]; exact HLN.out
                    have ht2 : (treesF (halveF fr')).length ≤ 2 ^ lim := by rw [treesF_halve_len]; exact HT.out
                    have hf2 : ∀ i, (halveF fr').getD i 0 ≤ 2 ^ gp := fun i => by
                      have := HF.out i
                      rw [halveF_getD]
                      rw [Nat.pow_succ] at this
                      omega
                    have HO2 := Lib.hid ho
                    have HLN2 := Lib.hid hln2
                    have HT2 := Lib.hid ht2
                    have HF2 := Lib.hid hf2
                    have GB2 := Lib.hid gb
                    clear ho hln2 ht2 hf2 gb gG hlk
                    go_wp2
                    go_roundg gp
                    case rel => exact ⟨halveF fr', HRN.out, HLN2.out, HT2.out, HF2.out, by omega, HO2.out, GB2.out⟩
                    case measure => omega
end Go.Proofs.Ytpjdlkbpnodcdaa
