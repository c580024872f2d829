/- Walks of token, Split and Match. -/
import Derived.Test.YtloncdnnblkpdaaWAdd
namespace Go.Proofs.Ytloncdnnblkpdaa
open Go.RowKit
set_option linter.unusedVariables false

/-- the token at a place -/
def tokW (s : List Nat) (p : Nat) : Nat × Int × Int := if (matchW s p).1 = 0 then (s.getD p 0, 0, 0) else (0, ((matchW s p).1 : Int), ((matchW s p).2 : Int))
def rowT (t : Nat × Int × Int) : List Value := [.int .u8 (t.1 : Int), .int .i64 t.2.1, .int .i64 t.2.2]
def rowsT (l : List (Nat × Int × Int)) : List (List Value) := l.map rowT
theorem rowsT_len (l : List (Nat × Int × Int)) : (rowsT l).length = l.length := by simp [rowsT]
theorem rowsT_snoc (l : List (Nat × Int × Int)) (t : Nat × Int × Int) : rowsT (l ++ [t]) = rowsT l ++ [rowT t] := by simp [rowsT]
theorem split_step {s : List Nat} {p : Nat} (hp : p < s.length) : splitW s s.length p = tokW s p :: splitW s s.length (p + max (matchW s p).1 1) := by
  obtain ⟨f, hf⟩ : ∃ f, s.length = f + 1 := ⟨s.length - 1, by omega⟩
  rw [splitW_fuel s s.length (f + 1) p (by omega) (by omega), splitW, if_neg (by omega)]
  unfold tokW
  by_cases h : (matchW s p).1 = 0
  · rw [if_pos h, if_pos h, h, splitW_fuel s f s.length (p + 1) (by omega) (by omega)]
    rfl
  · rw [if_neg h, if_neg h, splitW_fuel s f s.length _ (by omega) (by omega), show max (matchW s p).1 1 = (matchW s p).1 by omega]
theorem split_end {s : List Nat} {p : Nat} (hp : s.length ≤ p) : splitW s s.length p = [] := by
  rw [splitW_fuel s s.length 1 p (by omega) (by omega), splitW, if_pos hp]
theorem match_in {s : List Nat} {p : Nat} (hp : p < s.length) : p + max (matchW s p).1 1 ≤ s.length ∧ (matchW s p).1 ≤ 34 := by
  by_cases h : (matchW s p).1 = 0
  · rw [h]; exact ⟨by omega, by omega⟩
  · have := matchW_is h
    omega
theorem build_tk1 (c : Int) (w : World) : (Instr.build 42 #[(0, .int .u8 c)]).run Try.prog w = .ok (.agg #[.int .u8 c, .int .i64 0, .int .i64 0]) w := by kernel_rfl
theorem build_tk2 (n b : Int) (w : World) : (Instr.build 42 #[(1, .int .i64 n), (2, .int .i64 b)]).run Try.prog w = .ok (.agg #[.int .u8 0, .int .i64 n, .int .i64 b]) w := by kernel_rfl
theorem rowT_arr (c : Nat) (n b : Int) : (rowT (c, n, b)).toArray = #[.int .u8 (c : Int), .int .i64 n, .int .i64 b] := rfl
theorem rowT_one (t : Nat × Int × Int) : (rowT t).toArray.all (·.oneCell') = true := by simp [rowT, Value.oneCell']
theorem size_tk : (Try.prog.info? 42).map (·.size) = some 3 := by kernel_rfl
set_option maxRecDepth 100000 in
set_option maxHeartbeats 1000000 in
theorem p_token {w : World} {B P M : Nat} {v : Value} {s : ByteArray} {n : Nat} (h : PlW w B P M v s n) (p : Nat) (hp : p < s.size) (hn : p + 3 ≤ s.size → n = p) (hs : s.size ≤ 1000000) :
    Calls Try.prog 21 #[.pointer (some ⟨P, 0, none⟩), .int .i64 (p : Int)] w fun e w' => e = .returned (.agg (rowT (tokW (sl s) p)).toArray) ∧ Below w.heap.size w w' := by
  have k0 := Blk.new' w 42 (c := #[.int .u8 0, .int .i64 0, .int .i64 0]) [.int .u8 0, .int .i64 0, .int .i64 0] rfl
  have hb := (Below.refl w.heap.size w).alloc (Nat.le_refl _) (.cells #[.int .u8 0, .int .i64 0, .int .i64 0] 42)
  have hP := h.below hb
  have hM := p_match hP p hp hn (by omega)
  have K0 := Lib.hid k0
  have HB := Lib.hid hb
  have HP := Lib.hid hP
  have HM := Lib.hid hM
  have b1 := build_tk1
  have b2 := build_tk2
  clear k0 hb hP hM hn
  go_enter Try.func21, Try.ntmps21
  go_wp2_with fail
  (with_reducible refine HM.out.mono ?_)
  rintro e w2 ⟨rfl, hd⟩
  have K2 := K0.out.below hd.below K0.out.lt
  have P2 := HP.out.drw hd
  have B2 := HB.out.trans (hd.below.mono (by simp))
  clear HM K0 HP HB hd
  by_cases hm : (matchW (sl s) p).1 = 0
  · have ht : tokW (sl s) p = ((sl s).getD p 0, 0, 0) := by unfold tokW; rw [if_pos hm]
    have c0 := P2.blk.cell 0
    simp only [plc, List.getElem?_cons_zero] at c0
    have hI := fun w => index_sl s .i64 p hp w
    have HT := Lib.hid ht
    have i1 : (p : Int) < (s.size : Int) := by omega
    rw [hm]
    clear ht hm
    generalize (sl s).getD p 0 = c at *
    go_wp2_with (refine wpList_store_blk rfl 42 _ _ rfl w.heap.size (rowT (c, 0, 0)) rfl rfl K2 size_tk rfl (rowT_one _) ?_)
    refine bodyPost_ret (v := .agg (rowT (c, 0, 0)).toArray) (results_cell_blk rfl _ _ _ rfl (K2.row (rowT (c, 0, 0)) rfl) Try.underlying42 rfl size_tk) rfl ⟨by rw [HT.out], below_setRow B2 (Nat.le_refl _) _⟩
  · have ht : tokW (sl s) p = (0, ((matchW (sl s) p).1 : Int), ((matchW (sl s) p).2 : Int)) := by unfold tokW; rw [if_neg hm]
    have HT := Lib.hid ht
    have g1 : (0 : Int) < ((matchW (sl s) p).1 : Int) := by omega
    clear ht
    generalize (matchW (sl s) p).1 = m1 at *
    generalize (matchW (sl s) p).2 = m2 at *
    go_wp2_with (refine wpList_store_blk rfl 42 _ _ rfl w.heap.size (rowT (0, (m1 : Int), (m2 : Int))) rfl rfl K2 size_tk rfl (rowT_one _) ?_)
    refine bodyPost_ret (v := .agg (rowT (0, (m1 : Int), (m2 : Int))).toArray) (results_cell_blk rfl _ _ _ rfl (K2.row (rowT (0, (m1 : Int), (m2 : Int))) rfl) Try.underlying42 rfl size_tk) rfl ⟨by rw [HT.out], below_setRow B2 (Nat.le_refl _) _⟩
/-- of any place -/
def matchZ (s : List Nat) (x : Int) : Nat × Nat := if x < 0 then (0, 0) else matchW s x.toNat
set_option maxRecDepth 100000 in
set_option maxHeartbeats 1000000 in
theorem p_Match (s : ByteArray) (x : Int) (w : World) (hs : s.size ≤ 1000000) :
    Calls Try.prog 9 #[.string s, .int .i64 x] w fun e w' => e = .returned (.tuple #[.int .i64 ((matchZ (sl s) x).1 : Int), .int .i64 ((matchZ (sl s) x).2 : Int)]) ∧ Below w.heap.size w w' := by
  by_cases hx : x < 0
  · have he : matchZ (sl s) x = (0, 0) := by unfold matchZ; rw [if_pos hx]
    have HE := Lib.hid he
    clear he
    go_enter Try.func9, Try.ntmps9
    go_wp2
    go_ret2
    exact ⟨by rw [HE.out]; rfl, Below.refl _ _⟩
  obtain ⟨p, rfl⟩ : ∃ p : Nat, x = (p : Int) := ⟨x.toNat, by omega⟩
  by_cases hp : s.size ≤ p
  · have he : matchZ (sl s) (p : Int) = (0, 0) := by unfold matchZ matchW; rw [if_neg hx, if_pos (by rw [sl_len]; omega)]
    have HE := Lib.hid he
    have g1 : ¬ (p : Int) < 0 := hx
    have g2 : (s.size : Int) ≤ (p : Int) := by omega
    clear he
    go_enter Try.func9, Try.ntmps9
    go_wp2
    go_ret2
    exact ⟨by rw [HE.out]; rfl, Below.refl _ _⟩
  · have g1 : ¬ (p : Int) < 0 := hx
    have g2 : ¬ (s.size : Int) ≤ (p : Int) := by omega
    have i1 : (s.size : Int) ≤ 1000000 := by omega
    have hN := fun t => p_newPlaces t w
    have HN := Lib.hid hN
    have hm : ∀ (t : ByteArray) (q : Nat) (z : Int), z = (q : Int) → t.size ≤ 1000000 → q < t.size → q ≤ 1000000 → matchW (sl t) q = matchW (sl s) p → ∀ w1, PlW w1 w.heap.size (w.heap.size + 1) w.heap.size (.slice none 0 0) t 0 → Below w.heap.size w w1 →
        (Calls Try.prog 18 #[.pointer (some ⟨w.heap.size + 1, 0, none⟩), .int .i64 z] w1 fun e w2 => e = .returned (.tuple #[]) ∧ Calls Try.prog 19 #[.pointer (some ⟨w.heap.size + 1, 0, none⟩), .int .i64 z] w2 fun e w3 => e = .returned (.tuple #[.int .i64 ((matchW (sl s) p).1 : Int), .int .i64 ((matchW (sl s) p).2 : Int)]) ∧ Below w.heap.size w w3) := by
      intro t q z hz ht hq hq2 hmq w1 hP hb
      subst hz
      refine (p_addTo hP q (Nat.zero_le _) hq2 ht).mono ?_
      rintro e w2 ⟨rfl, k, v', hP2, hk, hk2, hA⟩
      refine ⟨rfl, ?_⟩
      have := p_match hP2 q hq (by omega) (by omega)
      rw [hmq] at this
      refine this.mono ?_
      rintro e w3 ⟨rfl, hd⟩
      exact ⟨rfl, (hb.trans hA.below).trans (hd.below.mono (hb.trans hA.below).size)⟩
    have HM := Lib.hid hm
    have he : matchZ (sl s) (p : Int) = matchW (sl s) p := by unfold matchZ; rw [if_neg hx]; rfl
    have HE := Lib.hid he
    clear hN hm he
    rcases Nat.lt_trichotomy p 512 with h5 | h5 | h5
    · have g3 : (p : Int) - 512 < 0 := by omega
      have g4 : (p : Int) < 512 := by omega
      have hpl : p < s.size := by omega
      go_enter Try.func9, Try.ntmps9
      go_wp2_with fail
      (with_reducible refine (HN.out _).mono ?_)
      rintro e w1 ⟨rfl, hP, hb⟩
      have hA := HM.out s p _ rfl hs hpl (by omega) rfl w1 hP hb
      have HA := Lib.hid hA
      clear hA hP hb HN HM
      go_wp2_with fail
      (with_reducible refine HA.out.mono ?_)
      rintro e w2 ⟨rfl, hM⟩
      have HM := Lib.hid hM
      clear hM HA
      go_wp2_with fail
      (with_reducible refine HM.out.mono ?_)
      rintro e w3 ⟨rfl, hb⟩
      go_wp2
      go_ret2
      exact ⟨by rw [HE.out]; rfl, hb⟩
    · subst h5
      have hpl : 512 < s.size := by omega
      go_enter Try.func9, Try.ntmps9
      go_wp2_with fail
      (with_reducible refine (HN.out _).mono ?_)
      rintro e w1 ⟨rfl, hP, hb⟩
      have hA := HM.out s 512 512 rfl hs hpl (by omega) rfl w1 hP hb
      have HA := Lib.hid hA
      clear hA hP hb HN HM
      go_wp2_with fail
      (with_reducible refine HA.out.mono ?_)
      rintro e w2 ⟨rfl, hM⟩
      have HM := Lib.hid hM
      clear hM HA
      go_wp2_with fail
      (with_reducible refine HM.out.mono ?_)
      rintro e w3 ⟨rfl, hb⟩
      go_wp2
      go_ret2
      exact ⟨by rw [HE.out]; rfl, hb⟩
    · have g3 : (0 : Int) < (p : Int) - 512 := by omega
      have g4 : (512 : Int) < (p : Int) := by omega
      have hpl : p < s.size := by omega
      have e5 : ((p : Int) - 512).toNat = p - 512 := by omega
      have hsl := sl_tail s (p - 512)
      have hmq : matchW (sl (s.extract (p - 512) s.size)) 512 = matchW (sl s) p := by
        rw [hsl, matchW_drop (sl s) (.inr rfl), show 512 + (p - 512) = p by omega]
      have hsz : (s.extract (p - 512) s.size).size = s.size - (p - 512) := by rw [← sl_len, hsl, List.length_drop, sl_len]
      have HMQ := Lib.hid hmq
      have HSZ := Lib.hid hsz
      clear hsl hmq hsz
      go_enter Try.func9, Try.ntmps9
      go_wp2_with fail
      (with_reducible refine (HN.out _).mono ?_)
      rintro e w1 ⟨rfl, hP, hb⟩
      have hA := HM.out _ 512 512 rfl (by rw [HSZ.out]; omega) (by rw [HSZ.out]; omega) (by omega) HMQ.out w1 hP hb
      have HA := Lib.hid hA
      clear hA hP hb HN HM
      go_wp2_with fail
      (with_reducible refine HA.out.mono ?_)
      rintro e w2 ⟨rfl, hM⟩
      have HM := Lib.hid hM
      clear hM HA
      go_wp2_with fail
      (with_reducible refine HM.out.mono ?_)
      rintro e w3 ⟨rfl, hb⟩
      go_wp2
      go_ret2
      exact ⟨by rw [HE.out]; rfl, hb⟩
theorem AddT.keeps {w w' : World} {B P M : Nat} {v v' : Value} (h : AddT w w' B P M v v') {base : Nat} {e : TypeId} {k : Nat} {x : Value} {rows : List (List Value)} (ho : OwnR w base e k x rows) (hne : ∀ i, x.ownBlock = some i → i ≠ P ∧ i ≠ M ∧ some i ≠ v.ownBlock) : OwnR w' base e k x rows := by
  obtain ⟨k0, k1, k2⟩ := ho
  refine ⟨k0, k1, ?_⟩
  rcases k2 with h2 | ⟨g, cap, cur, hv, hgg, hh, rest⟩
  · exact .inl h2
  · refine .inr ⟨g, cap, cur, hv, hgg, ?_, rest⟩
    have hlt : g < w.heap.size := by
      rcases Nat.lt_or_ge g w.heap.size with hb | hb
      · exact hb
      · rw [Array.getElem?_eq_none hb] at hh; cases hh
    obtain ⟨q1, q2, q3⟩ := hne g (by rw [hv]; rfl)
    rw [h.block g hlt q1 q2 q3]
    exact hh
theorem info_tk : (Try.prog.info? 42).map (fun i => (i.zero, i.size, i.bytes)) = some (some (.agg #[.int .u8 0, .int .i64 0, .int .i64 0]), 3, 24) := by kernel_rfl
set_option maxRecDepth 100000 in
set_option maxHeartbeats 2000000 in
theorem p_Split (s : ByteArray) (w : World) (hs : s.size ≤ 100000) :
    Calls Try.prog 13 #[.string s] w (OwnRetR 42 3 (rowsT (splitW (sl s) s.size 0)) w) := by
  obtain ⟨i0, hi0, hz0, hz1, hz2⟩ := info_parts2 info_tk
  have hN := p_newPlaces s w
  have HN := Lib.hid hN
  have i1 : (s.size : Int) ≤ 100000 := by omega
  clear hN
  go_enter Try.func13, Try.ntmps13
  go_wp2_with fail
  (with_reducible refine HN.out.mono ?_)
  rintro e w1 ⟨rfl, hP, hb⟩
  have HP := Lib.hid hP
  have HB := Lib.hid hb
  clear hP hb HN
  go_wp2
  go_loopw [3, 5] (fun l i wr => ∃ (p n : Nat) (v lv : Value) (T : List (Nat × Int × Int)), lv = l ∧ i = .int .i64 (p : Int) ∧ p ≤ s.size ∧ n ≤ p ∧ PlW wr w.heap.size (w.heap.size + 1) w.heap.size v s n ∧ OwnR wr w.heap.size 42 3 lv (rowsT T) ∧ T ++ splitW (sl s) s.size p = splitW (sl s) s.size 0 ∧ T.length ≤ p ∧ Below w.heap.size w wr) (fun _ i _ => s.size - (intOf i).toNat)
  case atStart => exact ⟨0, 0, _, _, [], rfl, rfl, by omega, by omega, HP.out, OwnR.nil _ _ _ _, rfl, by simp, HB.out⟩
  case round =>
    obtain ⟨p, n, v, lv, T, rfl, rfl, hp, hn, gP, gO, gT, gl, gb⟩ := hrel
    clear HP HB
    by_cases hlt : p < s.size
    · have d1 : (p : Int) < (s.size : Int) := by omega
      have hA := p_addTo gP p hn (by omega) (by omega)
      have hne : ∀ i, lv.ownBlock = some i → i ≠ w.heap.size + 1 ∧ i ≠ w.heap.size ∧ some i ≠ v.ownBlock := fun i hi => ⟨gO.ne gP.blk (by decide) i hi, own_ne_map gO gP.map i hi, gO.apart gP.own (by decide) i hi⟩
      have HA := Lib.hid hA
      have HNE := Lib.hid hne
      have GO := Lib.hid gO
      have GT := Lib.hid gT
      have GB := Lib.hid gb
      clear hA hne gP gO gT gb
      go_wp2_with fail
      (with_reducible refine HA.out.mono ?_)
      rintro e w2 ⟨rfl, n2, v2, hP2, hn2, hn3, hA2⟩
      have O2 := hA2.keeps GO.out HNE.out
      have B2 := GB.out.trans hA2.below
      have hTk := p_token hP2 p hlt (by omega) (by omega)
      have HTK := Lib.hid hTk
      have HP2 := Lib.hid hP2
      have HO2 := Lib.hid O2
      have HB2 := Lib.hid B2
      clear HA HNE GO GB hP2 hA2 O2 B2 hTk
      go_wp2_with fail
      (with_reducible refine HTK.out.mono ?_)
      rintro e w3 ⟨rfl, hb3⟩
      have hP3 := HP2.out.below hb3
      have hO3 := HO2.out.keep hb3
      have hB3 := HB2.out.trans (hb3.mono HB2.out.size)
      have hst := split_step (s := sl s) (p := p) (by rw [sl_len]; exact hlt)
      rw [sl_len] at hst
      have hin := match_in (s := sl s) (p := p) (by rw [sl_len]; exact hlt)
      rw [sl_len] at hin
      have hq3 : (matchW (sl s) p).1 = 0 ∨ 3 ≤ (matchW (sl s) p).1 := by
        by_cases h : (matchW (sl s) p).1 = 0
        · exact .inl h
        · exact .inr (matchW_is h).1
      have htok : (tokW (sl s) p).2.1 = ((matchW (sl s) p).1 : Int) := by
        unfold tokW
        split
        · rename_i h; rw [h]; rfl
        · rfl
      obtain ⟨c, m, b, hc⟩ : ∃ c m b, tokW (sl s) p = (c, m, b) := ⟨_, _, _, rfl⟩
      obtain ⟨q, hq⟩ : ∃ q, (matchW (sl s) p).1 = q := ⟨_, rfl⟩
      rw [hc, hq] at hst
      rw [hc, hq] at htok
      rw [hq] at hin hq3
      obtain rfl : m = (q : Int) := htok
      rw [hc]
      have K4 := Blk.new' w3 42 (c := #[.int .u8 0, .int .i64 0, .int .i64 0]) [.int .u8 0, .int .i64 0, .int .i64 0] rfl
      have K5 := K4.row (rowT (c, (q : Int), b)) rfl
      obtain ⟨w5, hw5⟩ : ∃ w5, (w3.alloc (.cells #[.int .u8 0, .int .i64 0, .int .i64 0] 42)).setRow w3.heap.size (rowT (c, (q : Int), b)).toArray = w5 := ⟨_, rfl⟩
      have hb5 : Below w3.heap.size w3 w5 := by rw [← hw5]; exact below_setRow ((Below.refl _ _).alloc (Nat.le_refl _) _) (Nat.le_refl _) _
      rw [hw5] at K5
      have hP5 := hP3.below hb5
      have hO5 := hO3.keep hb5
      have hB5 := hB3.trans (hb5.mono hB3.size)
      have k6 := Blk.new' w5 42 (c := #[.int .u8 (c : Int), .int .i64 (q : Int), .int .i64 b]) (rowT (c, (q : Int), b)) rfl
      have hb6 := (Below.refl w5.heap.size w5).alloc (Nat.le_refl _) (.cells #[.int .u8 (c : Int), .int .i64 (q : Int), .int .i64 b] 42)
      have hnews := sl_one k6
      have hown := hO5.keep hb6
      have hP6 := hP5.below hb6
      have hB6 := hB5.trans (hb6.mono hB5.size)
      have K6 := K5.below hb6 K5.lt
      have hlo := hown.lt
      have hl3 : ∀ i, lv.ownBlock = some i → i < w3.heap.size := fun i e => (hO3.lt i e).2
      have HL3 := Lib.hid hl3
      have hone : ∀ r ∈ [rowT (c, (q : Int), b)], ∀ u ∈ r, u.oneCell' = true := by simp [rowT, Value.oneCell']
      have hlen : (rowsT T).length + [rowT (c, (q : Int), b)].length ≤ maxLen := by rw [rowsT_len, List.length_singleton]; unfold maxLen; omega
      have hby : ((rowsT T).length + [rowT (c, (q : Int), b)].length) * 24 ≤ 140737488355328 := by rw [rowsT_len, List.length_singleton]; omega
      have KK4 := Lib.hid K4
      have KK5 := Lib.hid K5
      have KK6 := Lib.hid K6
      have HW5 := Lib.hid hw5
      have HP6 := Lib.hid hP6
      have HB6 := Lib.hid hB6
      have HOW := Lib.hid hown
      have HNW := Lib.hid hnews
      have HLO := Lib.hid hlo
      have HONE := Lib.hid hone
      have HLEN := Lib.hid hlen
      have HBY := Lib.hid hby
      have HBA := Lib.hid hB6.size
      have HST := Lib.hid hst
      clear hP3 hO3 hB3 hst hc hq K4 K5 hw5 hb5 hP5 hO5 hB5 k6 hb6 hnews hown hP6 hB6 K6 hlo hl3 hone hlen hby HP2 HO2 HB2 HTK hb3
      have hadd : ∀ w7, (w5.alloc (.cells #[.int .u8 (c : Int), .int .i64 (q : Int), .int .i64 b] 42)).grownBy w7 lv.ownBlock → PlW w7 w.heap.size (w.heap.size + 1) w.heap.size v2 s n2 := fun w7 hg => by
        have h6 := HP6.out
        have ho := HOW.out
        exact ⟨h6.blk.grownO hg (ho.ne h6.blk (by decide)), h6.map.kept hg (fun e => own_ne_map ho h6.map _ e.symm rfl), h6.own.grownO hg (fun i hi e => ho.apart h6.own (by decide) i e.symm hi.symm), h6.hP, h6.hM⟩
      have HADD := Lib.hid hadd
      clear hadd
      rcases hq3 with hq3 | hq3
      · have g5 : (q : Int) < 1 := by omega
        have hmx : max q 1 = 1 := by omega
        have HMX := Lib.hid hmx
        rw [hmx] at hin
        clear hmx hq3
        go_wp2_with (first | (refine wpList_store_blk rfl 42 _ _ rfl w3.heap.size (rowT (c, (q : Int), b)) rfl rfl KK4.out size_tk rfl (rowT_one _) ?_) | (rw [HW5.out]; refine wpList_load_blk rfl 42 _ rfl w3.heap.size rfl KK5.out Try.underlying42 rfl size_tk ?_; rw [show (rowT (c, (q : Int), b)).toArray = #[.int .u8 (c : Int), .int .i64 (q : Int), .int .i64 b] from rfl]) | (refine wpList_append_rows rfl _ _ 28 rfl w.heap.size 42 i0 (.agg #[.int .u8 0, .int .i64 0, .int .i64 0]) 3 24 Try.underlying28 hi0 hz0 hz1 hz2 rfl (by decide) _ (rowsT T) rfl HOW.out (.slice (some ⟨w5.heap.size, 0, none⟩) 1 1) [rowT (c, (q : Int), b)] rfl HNW.out HONE.out HLEN.out HBY.out HBA.out (.inr ⟨_, _, _, rfl⟩) ?_; intro v7 w7 ho7 hg7 hv7; have c7 := (KK6.out.grownO hg7 (fun i e => Nat.ne_of_lt (HL3.out i e))).cell 1; simp only [rowT, List.getElem?_cons_zero, List.getElem?_cons_succ] at c7))
        go_roundw
        case rel => exact ⟨p + 1, n2, v2, v7, T ++ [(c, (q : Int), b)], rfl, by go_num, by omega, by omega, HADD.out w7 hg7, by rw [rowsT_snoc]; exact ho7, by rw [List.append_assoc, ← GT.out, HST.out]; rw [HMX.out]; rfl, by rw [List.length_append, List.length_singleton]; omega, HB6.out.grown hg7 HBA.out (fun k e => (HLO.out k e).1)⟩
        case measure => (simp [intOf]; try omega)
      · have g5 : (1 : Int) < (q : Int) := by omega
        have hmx : max q 1 = q := by omega
        have HMX := Lib.hid hmx
        rw [hmx] at hin
        clear hmx hq3
        go_wp2_with (first | (refine wpList_store_blk rfl 42 _ _ rfl w3.heap.size (rowT (c, (q : Int), b)) rfl rfl KK4.out size_tk rfl (rowT_one _) ?_) | (rw [HW5.out]; refine wpList_load_blk rfl 42 _ rfl w3.heap.size rfl KK5.out Try.underlying42 rfl size_tk ?_; rw [show (rowT (c, (q : Int), b)).toArray = #[.int .u8 (c : Int), .int .i64 (q : Int), .int .i64 b] from rfl]) | (refine wpList_append_rows rfl _ _ 28 rfl w.heap.size 42 i0 (.agg #[.int .u8 0, .int .i64 0, .int .i64 0]) 3 24 Try.underlying28 hi0 hz0 hz1 hz2 rfl (by decide) _ (rowsT T) rfl HOW.out (.slice (some ⟨w5.heap.size, 0, none⟩) 1 1) [rowT (c, (q : Int), b)] rfl HNW.out HONE.out HLEN.out HBY.out HBA.out (.inr ⟨_, _, _, rfl⟩) ?_; intro v7 w7 ho7 hg7 hv7; have c7 := (KK6.out.grownO hg7 (fun i e => Nat.ne_of_lt (HL3.out i e))).cell 1; simp only [rowT, List.getElem?_cons_zero, List.getElem?_cons_succ] at c7))
        go_roundw
        case rel => exact ⟨p + q, n2, v2, v7, T ++ [(c, (q : Int), b)], rfl, by go_num, by omega, by omega, HADD.out w7 hg7, by rw [rowsT_snoc]; exact ho7, by rw [List.append_assoc, ← GT.out, HST.out]; rw [HMX.out]; rfl, by rw [List.length_append, List.length_singleton]; omega, HB6.out.grown hg7 HBA.out (fun k e => (HLO.out k e).1)⟩
        case measure => (simp [intOf]; try omega)
    · obtain rfl : p = s.size := by omega
      have he := split_end (s := sl s) (p := s.size) (by rw [sl_len]; omega)
      rw [sl_len] at he
      rw [he, List.append_nil] at gT
      have GT := Lib.hid gT
      have GO := Lib.hid gO
      have GB := Lib.hid gb
      clear gP gT gO gb he
      go_wp2
      go_ret
      exact ⟨_, rfl, by rw [← GT.out]; exact GO.out, GB.out⟩
end Go.Proofs.Ytloncdnnblkpdaa
