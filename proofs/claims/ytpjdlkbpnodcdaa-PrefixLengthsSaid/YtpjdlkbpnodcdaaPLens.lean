/- Walks of the program's Lengths. -/
import Derived.Test.YtpjdlkbpnodcdaaPHas
namespace Go.Proofs.Ytpjdlkbpnodcdaa
open Go.RowKit
set_option linter.unusedVariables false

/-- how many come -/
def usedI (l : List Int) : Nat := (l.filter fun x => decide (0 < x)).length
theorem usedI_snoc (l : List Int) (x : Int) : usedI (l ++ [x]) = usedI l + if 0 < x then 1 else 0 := by
  unfold usedI
  rw [List.filter_append, List.length_append]
  by_cases h : 0 < x
  · rw [if_pos h, List.filter_cons_of_pos (by exact decide_eq_true h)]; rfl
  · rw [if_neg h, List.filter_cons_of_neg (by simp [h])]; rfl
theorem usedI_le (l : List Int) : usedI l ≤ l.length := List.length_filter_le _ _
theorem take_snocI (L : List Int) (j : Nat) (h : j < L.length) : L.take (j + 1) = L.take j ++ [L.getD j 0] := by
  rw [List.take_add_one, List.getElem?_eq_getElem h, List.getD_eq_getElem?_getD, List.getElem?_eq_getElem h]
  rfl
theorem getD_memI (L : List Int) (j : Nat) (h : j < L.length) : L.getD j 0 ∈ L := by
  rw [List.getD_eq_getElem?_getD, List.getElem?_eq_getElem h]
  exact List.getElem_mem _
/-- what may come so often -/
def Comes (x : Int) : Prop := 0 ≤ x ∧ x ≤ 1048576
def MayC (l : List Int) (lim : Nat) : Prop := l.length ≤ 300 ∧ (∀ x ∈ l, Comes x) ∧ usedI l ≤ 2 ^ lim
set_option maxRecDepth 100000 in
set_option maxHeartbeats 1000000 in
theorem p_mayCome (l : List Int) (lim : Nat) (p : Option Addr) (cap : Nat) (w : World) (hl : l.length ≤ 1000000) (h1 : 1 ≤ lim) (h2 : lim ≤ 15) (hS : Sl w 1 (.slice p l.length cap) (rowsI l)) (b : Bool) (hb : (b = true ∧ MayC l lim) ∨ (b = false ∧ ¬ MayC l lim)) :
    Calls Try.prog 25 #[.slice p l.length cap, .int .i64 (lim : Int)] w fun e w' => e = .returned (.bool b) ∧ w = w' := by
  have HBB := Lib.hid hb
  have HS := Lib.hid hS
  clear hb hS
  by_cases hlen : l.length ≤ 300
  · have d0 : decide (300 < l.length) = false := decide_eq_false (by omega)
    have d0' : decide ((300 : Int) < (l.length : Int)) = false := decide_eq_false (by omega)
    go_enter Try.func25, Try.ntmps25
    go_wp2
    clear d0 d0'
    go_loop [5, 13] (fun u i => ∃ j : Nat, j ≤ l.length ∧ i = .int .i64 (j : Int) ∧ u = .int .i64 (usedI (l.take j) : Int) ∧ ∀ x ∈ l.take j, Comes x) (fun _ i => l.length - (intOf i).toNat)
    case atStart => exact ⟨0, by omega, rfl, rfl, fun x h => by simp at h⟩
    case round =>
      obtain ⟨j, hj, rfl, rfl, gn⟩ := hrel
      by_cases hlt : j < l.length
      · have d1 : (j : Int) < (l.length : Int) := by omega
        obtain ⟨a, rfl, hc⟩ := SlI.cell HS.out hlt
        have hsn := take_snocI l j hlt
        have hus := usedI_snoc (l.take j) (l.getD j 0)
        rw [← hsn] at hus
        have hmem := getD_memI l j hlt
        have hle := usedI_le (l.take j)
        have hle2 : (l.take j).length ≤ j := by simp; omega
        obtain ⟨x, hx⟩ : ∃ x, l.getD j 0 = x := ⟨_, rfl⟩
        rw [hx] at hc hsn hus hmem
        have HSN := Lib.hid hsn
        have HMEM := Lib.hid hmem
        have GN := Lib.hid gn
        clear hx gn hsn hmem
        by_cases hx : Comes x
        · have hx0 : 0 ≤ x := hx.1
          have hx1 : x ≤ 1048576 := hx.2
          have e1 : decide (x < 0) = false := decide_eq_false (by omega)
          have e2 : decide (1048576 < x) = false := decide_eq_false (by omega)
          have hgn : ∀ y ∈ l.take (j + 1), Comes y := fun y hy => by
            rw [HSN.out] at hy
            rcases List.mem_append.1 hy with hy | hy
            · exact GN.out y hy
            · rw [List.mem_singleton.1 hy]; exact hx
          have HGN := Lib.hid hgn
          by_cases hp : 0 < x
          · have e3 : decide (0 < x) = true := decide_eq_true hp
            rw [if_pos hp] at hus
            have HUS := Lib.hid hus
            clear hgn hus hx
            go_wp2
            go_round
            case rel => exact ⟨j + 1, by omega, by go_num, by rw [HUS.out]; go_num, HGN.out⟩
            case measure => (simp [intOf]; try omega)
          · have e3 : decide (0 < x) = false := decide_eq_false hp
            rw [if_neg hp, Nat.add_zero] at hus
            have HUS := Lib.hid hus
            clear hgn hus hx
            go_wp2
            go_round
            case rel => exact ⟨j + 1, by omega, by go_num, by rw [HUS.out]; rfl, HGN.out⟩
            case measure => (simp [intOf]; try omega)
        · obtain rfl : b = false := by
            rcases HBB.out with ⟨_, h⟩ | ⟨h, _⟩
            · exact absurd (h.2.1 x HMEM.out) hx
            · exact h
          unfold Comes at hx
          by_cases e0 : x < 0
          · have e1 : decide (x < 0) = true := decide_eq_true e0
            clear hx hus
            go_wp2
            go_ret
            exact ⟨rfl, rfl⟩
          · have e1 : decide (x < 0) = false := decide_eq_false e0
            have e2 : decide (1048576 < x) = true := decide_eq_true (by omega)
            clear hx hus
            go_wp2
            go_ret
            exact ⟨rfl, rfl⟩
      · obtain rfl : j = l.length := by omega
        rw [List.take_length] at gn ⊢
        have hpw : 2 ^ lim ≤ 2 ^ 15 := Nat.pow_le_pow_right (by decide) h2
        obtain ⟨pw, hpw0⟩ : ∃ pw : Nat, 2 ^ lim = pw := ⟨_, rfl⟩
        have hcast : ((2 : Int) ^ lim) = (pw : Int) := by rw [← hpw0]; simp
        rw [hpw0] at hpw
        have hw : IntKind.i64.wrap ((2 : Int) ^ lim) = (2 : Int) ^ lim := by rw [hcast]; exact IntWalk.i64_in _ (by omega)
        have i2 : (lim : Int).toNat = lim := by omega
        have i3 : (0 : Int) ≤ (lim : Int) := by omega
        have hd : decide ((usedI l : Int) ≤ (2 : Int) ^ lim) = b := by
          rcases HBB.out with ⟨rfl, h⟩ | ⟨rfl, h⟩
          · have := h.2.2
            rw [hpw0] at this
            rw [hcast]
            exact decide_eq_true (by omega)
          · rw [hcast]
            refine decide_eq_false fun h' => h ⟨hlen, gn, by rw [hpw0]; omega⟩
        clear gn hpw hcast hpw0
        go_wp2
        go_ret
        exact ⟨rfl, rfl⟩
  · obtain rfl : b = false := by
      rcases HBB.out with ⟨_, h⟩ | ⟨h, _⟩
      · exact absurd h.1 hlen
      · exact h
    have d0 : decide (300 < l.length) = true := decide_eq_true (by omega)
    have d0' : decide ((300 : Int) < (l.length : Int)) = true := decide_eq_true (by omega)
    go_enter Try.func25, Try.ntmps25
    go_wp2
    go_ret
    exact ⟨rfl, rfl⟩
set_option maxRecDepth 100000 in
set_option maxHeartbeats 1000000 in
theorem p_Clone (l : List Nat) (v : Value) (w : World) (hl : l.length ≤ 1000000) (hS : Sl w 1 v (rowsN l)) (hnil : v = .slice none 0 0 ∨ ∃ ad n c, v = .slice (some ad) n c) :
    Calls Try.prog 27 #[v] w fun e w' => ∃ v', e = .returned v' ∧ OwnR w' w.heap.size 3 1 v' (rowsN l) ∧ Below w.heap.size w w' := by
  obtain ⟨i0, hi0, hz0, hz1, hz2⟩ := info_parts2 info_int
  obtain ⟨p, cap, rfl⟩ := hS.isSlice
  rw [rowsN_len] at *
  rcases hnil with hv | ⟨ad, n, c, hv⟩
  · simp only [Value.slice.injEq] at hv
    obtain ⟨rfl, h0, rfl⟩ := hv
    have hl0 : l = [] := List.eq_nil_of_length_eq_zero h0
    subst hl0
    have hfin := OwnR.nil w w.heap.size 3 1
    have HF := Lib.hid hfin
    clear hfin hS h0
    simp only [List.length_nil]
    have he : ∀ w : World, (binOp .eql 22 (.slice none 0 0) (.slice none 0 0)).run Try.prog w = .ok (.bool true) w := fun _ => rfl
    go_enter Try.func27, Try.ntmps27
    go_wp2
    go_ret
    exact ⟨_, rfl, HF.out, Below.refl _ _⟩
  · simp only [Value.slice.injEq] at hv
    obtain ⟨rfl, rfl, rfl⟩ := hv
    have k0 := OwnR.empty w w.heap.size 3 1 (Nat.le_refl _)
    have kb := (Below.refl w.heap.size w).alloc (Nat.le_refl _) (.cells #[] 3)
    have hnew := hS.alloc (.cells #[] 3)
    have hone : ∀ r ∈ rowsN l, ∀ u ∈ r, u.oneCell' = true := fun r hr u hu => by
      simp only [rowsN, List.mem_map] at hr
      obtain ⟨n, _, rfl⟩ := hr
      rw [List.mem_singleton.1 hu]
      rfl
    have hlen : ([] : List (List Value)).length + (rowsN l).length ≤ maxLen := by rw [rowsN_len, List.length_nil]; unfold maxLen; omega
    have hby : (([] : List (List Value)).length + (rowsN l).length) * 8 ≤ 140737488355328 := by rw [rowsN_len, List.length_nil]; omega
    have K0 := Lib.hid k0
    have KB := Lib.hid kb
    have HN := Lib.hid hnew
    have HO := Lib.hid hone
    have HL := Lib.hid hlen
    have HBY := Lib.hid hby
    have HSZ : Hid (w.heap.size ≤ (w.alloc (.cells #[] 3)).heap.size) := Lib.hid (kb.size)
    clear k0 kb hnew hone hlen hby hS
    have he : ∀ w : World, (binOp .eql 22 (.slice (some ad) l.length cap) (.slice none 0 0)).run Try.prog w = .ok (.bool false) w := fun _ => rfl
    go_enter Try.func27, Try.ntmps27
    go_wp2_with (refine wpList_append_rows rfl _ _ 22 rfl w.heap.size 3 i0 (.int .i64 0) 1 8 Try.underlying22 hi0 hz0 hz1 hz2 rfl (by decide) _ [] rfl K0.out _ (rowsN l) rfl HN.out HO.out HL.out HBY.out HSZ.out (.inr ⟨_, _, _, rfl⟩) ?_; intro v' w5 ho5 hg5 hv5)
    have gb5 := KB.out.grown hg5 HSZ.out (fun k e => (K0.out.lt k e).1)
    go_ret
    exact ⟨_, rfl, ho5, gb5⟩
/-- a row of numbers of the call's own lies in a block, with more behind it -/
theorem OwnR.blkN {w : World} {base : Nat} {e : TypeId} {v : Value} {l : List Nat} (h : OwnR w base e 1 v (rowsN l)) (h0 : 0 < l.length) :
    ∃ g cap rest, v = .slice (some ⟨g, 0, none⟩) l.length cap ∧ base ≤ g ∧ g < w.heap.size ∧ Blk w g e (ints .i64 (nn l) ++ rest) ∧ ∀ (w' : World) (l' : List Nat), l'.length = l.length → Blk w' g e (ints .i64 (nn l') ++ rest) → OwnR w' base e 1 v (rowsN l') := by
  have fl : ∀ l : List Nat, (rowsN l).flatten = ints .i64 (nn l) := fun l => by
    induction l with
    | nil => rfl
    | cons n l ih =>
      have e : rowsN (n :: l) = [.int .i64 (n : Int)] :: rowsN l := rfl
      rw [e, List.flatten_cons, ih]
      rfl
  have ln : ∀ l : List Nat, (ints .i64 (nn l)).length = l.length := fun l => by rw [ints_length, nn_length]
  obtain ⟨k0, k1, k2⟩ := h
  rw [rowsN_len, fl] at k1 k2
  rcases k2 with ⟨hv, hn⟩ | ⟨g, cap, cur, hv, hg, hh, hn, hm, hcs, htk⟩
  · omega
  · have e0 : cur.toList = ints .i64 (nn l) ++ cur.toList.drop (l.length * 1) := by rw [← htk, List.take_append_drop]
    refine ⟨g, cap, cur.toList.drop (l.length * 1), hv, hg, ?_, ?_, fun w' l' hl hb => ?_⟩
    · rcases Nat.lt_or_ge g w.heap.size with hb | hb
      · exact hb
      · rw [Array.getElem?_eq_none hb] at hh; cases hh
    · unfold Blk
      rw [← e0]
      exact hh
    · refine ⟨fun r hr => ?_, ?_, .inr ⟨g, cap, (ints .i64 (nn l') ++ cur.toList.drop (l.length * 1)).toArray, ?_, hg, hb, ?_, hm, ?_, ?_⟩⟩
      · simp only [rowsN, List.mem_map] at hr
        obtain ⟨n, _, rfl⟩ := hr
        rfl
      · rw [rowsN_len, fl, ln, Nat.mul_one]
      · rw [rowsN_len, hl]; exact hv
      · rw [rowsN_len, hl]; exact hn
      · have hc : cur.toList.length = (ints .i64 (nn l) ++ cur.toList.drop (l.length * 1)).length := by rw [← e0]
        rw [← hcs]
        simp only [List.size_toArray, List.length_append, ln] at hc ⊢
        rw [hl, ← hc]
        simp
      · rw [rowsN_len, fl, Nat.mul_one, List.take_left' (by rw [ln])]
theorem ints_setR (l : List Nat) (rest : List Value) {j : Nat} (h : j < l.length) (x : Nat) : (ints .i64 (nn l) ++ rest).set j (.int .i64 (x : Int)) = ints .i64 (nn (l.set j x)) ++ rest := by
  rw [List.set_append_left _ _ (by rw [ints_length, nn_length]; exact h), ints_set, nn_set]
theorem Blk.natR {w : World} {g : Nat} {t : TypeId} {l : List Nat} {rest : List Value} (h : Blk w g t (ints .i64 (nn l) ++ rest)) {j : Nat} (hj : j < l.length) : w.cell? ⟨g, j, none⟩ = some (.int .i64 ((l.getD j 0 : Nat) : Int)) := by
  rw [h.cell, List.getElem?_append_left (by rw [ints_length, nn_length]; exact hj), ints_get _ _ _ (by rw [nn_length]; exact hj), nn_getD]
/-- the first j as half of them and 1 -/
def halfF (fr : List Nat) (j : Nat) : List Nat := halveF (fr.take j) ++ fr.drop j
theorem halfF_len (fr : List Nat) (j : Nat) : (halfF fr j).length = fr.length := by
  unfold halfF
  rw [List.length_append, halveF_len, List.length_take, List.length_drop]
  omega
theorem halfF_getD (fr : List Nat) (j i : Nat) (hj : j ≤ fr.length) : (halfF fr j).getD i 0 = if i < j then (fr.getD i 0 + 1) / 2 else fr.getD i 0 := by
  unfold halfF
  have hl : (halveF (fr.take j)).length = j := by rw [halveF_len, List.length_take]; omega
  rw [getD_app, hl]
  split
  · rename_i h; rw [halveF_getD, getD_take _ _ _ h]
  · rename_i h; rw [getD_drop]; congr 1; omega
theorem halfF_step (fr : List Nat) (j : Nat) (hj : j < fr.length) : (halfF fr j).set j ((fr.getD j 0 + 1) / 2) = halfF fr (j + 1) := by
  refine getD_ext fr.length (by rw [List.length_set, halfF_len]) (halfF_len _ _) fun i hi => ?_
  rw [getD_set _ _ _ _ (by rw [halfF_len]; exact hj), halfF_getD _ _ _ (by omega), halfF_getD _ _ _ (by omega)]
  by_cases e : j = i
  · subst e
    rw [if_pos rfl, if_pos (by omega)]
  · rw [if_neg e]
    by_cases h : i < j
    · rw [if_pos h, if_pos (by omega)]
    · rw [if_neg h, if_neg (by omega)]
theorem halfF_zero (fr : List Nat) : halfF fr 0 = fr := rfl
theorem halfF_all (fr : List Nat) : halfF fr fr.length = halveF fr := by
  unfold halfF
  rw [List.take_length, List.drop_length, List.append_nil]
set_option maxRecDepth 100000 in
set_option maxHeartbeats 1000000 in
theorem p_halve (base : Nat) (fr : List Nat) (v : Value) (w : World) (hl : fr.length ≤ 300) (hf : ∀ i, fr.getD i 0 ≤ 1048576) (ho : OwnR w base 3 1 v (rowsN fr)) :
    Calls Try.prog 30 #[v] w fun e w' => e = .returned (.tuple #[]) ∧ OwnR w' base 3 1 v (rowsN (halveF fr)) ∧ w.grownBy w' v.ownBlock := by
  by_cases h0 : 0 < fr.length
  · obtain ⟨g, cap, rest, rfl, hg, hgl, hB, hback⟩ := ho.blkN h0
    have hT : Turned w w g 3 (ints .i64 (nn (halfF fr 0)) ++ rest) := Turned.refl hB
    have HT := Lib.hid hT
    have HB := Lib.hid hback
    have HF := Lib.hid hf
    obtain ⟨n, hn⟩ : ∃ n, fr.length = n := ⟨_, rfl⟩
    have HN := Lib.hid hn
    rw [hn] at hl ⊢
    clear hT hback hB ho hf hn
    go_enter Try.func30, Try.ntmps30
    go_wp2
    go_loopw [6] (fun i wr => ∃ j : Nat, j ≤ n ∧ i = .int .i64 (j : Int) ∧ Turned w wr g 3 (ints .i64 (nn (halfF fr j)) ++ rest)) (fun i _ => n - (intOf i).toNat)
    case atStart => exact ⟨0, by omega, rfl, HT.out⟩
    case round =>
      obtain ⟨j, hj, rfl, gt⟩ := hrel
      clear HT
      by_cases hlt : j < n
      · have d1 : (j : Int) < (n : Int) := by omega
        have hjl : j < (halfF fr j).length := by rw [halfF_len]; have := HN.out; omega
        have c1 := gt.2.natR hjl
        rw [halfF_getD _ _ _ (by have := HN.out; omega), if_neg (by omega)] at c1
        have f1 := gt.2.free j
        have hst := halfF_step fr j (by have := HN.out; omega)
        have hfj := HF.out j
        obtain ⟨x, hx⟩ : ∃ x, fr.getD j 0 = x := ⟨_, rfl⟩
        rw [hx] at c1 hst hfj
        obtain ⟨y, hy⟩ : ∃ y, (x + 1) / 2 = y := ⟨_, rfl⟩
        have T := gt.put j (.int .i64 (y : Int))
        rw [ints_setR _ _ hjl, ← hy, hst] at T
        have e1 : ((x : Int) + 1) / 2 = (((x + 1) / 2 : Nat) : Int) := by omega
        have i1 : (0 : Int) ≤ (x : Int) + 1 := by omega
        have i2 : (x : Int) + 1 ≤ 1048577 := by omega
        rw [hy] at e1 T
        have T := Lib.hid T
        clear hst hx hy gt
        go_wp2
        go_roundw
        case rel => exact ⟨j + 1, by omega, by go_num, T.out⟩
        case measure => (simp [intOf]; try omega)
      · obtain rfl : j = n := by omega
        have hj2 := HN.out
        subst hj2
        rw [halfF_all] at gt
        have hfin := HB.out wr (halveF fr) (halveF_len fr) gt.2
        have HFIN := Lib.hid hfin
        have HG := Lib.hid gt.1
        clear gt hfin
        go_wp2
        go_end0
        exact ⟨rfl, HFIN.out, HG.out⟩
  · have hl0 : fr = [] := List.eq_nil_of_length_eq_zero (by omega)
    subst hl0
    obtain ⟨p, cap, rfl⟩ := ho.sl.isSlice
    have HO := Lib.hid ho
    clear ho hf h0
    have el : (rowsN []).length = 0 := rfl
    rw [el] at HO ⊢
    go_enter Try.func30, Try.ntmps30
    go_wp2
    go_loop [6] (fun i => i = .int .i64 0) (fun _ => 0)
    case atStart => rfl
    case round =>
      subst hrel
      go_wp2
      go_end0
      exact ⟨rfl, HO.out, ⟨rfl, rfl, rfl, Nat.le_refl _, fun _ _ _ => rfl⟩⟩
end Go.Proofs.Ytpjdlkbpnodcdaa
