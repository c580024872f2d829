/- Walk of the program's Codes. -/
import Derived.Test.YtpjdlkbpnodcdaaPCodes
namespace Go.Proofs.Ytpjdlkbpnodcdaa
open Go.RowKit
set_option linter.unusedVariables false

theorem made_two (a b : Value) (n : Nat) : (madeCells #[a, b] (n * 2)).toList = (List.replicate n [a, b]).flatten := by
  have hk : ∀ r ∈ List.replicate n [a, b], r.length = 2 := fun r hr => by rw [(List.mem_replicate.1 hr).2]; rfl
  apply List.ext_getElem?
  intro j
  by_cases hj : j < n * 2
  · have h1 : (List.replicate n [a, b])[j / 2]? = some [a, b] := by rw [List.getElem?_replicate, if_pos (by omega)]
    have h2 : ([a, b] : List Value)[j % 2]? = some (if j % 2 = 0 then a else b) := by
      rcases (show j % 2 = 0 ∨ j % 2 = 1 by omega) with e | e <;> rw [e] <;> rfl
    have h3 := flat_at hk h1 h2
    rw [show j / 2 * 2 + j % 2 = j by omega] at h3
    rw [h3]
    have h4 : (madeCells #[a, b] (n * 2)).toList[j]? = some ((#[a, b] : Array Value)[j % 2]!) := by
      simp [madeCells, hj]
    rw [h4]
    rcases (show j % 2 = 0 ∨ j % 2 = 1 by omega) with e | e <;> rw [e] <;> rfl
  · rw [List.getElem?_eq_none (by simp [madeCells]; omega), List.getElem?_eq_none (by rw [flat_len hk, List.length_replicate]; omega)]
theorem info_piece : (Try.prog.info? 39).map (fun i => (i.zero, i.size, i.bytes)) = some (some (.agg #[.int .u32 0, .int .i64 0]), 2, 16) := by kernel_rfl
theorem make_pieces (n : Nat) (h : n ≤ 1000000) (w : World) : (Instr.makeSlice 29 (.int .i64 (n : Int)) (.int .i64 (n : Int))).run Try.prog w = .ok (.slice (some ⟨w.heap.size, 0, none⟩) n n) (w.alloc (.cells (rowsP (List.replicate n (0, 0))).flatten.toArray 39)) := by
  obtain ⟨i0, hi0, hz0, hz1, hz2⟩ := info_parts2 info_piece
  have hr := run_make (P := Try.prog) w 29 39 i0 (.agg #[.int .u32 0, .int .i64 0]) Try.underlying29 hi0 hz0 .i64 .i64 n n (by omega) (Int.le_refl _) (by rw [hz2]; omega) (by omega)
  simp only [Int.toNat_natCast, hz1] at hr
  have e : madeCells (Value.agg #[.int .u32 0, .int .i64 0]).cells (n * 2) = (rowsP (List.replicate n (0, 0))).flatten.toArray := by
    apply Array.ext'
    rw [show (Value.agg #[.int .u32 0, .int .i64 0]).cells = #[.int .u32 0, .int .i64 0] from rfl, made_two]
    unfold rowsP
    rw [List.map_replicate]
    rfl
  rw [hr, e]
/-- the pieces of the first i symbols -/
def pcP (L : List Nat) (i : Nat) : List (Nat × Int) := (List.range L.length).map fun k => if k < i then (codeW L k, ((L.getD k 0 : Nat) : Int)) else (0, 0)
/-- the symbols' pieces -/
def pcW (L : List Nat) : List (Nat × Int) := (List.range L.length).map fun k => (codeW L k, ((L.getD k 0 : Nat) : Int))
theorem pcP_len (L : List Nat) (i : Nat) : (pcP L i).length = L.length := by simp [pcP]
theorem pcW_len (L : List Nat) : (pcW L).length = L.length := by simp [pcW]
theorem pcP_zero (L : List Nat) : pcP L 0 = List.replicate L.length (0, 0) := by
  unfold pcP
  refine List.eq_replicate_iff.2 ⟨by simp, fun b hb => ?_⟩
  obtain ⟨k, _, rfl⟩ := List.mem_map.1 hb
  exact if_neg (by omega)
theorem pcP_all (L : List Nat) : pcP L L.length = pcW L := by
  unfold pcP pcW
  refine List.map_congr_left fun k hk => ?_
  rw [if_pos (List.mem_range.1 hk)]
theorem pcP_get (L : List Nat) {i k : Nat} (h : k < L.length) : (pcP L i)[k]? = some (if k < i then (codeW L k, ((L.getD k 0 : Nat) : Int)) else (0, 0)) := by
  unfold pcP
  rw [List.getElem?_map, List.getElem?_range h]
  rfl
theorem codeW_none {L : List Nat} {i : Nat} (h : L.getD i 0 = 0) : codeW L i = 0 := by
  unfold codeW
  rw [h]
  rfl
theorem pcP_step (L : List Nat) {i : Nat} (h : i < L.length) : pcP L (i + 1) = (pcP L i).set i (codeW L i, ((L.getD i 0 : Nat) : Int)) := by
  apply List.ext_getElem?
  intro k
  by_cases hk : k < L.length
  · rw [pcP_get L hk, List.getElem?_set]
    by_cases e : i = k
    · subst e
      rw [if_pos (by omega), if_pos rfl, if_pos (by rw [pcP_len]; exact h)]
    · rw [if_neg e, pcP_get L hk]
      by_cases h' : k < i
      · rw [if_pos h', if_pos (by omega)]
      · rw [if_neg h', if_neg (by omega)]
  · rw [List.getElem?_eq_none (by rw [pcP_len]; omega), List.getElem?_eq_none (by rw [List.length_set, pcP_len]; omega)]
theorem pcP_same (L : List Nat) {i : Nat} (h : i < L.length) (h0 : L.getD i 0 = 0) : pcP L (i + 1) = pcP L i := by
  rw [pcP_step L h, codeW_none h0, h0]
  apply List.ext_getElem?
  intro k
  rw [List.getElem?_set]
  by_cases e : i = k
  · subst e
    rw [if_pos rfl, if_pos (by rw [pcP_len]; exact h), pcP_get L h, if_neg (by omega)]
    rfl
  · rw [if_neg e]
/-- one row of many -/
theorem rows_split (l : List (Nat × Int)) {i : Nat} (h : i < l.length) : (rowsP l).flatten = (rowsP (l.take i)).flatten ++ (rowP l[i] ++ (rowsP (l.drop (i + 1))).flatten) := by
  have e : l = l.take i ++ (l[i] :: l.drop (i + 1)) := by
    rw [← List.drop_eq_getElem_cons h, List.take_append_drop]
  conv => lhs; rw [e]
  unfold rowsP
  rw [List.map_append, List.flatten_append, List.map_cons, List.flatten_cons]
theorem rows_set (l : List (Nat × Int)) {i : Nat} (h : i < l.length) (q : Nat × Int) : (rowsP (l.set i q)).flatten = (rowsP (l.take i)).flatten ++ (rowP q ++ (rowsP (l.drop (i + 1))).flatten) := by
  have hl : i < (l.set i q).length := by rw [List.length_set]; exact h
  rw [rows_split _ hl, List.take_set_of_le (Nat.le_refl _), List.drop_set_of_lt (by omega), List.getElem_set_self]
theorem rowsP_flen (l : List (Nat × Int)) : (rowsP l).flatten.length = l.length * 2 := by
  rw [flat_len (k := 2) (fun r hr => by
    simp only [rowsP, List.mem_map] at hr
    obtain ⟨q, _, rfl⟩ := hr
    rfl), rowsP_len]
theorem rows_at (l : List (Nat × Int)) {i : Nat} (h : i < l.length) : ∃ X Y Z : List Value, (rowsP l).flatten = X ++ (Y ++ Z) ∧ X.length = i * 2 ∧ Y.length = 2 ∧ ∀ q, (rowsP (l.set i q)).flatten = X ++ (rowP q ++ Z) :=
  ⟨_, _, _, rows_split l h, by rw [rowsP_flen, List.length_take]; omega, rfl, fun q => rows_set l h q⟩
/-- pieces and an error -/
def PcRet (L : List Nat) (w : World) (e : Ending) (w' : World) : Prop := ∃ g, e = .returned (.tuple #[.slice (some ⟨g, 0, none⟩) L.length L.length, .int .i64 0]) ∧ Blk w' g 39 (rowsP (pcW L)).flatten ∧ w.heap.size ≤ g ∧ Below w.heap.size w w'
theorem p_Codes_no (l : List Int) (p : Option Addr) (cap : Nat) (w : World) (hl : l.length ≤ 310) (hS : Sl w 1 (.slice p l.length cap) (rowsI l)) (hno : ¬ RightI l) :
    Calls Try.prog 14 #[.slice p l.length cap] w fun e w' => e = .returned (.tuple #[.slice none 0 0, .int .i64 70]) ∧ Below w.heap.size w w' := by
  have hC := p_areCode l p cap w hl hS false (.inr ⟨rfl, hno⟩)
  have HC := Lib.hid hC
  clear hC hS hno
  go_enter Try.func14, Try.ntmps14
  go_wp2_with fail
  (with_reducible refine HC.out.mono ?_)
  rintro e w1 ⟨rfl, hb1⟩
  go_wp2
  go_ret2
  exact ⟨rfl, hb1⟩
set_option maxRecDepth 100000 in
set_option maxHeartbeats 2000000 in
theorem p_Codes_yes (L : List Nat) (p : Option Addr) (cap : Nat) (w : World) (hR : RightN L) (hS : Sl w 1 (.slice p L.length cap) (rowsN L)) :
    Calls Try.prog 14 #[.slice p L.length cap] w (PcRet L w) := by
  have hl := hR.1
  have hS' := hS
  rw [← rowsI_nn] at hS'
  have hC1 := p_areCode (nn L) p cap w (by rw [nn_length]; omega) (by rw [nn_length]; exact hS') true (.inl ⟨rfl, hR.int⟩)
  rw [nn_length] at hC1
  have hC2 := fun w1 (h : Below w.heap.size w w1) => p_count (nn L) p cap w1 (by rw [nn_length]; omega) (by rw [nn_length]; exact hS'.below h)
  rw [clL_nn hR.2.1, nn_length] at hC2
  have hC3 := fun w1 => p_firsts L w1 (by omega)
  have hfl := fstL_len L
  have hTU := fun (i : Nat) (hi : i < L.length) (h0 : 0 < L.getD i 0) (w1 : World) => p_turned (wordW L i) (L.getD i 0) w1 h0 (hR.2.1 i) (wordW_lt L hi h0 (hR.2.1 i) hR.le)
  have hword := fun (i : Nat) (hi : i < L.length) (h0 : 0 < L.getD i 0) => wordW_lt L hi h0 (hR.2.1 i) hR.le
  have h15 := hR.2.1
  have hmk := fun w => make_pieces L.length (by omega) w
  obtain ⟨n, hn⟩ : ∃ n, L.length = n := ⟨_, rfl⟩
  have HNN := Lib.hid hn
  have HC1 := Lib.hid hC1
  have HC2 := Lib.hid hC2
  have HC3 := Lib.hid hC3
  have HFL := Lib.hid hfl
  have HTU := Lib.hid hTU
  have HWD := Lib.hid hword
  have H15 := Lib.hid h15
  have HMK := Lib.hid hmk
  have HS := Lib.hid hS
  have HMK2 : Hid (∀ w1 : World, (Instr.makeSlice 29 (.int .i64 (n : Int)) (.int .i64 (n : Int))).run Try.prog w1 = .ok (.slice (some ⟨w1.heap.size, 0, none⟩) n n) (w1.alloc (.cells (rowsP (pcP L 0)).flatten.toArray 39))) := Lib.hid (fun w1 => by rw [pcP_zero, HNN.out]; have := HMK.out w1; rw [HNN.out] at this; exact this)
  rw [hn] at HC1 HC2 HS hl ⊢
  clear hS hS' hC1 hC2 hC3 hfl hTU hword h15 hmk HMK hn hR
  go_enter Try.func14, Try.ntmps14
  go_wp2_with fail
  (with_reducible refine HC1.out.mono ?_)
  rintro e w1 ⟨rfl, hb1⟩
  have hC2 := HC2.out w1 hb1
  have hC2 := Lib.hid hC2
  clear HC1 HC2
  go_wp2_with fail
  (with_reducible refine hC2.out.mono ?_)
  rintro e w2 ⟨rfl, hb2⟩
  have hb02 := hb1.trans (hb2.mono hb1.size)
  have hC3 := HC3.out w2
  have hC3 := Lib.hid hC3
  clear hC2 HC3 hb1 hb2
  go_wp2_with fail
  (with_reducible refine hC3.out.mono ?_)
  rintro e w3 ⟨rfl, hb3⟩
  have hb03 := hb02.trans (hb3.mono hb02.size)
  clear hC3 hb02 hb3
  generalize hff : fstL L = f at *
  have HFF := Lib.hid hff
  clear hff
  have KZ := Blk.new' w3 65 (ints .i64 (nn (zerN 16))) rfl
  have K4 : Blk ((w3.alloc (.cells (ints .i64 (nn (zerN 16))).toArray 65)).setRow w3.heap.size (ints .i64 (nn f)).toArray) w3.heap.size 65 (ints .i64 (nn f)) := KZ.row _ (by rw [ints_length, ints_length, nn_length, nn_length, HFL.out, zerN_len])
  have Kb4 : Below w.heap.size w ((w3.alloc (.cells (ints .i64 (nn (zerN 16))).toArray 65)).setRow w3.heap.size (ints .i64 (nn f)).toArray) := below_setRow (hb03.alloc hb03.size _) hb03.size _
  obtain ⟨w5, hw5⟩ : ∃ w5, ((w3.alloc (.cells (ints .i64 (nn (zerN 16))).toArray 65)).setRow w3.heap.size (ints .i64 (nn f)).toArray).alloc (.cells (rowsP (pcP L 0)).flatten.toArray 39) = w5 := ⟨_, rfl⟩
  obtain ⟨F, hF⟩ : ∃ F, w3.heap.size = F := ⟨_, rfl⟩
  have K5 : Blk w5 (F + 1) 39 (rowsP (pcP L 0)).flatten := by rw [← hw5, ← hF]; exact Blk.newAt _ _ (by simp) _ _ rfl
  have K5f : Blk w5 F 65 (ints .i64 (nn (nextL L 0))) := by rw [← hw5, nextL_zero, HFF.out, ← hF]; exact K4.alloc _
  have Kb5 : Below w.heap.size w w5 := by rw [← hw5]; exact Kb4.alloc Kb4.size _
  obtain ⟨g, hg⟩ : ∃ g, F + 1 = g := ⟨_, rfl⟩
  rw [hg] at K5
  have hFg : F < g := by omega
  have hwF : w.heap.size ≤ F := by have := hb03.size; omega
  have hgw : w.heap.size ≤ g := by omega
  have KZ := Lib.hid KZ
  have HK5 := Lib.hid K5
  have HK5f := Lib.hid K5f
  have HKb5 := Lib.hid Kb5
  have HW5 := Lib.hid hw5
  have HF := Lib.hid hF
  have HG := Lib.hid hg
  have hmk := HMK2.out
  clear K4 Kb4 K5 K5f Kb5 hw5 hF hg hb03 HMK2
  go_wp2_with (first | (refine wpList_alloc_n rfl 65 rfl w3.heap.size rfl _ (alloc_cnts _) ?_) | (refine wpList_store_blk rfl 65 _ _ rfl w3.heap.size (ints .i64 (nn f)) rfl rfl KZ.out (ints16 HFL.out) (by rw [ints_length, ints_length, nn_length, nn_length, HFL.out, zerN_len]) (ints_one _ _) ?_))
  rw [HW5.out, HF.out, HG.out]
  clear KZ HW5 hmk HFF HFL HF
  go_loopw [19] (fun i wr => ∃ j : Nat, j ≤ n ∧ i = .int .i64 (j : Int) ∧ Blk wr g 39 (rowsP (pcP L j)).flatten ∧ Blk wr F 65 (ints .i64 (nn (nextL L j))) ∧ Below w.heap.size w wr) (fun i _ => n - (intOf i).toNat)
  case atStart => exact ⟨0, by omega, rfl, HK5.out, HK5f.out, HKb5.out⟩
  case round =>
    obtain ⟨j, hj, rfl, gP, gF, gb⟩ := hrel
    clear HK5 HK5f HKb5
    by_cases hlt : j < n
    · have d1 : (j : Int) < (n : Int) := by omega
      have hjL : j < L.length := by rw [HNN.out]; exact hlt
      obtain ⟨a, rfl, hc⟩ := SlN.cell (HS.out.below gb) hjL
      have hns := nextL_step L hjL (H15.out j)
      have hx15 := H15.out j
      by_cases h0 : L.getD j 0 = 0
      · rw [if_pos h0] at hns
        rw [← hns] at gF
        rw [← pcP_same L hjL h0] at gP
        rw [h0] at hc
        have hc' : wr.cell? (a.add j) = some (.int .i64 0) := hc
        clear hns hc h0 hjL
        go_wp2
        go_roundw
        case rel => exact ⟨j + 1, by omega, by go_num, gP, gF, gb⟩
        case measure => (simp [intOf]; try omega)
      · rw [if_neg h0] at hns
        have hpos : 0 < L.getD j 0 := by omega
        have hT := HTU.out j hjL hpos wr
        have hwd := HWD.out j hjL hpos
        have hps := pcP_step L hjL
        obtain ⟨X, Y, Z, hsp, htl, rl, hrs⟩ := rows_at (pcP L j) (i := j) (by rw [pcP_len]; exact hjL)
        have hrs := hrs (codeW L j, ((L.getD j 0 : Nat) : Int))
        rw [← hps] at hrs
        have hcw : codeW L j = revN (wordW L j) (L.getD j 0) := rfl
        have hc1 : ∀ w6, Blk w6 F 65 (ints .i64 (nn (nextL L j))) → w6.cell? ⟨F, L.getD j 0, none⟩ = some (.int .i64 (((nextL L j).getD (L.getD j 0) 0 : Nat) : Int)) := fun w6 k => k.nat (j := L.getD j 0) (by rw [nextL_len]; omega)
        have hcv : (nextL L j).getD (L.getD j 0) 0 = wordW L j := by rw [nextL_getD (by omega), wordW_next]
        rw [hcv] at hc1 hns
        rw [hsp] at gP
        rw [hcw] at hrs
        obtain ⟨x, hx⟩ : ∃ x, L.getD j 0 = x := ⟨_, rfl⟩
        obtain ⟨v, hv⟩ : ∃ v, wordW L j = v := ⟨_, rfl⟩
        rw [hx, hv] at hT hwd hrs hc1 hns
        rw [hx] at hc hpos hx15
        obtain ⟨cw, hcw2⟩ : ∃ cw, revN v x = cw := ⟨_, rfl⟩
        rw [hcw2] at hT hrs
        have hv15 : v < 32768 := by have : 2 ^ x ≤ 2 ^ 15 := Nat.pow_le_pow_right (by decide) hx15; omega
        have ev : ((v + 1 : Nat) : Int) = (v : Int) + 1 := by simp
        have i1 : (x : Int) < 16 := by omega
        have i2 : (v : Int) ≤ 32768 := by omega
        have e1 : ((x : Int) == 0) = false := by rw [beq_eq_false_iff_ne]; omega
        have hneF : F ≠ g := by omega
        have hc1' := hc1 wr gF
        have HC1 := Lib.hid hc1
        have HRS := Lib.hid hrs
        have HNS := Lib.hid hns
        have HT := Lib.hid hT
        have GP := Lib.hid gP
        have HTL := Lib.hid htl
        have GF := Lib.hid gF
        have GB := Lib.hid gb
        have HNE := Lib.hid hneF
        clear hc1 hrs hns hT hps hsp htl hcw hcv hx hv hcw2 gP h0 hwd hv15 gF gb hneF hjL
        go_wp2_with fail
        (with_reducible refine HT.out.mono ?_)
        rintro e w9 ⟨rfl, rfl⟩
        have hP6 : ∀ w6, Blk w6 g 39 (X ++ (rowP (cw, (x : Int)) ++ Z)) → Below g wr w6 → Blk w6 F 65 (ints .i64 (nn (nextL L j))) ∧ Below w.heap.size w w6 := fun w6 _ hb6 => ⟨GF.out.below hb6 hFg, GB.out.trans (hb6.mono hgw)⟩
        have HP6 := Lib.hid hP6
        clear hP6
        have HFX : ∀ w6, Blk w6 F 65 (ints .i64 (nn (nextL L j))) → w6.cell? ⟨F, x, none⟩ = some (.int .i64 (v : Int)) ∧ w6.frozen? ⟨F, x, none⟩ = false ∧ Blk (w6.setCell ⟨F, x, none⟩ (.int .i64 ((v : Int) + 1))) F 65 (ints .i64 (nn (nextL L (j + 1)))) := fun w6 k => by
          have h1 := HC1.out w6 k
          have h2 := k.setNat x (v + 1)
          rw [← HNS.out, ev] at h2
          exact ⟨h1, k.free x, h2⟩
        have HFX := Lib.hid HFX
        go_wp2_with (refine wpList_store_part rfl 39 _ _ rfl g (j * 2) rfl (rowP (cw, (x : Int))) rfl X Y Z GP.out HTL.out.symm rl (by rw [size_piece]; rfl) (rowP_one _) ?_; intro w6 hB6 hb6 hw6; clear hw6; obtain ⟨gF6, gb6⟩ := HP6.out w6 hB6 hb6; obtain ⟨k1, k2, k3⟩ := HFX.out w6 gF6)
        have K3 := Lib.hid k3
        have kP := hB6.other (a := ⟨F, x, none⟩) (show F ≠ g from HNE.out) (.int .i64 ((v : Int) + 1))
        have kb := gb6.setCell (p := ⟨F, x, none⟩) hwF (.int .i64 ((v : Int) + 1))
        have KP := Lib.hid kP
        have KB := Lib.hid kb
        clear k3 kP kb hB6 hb6 gF6 gb6 GP GF GB
        go_wp2
        go_roundw
        case rel => exact ⟨j + 1, by omega, by go_num, by rw [HRS.out]; exact KP.out, K3.out, KB.out⟩
        case measure => (simp [intOf]; try omega)
    · obtain rfl : j = n := by omega
      have e1 : pcP L j = pcW L := by rw [← HNN.out]; exact pcP_all L
      rw [e1] at gP
      clear e1
      go_wp2
      go_ret2
      exact ⟨g, by rw [HNN.out]; rfl, gP, hgw, gb⟩
end Go.Proofs.Ytpjdlkbpnodcdaa
