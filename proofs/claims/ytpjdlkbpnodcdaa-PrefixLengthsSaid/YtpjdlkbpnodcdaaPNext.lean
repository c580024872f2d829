/- Walks of symbolOf and Next. -/
import Derived.Test.YtpjdlkbpnodcdaaPCods
namespace Go.Proofs.Ytpjdlkbpnodcdaa
open Go.RowKit
set_option linter.unusedVariables false

theorem SlN.turned {w w' : World} {p : Option Addr} {n cap : Nat} {l : List Nat} {R : Nat} {t : TypeId} {vs : List Value} (h : Sl w 1 (.slice p n cap) (rowsN l)) (ht : Turned w w' R t vs) (hne : ∀ a, p = some a → a.block ≠ R) : Sl w' 1 (.slice p n cap) (rowsN l) := by
  obtain ⟨h1, p', cap', e, h3⟩ := h
  cases e
  refine ⟨h1, p, cap, rfl, fun i r hr => ?_⟩
  obtain ⟨a, rfl, q2, q3⟩ := h3 i r hr
  have hb := ht.1.block a.block q2 (by simp; exact hne a rfl)
  refine ⟨a, rfl, Nat.lt_of_lt_of_le q2 ht.1.size, fun j x hx => ?_⟩
  rw [← q3 j x hx]
  exact World.cell?_of_block (by rw [add_block]; exact hb)
set_option maxRecDepth 100000 in
set_option maxHeartbeats 1000000 in
theorem p_symbolOf (L : List Nat) (p : Option Addr) (cap wd r i0 : Nat) (w : World) (hl : L.length ≤ 310) (h15 : ∀ i, L.getD i 0 ≤ 15) (hS : Sl w 1 (.slice p L.length cap) (rowsN L)) (hi : i0 < L.length) (hw : L.getD i0 0 = wd) (hr : rankN L wd i0 = r) :
    Calls Try.prog 40 #[.slice p L.length cap, .int .i64 (wd : Int), .int .i64 (r : Int)] w fun e w' => e = .returned (.int .i64 (i0 : Int)) ∧ w = w' := by
  have hst := fun i h => rankN_step L wd i h
  have hmono := fun i (h : i ≤ i0) => rankN_mono L wd h
  have hrl := rankN_le L wd i0
  have hi310 : i0 ≤ 310 := by omega
  have hwd : wd ≤ 15 := by rw [← hw]; exact h15 i0
  have H15 := Lib.hid h15
  have HS := Lib.hid hS
  have HW := Lib.hid hw
  have HR := Lib.hid hr
  have HST := Lib.hid hst
  have HM := Lib.hid hmono
  have hr310 : r ≤ 310 := by omega
  clear h15 hS hw hr hst hmono hrl
  go_enter Try.func40, Try.ntmps40
  go_wp2
  go_loop [2, 11] (fun o i => ∃ j q : Nat, j ≤ i0 ∧ i = .int .i64 (j : Int) ∧ o = .int .i64 (q : Int) ∧ q + rankN L wd j = r) (fun _ i => L.length - (intOf i).toNat)
  case atStart => exact ⟨0, r, by omega, rfl, rfl, by rw [rankN_zero]; omega⟩
  case round =>
    obtain ⟨j, q, hj, rfl, rfl, hq⟩ := hrel
    have hjl : j < L.length := by omega
    have d1 : (j : Int) < (L.length : Int) := by omega
    obtain ⟨a, rfl, hc⟩ := SlN.cell HS.out hjl
    have hs := HST.out j hjl
    have hx15 := H15.out j
    by_cases he : j = i0
    · subst he
      rw [HW.out] at hc
      have hq0 : q = 0 := by have := HR.out; omega
      subst hq0
      have e1 : ((wd : Int) != (wd : Int)) = false := by simp
      clear hs hx15 hq
      go_wp2
      go_ret
      exact ⟨rfl, rfl⟩
    · obtain ⟨x, hx⟩ : ∃ x, L.getD j 0 = x := ⟨_, rfl⟩
      rw [hx] at hc hs hx15
      by_cases hxw : x = wd
      · subst hxw
        rw [if_pos rfl] at hs
        have hm := HM.out (j + 1) (by omega)
        have hqp : 0 < q := by have := HR.out; omega
        have e1 : ((x : Int) != (x : Int)) = false := by simp
        have e2 : ((q : Int) == 0) = false := by rw [beq_eq_false_iff_ne]; omega
        obtain ⟨q', rfl⟩ : ∃ q', q = q' + 1 := ⟨q - 1, by omega⟩
        have ec : ((q' + 1 : Nat) : Int) = (q' : Int) + 1 := by simp
        rw [ec] at e2 ⊢
        have i1 : (q' : Int) ≤ 310 := by omega
        have hq' : q' + rankN L x (j + 1) = r := by omega
        have HQ := Lib.hid hq'
        have e3 : (q' : Int) + 1 - 1 = (q' : Int) := by omega
        clear hs hm hq hx hq' ec hx15
        go_wp2
        go_round
        case rel => exact ⟨j + 1, q', by omega, by go_num, by first | rfl | go_num | (congr 1; omega), HQ.out⟩
        case measure => (simp [intOf]; try omega)
      · rw [if_neg hxw] at hs
        have e1 : ((x : Int) != (wd : Int)) = true := by rw [bne_iff_ne]; omega
        have hq' : q + rankN L wd (j + 1) = r := by omega
        have HQ := Lib.hid hq'
        clear hs hq hx hq' hxw
        go_wp2
        go_round
        case rel => exact ⟨j + 1, q, by omega, by go_num, rfl, HQ.out⟩
        case measure => (simp [intOf]; try omega)
theorem RightN.some {L : List Nat} (h : RightN L) : 0 < lgN L 1 := by
  rcases h.2.2 with hk | hk
  · rcases Nat.eq_zero_or_pos (lgN L 1) with e | e
    · have : kraftW L = 0 := sumW_none fun j hj _ => by
        have h0 : L.getD j 0 = 0 := by
          rcases Nat.eq_zero_or_pos (L.getD j 0) with e' | e'
          · exact e'
          · have := lgN_pos.2 ⟨j, hj, show 1 ≤ L.getD j 0 from e'⟩
            omega
        unfold wgtL wgt
        rw [h0]
        rfl
      rw [this] at hk
      cases hk
    · exact e
  · omega
theorem or_i64 (a b : Nat) (ha : a < 9223372036854775808) (hb : b < 9223372036854775808) : bits .or .i64 (a : Int) (b : Int) = ((a ||| b : Nat) : Int) :=
  (bits_nat .i64 63 (by decide) (fun n h0 h1 => by rw [IntKind.wrap_i64]; omega) a b ha hb).2
/-- a symbol, an error; the reader has moved on -/
def NextRet (s : ByteArray) (R : Nat) (r : Nat × Nat × Nat) (w : World) (e : Ending) (w' : World) : Prop := e = .returned (.tuple #[.int .i64 (r.1 : Int), .int .i64 (r.2.1 : Int)]) ∧ Turned w w' R 72 (rdr s r.2.2)
/-- how far it is: what is told from here on -/
def NextAt (L : List Nat) (s : List Nat) (p wd : Nat) : Prop := (0 < lgN L wd → wd ≤ 15 ∧ fstN L wd ≤ 2 * VN s p (wd - 1) ∧ toldW L s p 15 1 = toldW L s p (16 - wd) wd) ∧ (lgN L wd = 0 → toldW L s p 15 1 = (0, 70, p + (wd - 1)))
theorem NextAt.first {L s : List Nat} {p : Nat} (h : RightN L) : NextAt L s p 1 := ⟨fun _ => ⟨by omega, by unfold fstN; rw [posW_one]; simp, rfl⟩, fun h0 => by have := h.some; omega⟩
theorem NextAt.miss {L s : List Nat} {p wd : Nat} (h : RightN L) (hg : 0 < lgN L wd) (h1 : 1 ≤ wd) (hat : NextAt L s p wd) (hv : fstN L wd + cntN L wd ≤ VN s p wd) (hs : p + wd ≤ 8 * s.length) : NextAt L s p (wd + 1) := by
  obtain ⟨q1, q2, q3⟩ := hat.1 hg
  rw [show 16 - wd = 15 - wd + 1 by omega] at q3
  rcases h.miss (d := 15 - wd) h1 q1 hv hs with ⟨m1, m2, m3⟩ | ⟨m1, m2⟩
  · refine ⟨fun _ => ⟨by omega, ?_, ?_⟩, fun h0 => by omega⟩
    · rw [fstN_step L m2, Nat.add_sub_cancel]; omega
    · rw [q3, m3, show 16 - (wd + 1) = 15 - wd by omega]
  · refine ⟨fun h0 => by omega, fun _ => ?_⟩
    rw [q3, m2, Nat.add_sub_cancel]
theorem p_Next_no (l : List Int) (p : Option Addr) (cap R : Nat) (w : World) (hl : l.length ≤ 310) (hS : Sl w 1 (.slice p l.length cap) (rowsI l)) (hno : ¬ RightI l) :
    Calls Try.prog 19 #[.pointer (some ⟨R, 0, none⟩), .slice p l.length cap] w fun e w' => e = .returned (.tuple #[.int .i64 0, .int .i64 70]) ∧ Below w.heap.size w w' := by
  have hC := p_areCode l p cap w hl hS false (.inr ⟨rfl, hno⟩)
  have HC := Lib.hid hC
  clear hC hS hno
  go_enter Try.func19, Try.ntmps19
  go_wp2_with fail
  (with_reducible refine HC.out.mono ?_)
  rintro e w1 ⟨rfl, hb1⟩
  go_wp2
  go_ret2
  exact ⟨rfl, hb1⟩
set_option maxRecDepth 100000 in
set_option maxHeartbeats 4000000 in
theorem p_Next_yes (L : List Nat) (p : Option Addr) (cap R : Nat) (s : ByteArray) (pos : Nat) (w : World) (hR : RightN L) (hS : Sl w 1 (.slice p L.length cap) (rowsN L)) (hB : Blk w R 72 (rdr s pos)) (hp : pos ≤ 8 * s.size) (hs : s.size ≤ 1000000) (hne : ∀ a, p = some a → a.block ≠ R) :
    Calls Try.prog 19 #[.pointer (some ⟨R, 0, none⟩), .slice p L.length cap] w (NextRet s R (toldW L (sl s) pos 15 1) w) := by
  have hl := hR.1
  have hS' := hS
  rw [← rowsI_nn] at hS'
  have hC1 := p_areCode (nn L) p cap w (by rw [nn_length]; omega) (by rw [nn_length]; exact hS') true (.inl ⟨rfl, hR.int⟩)
  rw [nn_length] at hC1
  have hC2 := fun w1 (h : Below w.heap.size w w1) => p_count (nn L) p cap w1 (by rw [nn_length]; omega) (by rw [nn_length]; exact hS'.below h)
  rw [clL_nn hR.2.1, nn_length] at hC2
  have hC3 := fun w1 => p_firsts L w1 (by omega)
  have hC4 := fun w1 => p_all L w1 (by omega) hR.2.1
  have hfl := fstL_len L
  have hcl := cntL_len L
  have hRl := hB.lt
  obtain ⟨n, hn⟩ : ∃ n, L.length = n := ⟨_, rfl⟩
  have HNN := Lib.hid hn
  have HR := Lib.hid hR
  have HC1 := Lib.hid hC1
  have HC2 := Lib.hid hC2
  have HC3 := Lib.hid hC3
  have HC4 := Lib.hid hC4
  have HFL := Lib.hid hfl
  have HCL := Lib.hid hcl
  have HS := Lib.hid hS
  have HB := Lib.hid hB
  have HNE := Lib.hid hne
  have HG := Lib.hid (fun (n : Nat) (h : n < 16) => fstL_getD (L := L) h)
  have HGC := Lib.hid (fun (n : Nat) (h : n < 16) => cntL_getD (L := L) h)
  rw [hn] at HC1 HC2 HS hl ⊢
  clear hS hS' hC1 hC2 hC3 hC4 hfl hcl hn hR hB hne
  go_enter Try.func19, Try.ntmps19
  go_wp2_with fail
  (with_reducible refine HC1.out.mono ?_)
  rintro e w1 ⟨rfl, hb1⟩
  have hC2 := HC2.out w1 hb1
  have hC2 := Lib.hid hC2
  clear HC1 HC2
  go_wp2_with fail
  (with_reducible refine hC2.out.mono ?_)
  rintro e w2 ⟨rfl, hb2⟩
  have hb02 := hb1.trans (hb2.mono hb1.size)
  clear hC2 hb1 hb2
  generalize hcc : cntL L = c at *
  have HCC := Lib.hid hcc
  obtain ⟨N, hN⟩ : ∃ N, w2.heap.size = N := ⟨_, rfl⟩
  obtain ⟨w3, hw3⟩ : ∃ w3, (w2.alloc (.cells (ints .i64 (nn (zerN 16))).toArray 65)).setRow w2.heap.size (ints .i64 (nn c)).toArray = w3 := ⟨_, rfl⟩
  have KZ := Blk.new' w2 65 (ints .i64 (nn (zerN 16))) rfl
  have K3 : Blk w3 N 65 (ints .i64 (nn c)) := by rw [← hw3, ← hN]; exact KZ.row _ (by rw [ints_length, ints_length, nn_length, nn_length, HCL.out, zerN_len])
  have Kb3 : Below w.heap.size w w3 := by rw [← hw3]; exact below_setRow (hb02.alloc hb02.size _) hb02.size _
  have hwN : w.heap.size ≤ N := by rw [← hN]; exact hb02.size
  have KZ := Lib.hid KZ
  have HK3 := Lib.hid K3
  have HKb3 := Lib.hid Kb3
  have HW3 := Lib.hid hw3
  have HN := Lib.hid hN
  have hC3 := HC3.out w3
  have hC3 := Lib.hid hC3
  clear K3 Kb3 hw3 hN hcc hb02 HC3
  go_wp2_with (first | (refine wpList_alloc_n rfl 65 rfl w2.heap.size rfl _ (alloc_cnts _) ?_) | (refine wpList_store_blk rfl 65 _ _ rfl w2.heap.size (ints .i64 (nn c)) rfl rfl KZ.out (ints16 HCL.out) (by rw [ints_length, ints_length, nn_length, nn_length, HCL.out, zerN_len]) (ints_one _ _) ?_) | (rw [HW3.out, HN.out]; refine wpList_load_blk rfl 65 _ rfl N rfl HK3.out Try.underlying65 rfl (ints16 HCL.out) ?_))
  clear KZ HW3 HN
  (with_reducible refine hC3.out.mono ?_)
  rintro e w4 ⟨rfl, hb4⟩
  have K4 := HK3.out.below hb4 HK3.out.lt
  have Kb4 := HKb3.out.trans (hb4.mono HKb3.out.size)
  clear hC3 HK3 HKb3 hb4
  generalize hff : fstL L = f at *
  have HFF := Lib.hid hff
  obtain ⟨F, hF⟩ : ∃ F, w4.heap.size = F := ⟨_, rfl⟩
  obtain ⟨w5, hw5⟩ : ∃ w5, (w4.alloc (.cells (ints .i64 (nn (zerN 16))).toArray 65)).setRow w4.heap.size (ints .i64 (nn f)).toArray = w5 := ⟨_, rfl⟩
  have KZ := Blk.new' w4 65 (ints .i64 (nn (zerN 16))) rfl
  have hNF : N < F := by rw [← hF]; exact K4.lt
  have K5 : Blk w5 F 65 (ints .i64 (nn f)) := by rw [← hw5, ← hF]; exact KZ.row _ (by rw [ints_length, ints_length, nn_length, nn_length, HFL.out, zerN_len])
  have K5n : Blk w5 N 65 (ints .i64 (nn c)) := by rw [← hw5]; exact (K4.alloc _).rowOther (by rw [hF]; omega) _
  have Kb5 : Below w.heap.size w w5 := by rw [← hw5]; exact below_setRow (Kb4.alloc Kb4.size _) Kb4.size _
  have KZ := Lib.hid KZ
  have HK5 := Lib.hid K5
  have HK5n := Lib.hid K5n
  have HKb5 := Lib.hid Kb5
  have HW5 := Lib.hid hw5
  have HF := Lib.hid hF
  have hC4 := HC4.out w5
  have hC4 := Lib.hid hC4
  clear K4 Kb4 K5 K5n Kb5 hw5 hF hff HC4
  go_wp2_with (first | (refine wpList_alloc_n rfl 65 rfl w4.heap.size rfl _ (alloc_cnts _) ?_) | (refine wpList_store_blk rfl 65 _ _ rfl w4.heap.size (ints .i64 (nn f)) rfl rfl KZ.out (ints16 HFL.out) (by rw [ints_length, ints_length, nn_length, nn_length, HFL.out, zerN_len]) (ints_one _ _) ?_) | (rw [HW5.out, HF.out]; refine wpList_load_blk rfl 65 _ rfl N rfl HK5n.out Try.underlying65 rfl (ints16 HCL.out) ?_))
  clear KZ HW5 HF
  (with_reducible refine hC4.out.mono ?_)
  rintro e w6 ⟨rfl, hb6⟩
  have K6 := Lib.hid (HK5.out.below hb6 HK5.out.lt)
  have K6n := Lib.hid (HK5n.out.below hb6 HK5n.out.lt)
  have Kb6 := HKb5.out.trans (hb6.mono HKb5.out.size)
  have KG6 : Hid (w.grownBy w6 (some R)) := Lib.hid ((grown_below Kb6).but (some R))
  have KR6 : Hid (Blk w6 R 72 (rdr s pos)) := Lib.hid (HB.out.below Kb6 hRl)
  have HAT := Lib.hid (NextAt.first (L := L) (s := sl s) (p := pos) HR.out)
  clear hC4 HK5 HK5n HKb5 hb6 Kb6
  go_wp2_with fail
  go_loopw [8, 9, 10] (fun v i o wr => ∃ wd : Nat, 1 ≤ wd ∧ wd ≤ 16 ∧ i = .int .i64 (wd : Int) ∧ v = .int .i64 ((VN (sl s) pos (wd - 1) : Nat) : Int) ∧ o = .int .i64 ((lgN L wd : Nat) : Int) ∧ NextAt L (sl s) pos wd ∧ pos + (wd - 1) ≤ 8 * s.size ∧ Blk wr R 72 (rdr s (pos + (wd - 1))) ∧ Blk wr N 65 (ints .i64 (nn c)) ∧ Blk wr F 65 (ints .i64 (nn f)) ∧ w.grownBy wr (some R)) (fun _ i _ _ => 17 - (intOf i).toNat)
  case atStart => exact ⟨1, by omega, by omega, rfl, rfl, rfl, HAT.out, by omega, KR6.out, K6n.out, K6.out, KG6.out⟩
  case round =>
    obtain ⟨wd, hw1, hw16, rfl, rfl, rfl, gA, gp, gR, gN, gF, gb⟩ := hrel
    clear K6 K6n KG6 KR6 HAT
    by_cases hlg : 0 < lgN L wd
    · obtain ⟨q1, q2, q3⟩ := gA.1 hlg
      have hd1 : ((0 : Int) < ((lgN L wd : Nat) : Int)) := by omega
      have hd2 : decide (0 < lgN L wd) = true := decide_eq_true hlg
      obtain ⟨q, hq⟩ : ∃ q, pos + (wd - 1) = q := ⟨_, rfl⟩
      rw [hq] at gR gp
      by_cases hsh : 8 * s.size ≤ q
      · have hT := i_Take R s q 1 wr gR (by omega) (by omega) 0 40 q (take_none (by rw [sl_len]; exact hsh))
        have HT := Lib.hid hT
        have ht : toldW L (sl s) pos 15 1 = (0, 40, q) := by
          rw [q3, show 16 - wd = 15 - wd + 1 by omega]
          unfold toldW
          rw [if_pos (by rw [sl_len]; omega), hq]
        have HTo := Lib.hid ht
        have GB := Lib.hid gb
        clear hT ht q1 q2 q3 gA gR gN gF gb hq hsh gp hlg hd2
        go_wp2_with fail
        (with_reducible refine HT.out.mono ?_)
        rintro e w9 ⟨rfl, hT9⟩
        have T : Hid (Turned w w9 R 72 (rdr s q)) := Lib.hid ⟨GB.out.trans hT9.1, hT9.2⟩
        clear hT9
        go_wp2
        go_ret2
        exact ⟨by rw [HTo.out]; rfl, by rw [HTo.out]; exact T.out⟩
      · obtain ⟨b, hb⟩ : ∃ b, bitAt (sl s) q = b := ⟨_, rfl⟩
        have hb2 : b < 2 := by rw [← hb]; exact bitAt_lt _ _
        have hT := i_Take R s q 1 wr gR (by omega) (by omega) b 0 (q + 1) (by rw [take_one (by rw [sl_len]; omega), hb])
        have HT := Lib.hid hT
        obtain ⟨V, hV⟩ : ∃ V, VN (sl s) pos (wd - 1) = V := ⟨_, rfl⟩
        have hVw : VN (sl s) pos wd = V * 2 + b := by
          obtain ⟨d, rfl⟩ : ∃ d, wd = d + 1 := ⟨wd - 1, by omega⟩
          rw [Nat.add_sub_cancel] at hV hq
          rw [VN, hV, hq, hb]
        have hVl : V < 32768 := by
          have h1 := VN_lt (sl s) pos (wd - 1)
          have h2 : 2 ^ (wd - 1) ≤ 2 ^ 15 := Nat.pow_le_pow_right (by decide) (by omega)
          rw [hV] at h1
          omega
        have hor : bits .or .i64 ((V : Int) * 2) (b : Int) = ((V * 2 + b : Nat) : Int) := by
          have e := or_i64 (V * 2) b (by omega) (by omega)
          rw [show ((V * 2 : Nat) : Int) = (V : Int) * 2 by omega] at e
          rw [e, Nat.or_comm]
          have := or_add b V 1 (by omega)
          rw [show V * 2 = V * 2 ^ 1 by omega, this, Nat.add_comm]
        rw [hV] at q2 ⊢
        have GB := Lib.hid gb
        have GA := Lib.hid gA
        have GN := Lib.hid gN
        have GF := Lib.hid gF
        clear hT gA gR gN gF gb hb hlg hd2
        go_wp2_with fail
        (with_reducible refine HT.out.mono ?_)
        rintro e w9 ⟨rfl, hT9⟩
        have gN9 := hT9.other GN.out (show N ≠ R by omega)
        have gF9 := hT9.other GF.out (show F ≠ R by omega)
        have c1 := gN9.nat (j := wd) (by rw [HCL.out]; omega)
        have f1 := gF9.nat (j := wd) (by rw [HFL.out]; omega)
        rw [HG.out wd (by omega)] at f1
        rw [HGC.out wd (by omega)] at c1
        have gN9 := Lib.hid gN9
        have gF9 := Lib.hid gF9
        have T9 : Turned w w9 R 72 (rdr s (q + 1)) := ⟨GB.out.trans hT9.1, hT9.2⟩
        have HT9 := Lib.hid T9
        have hq1 : q + 1 = pos + wd := by omega
        have hsz : pos + wd ≤ 8 * s.size := by omega
        by_cases hit : V * 2 + b < fstN L wd + cntN L wd
        · obtain ⟨r, hr⟩ : ∃ r, V * 2 + b - fstN L wd = r := ⟨_, rfl⟩
          have hcn : cntN L wd = rankN L wd L.length := by unfold cntN; rw [if_neg (by omega)]
          obtain ⟨i, j1, j2, j3⟩ := rank_some L (n := wd) (r := r) (Nat.le_refl _) (by omega)
          have hC := p_symbolOf L p cap wd r i w9 (by have := HR.out.1; omega) HR.out.2.1 (by rw [HNN.out]; exact SlN.turned HS.out T9 HNE.out) j1 j2 j3
          have hww := wordW_fst L j1 (by omega)
          rw [j2, j3] at hww
          have ht : toldW L (sl s) pos 15 1 = (i, 0, q + 1) := by
            rw [q3, show 16 - wd = 15 - wd + 1 by omega, told_hit HR.out.2.1 HR.out.le j1 (by omega) j2 (by omega) (by rw [sl_len]; exact hsz), hq1]
          have HTo := Lib.hid ht
          have er : (V : Int) * 2 + (b : Int) - ((fstN L wd : Nat) : Int) = (r : Int) := by omega
          have e1 : (r : Int) < ((cntN L wd : Nat) : Int) := by omega
          have i1 : (r : Int) ≤ 1000000 := by omega
          rw [HNN.out] at hC
          have HC := Lib.hid hC
          clear hT9 T9 hC hq1 hsz hit hr hcn j1 j2 j3 hww ht q2 q3
          go_wp2_with fail
          (with_reducible refine HC.out.mono ?_)
          rintro e w8 ⟨rfl, rfl⟩
          go_wp2
          go_ret2
          exact ⟨by rw [HTo.out]; rfl, by rw [HTo.out]; exact HT9.out⟩
        · have hA := GA.out.miss HR.out (by omega) hw1 (by rw [hVw]; omega) (by rw [sl_len]; exact hsz)
          have HA := Lib.hid hA
          have hlc := lgN_cnt L (w := wd) (by omega)
          have el : ((lgN L wd : Nat) : Int) - ((cntN L wd : Nat) : Int) = ((lgN L (wd + 1) : Nat) : Int) := by omega
          have e1 : ¬ (V : Int) * 2 + (b : Int) - ((fstN L wd : Nat) : Int) < ((cntN L wd : Nat) : Int) := by omega
          have hRd := T9.2
          have hGd := T9.1
          rw [hq1] at hRd
          have HRd := Lib.hid hRd
          have HGd := Lib.hid hGd
          have HV := Lib.hid hVw
          have hw17 : wd + 1 ≤ 16 := by omega
          have hl1 := lgN_le L (wd + 1)
          have i1 : ((lgN L (wd + 1) : Nat) : Int) ≤ 1000000 := by have := HR.out.1; omega
          have ew : wrap64 (((lgN L wd : Nat) : Int) - ((cntN L wd : Nat) : Int)) = ((lgN L (wd + 1) : Nat) : Int) := by rw [el, Go.IntWalk.wrap64_in _ ⟨by omega, by omega⟩]
          clear hT9 T9 hA hRd hGd hVw hlc hl1 q2 q3 hit
          go_wp2
          go_roundw
          case rel => exact ⟨wd + 1, by omega, hw17, by go_num, by rw [Nat.add_sub_cancel, HV.out]; go_num, by first | rfl | rw [ew] | rw [el], HA.out, by rw [Nat.add_sub_cancel]; exact hsz, by rw [Nat.add_sub_cancel]; exact HRd.out, gN9.out, gF9.out, HGd.out⟩
          case measure => (simp [intOf]; try omega)
    · have h0 : lgN L wd = 0 := by omega
      have ht := gA.2 h0
      have HT := Lib.hid ht
      have T : Hid (Turned w wr R 72 (rdr s (pos + (wd - 1)))) := Lib.hid ⟨gb, gR⟩
      rw [h0]
      clear ht hlg h0 gA gR gN gF gb
      go_wp2
      go_ret2
      exact ⟨by rw [HT.out]; rfl, by rw [HT.out]; exact T.out⟩
end Go.Proofs.Ytpjdlkbpnodcdaa
