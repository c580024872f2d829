/- Walk of the reference's Codes. -/
import Derived.Test.YtpjdlkbpnodcdaaPRKr
import Derived.Test.YtpjdlkbpnodcdaaPLawG
namespace Go.Proofs.Ytpjdlkbpnodcdaa
open Go.RowKit
set_option linter.unusedVariables false

theorem OwnR.blkR {w : World} {base : Nat} {e : TypeId} {k : Nat} {v : Value} {rows : List (List Value)} (h : OwnR w base e k v rows) (h0 : 0 < rows.length) :
    ∃ g cap rest, v = .slice (some ⟨g, 0, none⟩) rows.length cap ∧ base ≤ g ∧ Blk w g e (rows.flatten ++ rest) := by
  obtain ⟨k0, k1, k2⟩ := h
  rcases k2 with ⟨hv, hn⟩ | ⟨g, cap, cur, hv, hg, hh, hn, hm, hcs, htk⟩
  · omega
  · have e0 : cur.toList = rows.flatten ++ cur.toList.drop (rows.length * k) := by rw [← htk, List.take_append_drop]
    refine ⟨g, cap, cur.toList.drop (rows.length * k), hv, hg, ?_⟩
    unfold Blk
    rw [← e0]
    exact hh
theorem sl_blkS {w : World} {b k cap : Nat} {t : TypeId} {rows : List (List Value)} {rest : List Value} (hk : ∀ r ∈ rows, r.length = k) (h : Blk w b t (rows.flatten ++ rest)) : Sl w k (.slice (some ⟨b, 0, none⟩) rows.length cap) rows := by
  refine ⟨hk, _, cap, rfl, fun i r hr => ⟨_, rfl, h.lt, fun j x hx => ?_⟩⟩
  rw [Addr.add_mid, h.cell]
  have := flat_at hk hr hx
  rw [List.getElem?_append_left (by simpa using (List.getElem?_eq_some_iff.1 this).1)]
  simpa using this
theorem info_rp : (Try.prog.info? 38).map (fun i => (i.zero, i.size, i.bytes)) = some (some (.agg #[.int .u32 0, .int .i64 0]), 2, 16) := by kernel_rfl
theorem size_rp : (Try.prog.info? 38).map (·.size) = some 2 := by kernel_rfl
/-- the pieces so far, by lengths and symbols -/
def pcQ (L : List Nat) (n i : Nat) : List (Nat × Int) := (List.range L.length).map fun k => if 0 < L.getD k 0 ∧ (L.getD k 0 < n ∨ (L.getD k 0 = n ∧ k < i)) then (codeW L k, ((L.getD k 0 : Nat) : Int)) else (0, 0)
theorem pcQ_len (L : List Nat) (n i : Nat) : (pcQ L n i).length = L.length := by simp [pcQ]
theorem pcQ_get (L : List Nat) (n i : Nat) {k : Nat} (h : k < L.length) : (pcQ L n i)[k]? = some (if 0 < L.getD k 0 ∧ (L.getD k 0 < n ∨ (L.getD k 0 = n ∧ k < i)) then (codeW L k, ((L.getD k 0 : Nat) : Int)) else (0, 0)) := by
  unfold pcQ
  rw [List.getElem?_map, List.getElem?_range h]
  rfl
theorem pcQ_ext {L : List Nat} {m : List (Nat × Int)} {n i : Nat} (hm : m.length = L.length) (h : ∀ k, k < L.length → m[k]? = (pcQ L n i)[k]?) : m = pcQ L n i := by
  apply List.ext_getElem?
  intro k
  rcases Nat.lt_or_ge k L.length with hk | hk
  · exact h k hk
  · rw [List.getElem?_eq_none (by omega), List.getElem?_eq_none (by rw [pcQ_len]; exact hk)]
theorem pcQ_first (L : List Nat) : List.replicate L.length ((0, 0) : Nat × Int) = pcQ L 1 0 := by
  refine pcQ_ext (by simp) fun k hk => ?_
  rw [pcQ_get L 1 0 hk, if_neg (by omega)]
  simp [hk]
theorem pcQ_next (L : List Nat) (n : Nat) : pcQ L n L.length = pcQ L (n + 1) 0 := by
  refine pcQ_ext (pcQ_len _ _ _) fun k hk => ?_
  rw [pcQ_get L _ _ hk, pcQ_get L _ _ hk]
  by_cases h : 0 < L.getD k 0 ∧ L.getD k 0 ≤ n
  · rw [if_pos (by omega), if_pos (by omega)]
  · rw [if_neg (by omega), if_neg (by omega)]
theorem pcQ_no (L : List Nat) {n i : Nat} (h : L.getD i 0 ≠ n) : pcQ L n i = pcQ L n (i + 1) := by
  refine pcQ_ext (pcQ_len _ _ _) fun k hk => ?_
  rw [pcQ_get L _ _ hk, pcQ_get L _ _ hk]
  by_cases e : k = i
  · subst e
    by_cases h1 : 0 < L.getD k 0 ∧ L.getD k 0 < n
    · rw [if_pos (by omega), if_pos (by omega)]
    · rw [if_neg (by omega), if_neg (by omega)]
  · by_cases h1 : 0 < L.getD k 0 ∧ (L.getD k 0 < n ∨ (L.getD k 0 = n ∧ k < i))
    · rw [if_pos h1, if_pos (by omega)]
    · rw [if_neg h1, if_neg (by omega)]
theorem pcQ_yes (L : List Nat) {n i : Nat} (hi : i < L.length) (n0 : 0 < n) (h : L.getD i 0 = n) : (pcQ L n i).set i (codeW L i, (n : Int)) = pcQ L n (i + 1) := by
  refine pcQ_ext (by rw [List.length_set, pcQ_len]) fun k hk => ?_
  rw [List.getElem?_set, pcQ_get L n (i + 1) hk, pcQ_len]
  by_cases e : i = k
  · subst e
    rw [if_pos rfl, if_pos hi, if_pos ⟨by omega, .inr ⟨h, by omega⟩⟩, h]
  · rw [if_neg e, pcQ_get L n i hk]
    by_cases h1 : 0 < L.getD k 0 ∧ (L.getD k 0 < n ∨ (L.getD k 0 = n ∧ k < i))
    · rw [if_pos h1, if_pos (by omega)]
    · rw [if_neg h1, if_neg (by omega)]
theorem pcQ_all {L : List Nat} (h15 : ∀ i, L.getD i 0 ≤ 15) : pcW L = pcQ L 16 0 := by
  refine pcQ_ext (pcW_len _) fun k hk => ?_
  rw [pcQ_get L _ _ hk]
  unfold pcW
  rw [List.getElem?_map, List.getElem?_range hk]
  have := h15 k
  by_cases h : 0 < L.getD k 0
  · rw [if_pos ⟨h, .inl (by omega)⟩]; rfl
  · rw [if_neg (by omega)]
    show some (codeW L k, ((L.getD k 0 : Nat) : Int)) = some (0, 0)
    rw [codeW_none (by omega), show L.getD k 0 = 0 by omega]
    rfl
theorem nextN_le {L : List Nat} (hK : kraftW L ≤ 2 ^ 15) (n i : Nat) : nextN L n i ≤ 32768 := by
  have h1 : posW L n i ≤ kraftW L := sumW_le fun _ _ _ => rfl
  have h2 := Nat.div_le_self (posW L n i) (2 ^ (15 - n))
  unfold nextN
  omega
def RcRet (L : List Nat) (w : World) (e : Ending) (w' : World) : Prop := ∃ g cap, e = .returned (.tuple #[.slice (some ⟨g, 0, none⟩) L.length cap, .int .i64 0]) ∧ Sl w' 2 (.slice (some ⟨g, 0, none⟩) L.length cap) (rowsP (pcW L)) ∧ Below w.heap.size w w'
theorem r_Codes_no (l : List Int) (p : Option Addr) (cap : Nat) (w : World) (hl : l.length ≤ 310) (hS : Sl w 1 (.slice p l.length cap) (rowsI l)) (hno : ¬ RightI l) :
    Calls Try.prog 15 #[.slice p l.length cap] w fun e w' => e = .returned (.tuple #[.slice none 0 0, .int .i64 70]) ∧ w = w' := by
  have hC := r_right l p cap w hl hS false (.inr ⟨rfl, hno⟩)
  have HC := Lib.hid hC
  clear hC hS hno
  go_enter Try.func15, Try.ntmps15
  go_wp2_with fail
  (with_reducible refine HC.out.mono ?_)
  rintro e w1 ⟨rfl, rfl⟩
  go_wp2
  go_ret2
  exact ⟨rfl, rfl⟩
set_option maxRecDepth 100000 in
set_option maxHeartbeats 2000000 in
theorem r_Codes_yes (L : List Nat) (p : Option Addr) (cap : Nat) (w : World) (hR : RightN L) (hS : Sl w 1 (.slice p L.length cap) (rowsN L)) :
    Calls Try.prog 15 #[.slice p L.length cap] w (RcRet L w) := by
  have hl := hR.1
  have hS' := hS
  rw [← rowsI_nn] at hS'
  have hC1 := r_right (nn L) p cap w (by rw [nn_length]; omega) (by rw [nn_length]; exact hS') true (.inl ⟨rfl, hR.int⟩)
  rw [nn_length] at hC1
  have hL0 : 0 < L.length := by
    have h1 := hR.some
    have h2 := lgN_le L 1
    omega
  obtain ⟨i1, hi1, hy0, hy1, hy2⟩ := info_parts2 info_rp
  have HR := Lib.hid hR
  have HS := Lib.hid hS
  have HC1 := Lib.hid hC1
  have k0 := OwnR.empty w w.heap.size 38 2 (Nat.le_refl _)
  have kb := (Below.refl w.heap.size w).alloc (Nat.le_refl _) (.cells #[] 38)
  have k0 := Lib.hid k0
  have kb := Lib.hid kb
  clear hS hS' hC1 hR
  go_enter Try.func15, Try.ntmps15
  go_wp2_with fail
  (with_reducible refine HC1.out.mono ?_)
  rintro e w1 ⟨rfl, rfl⟩
  clear HC1
  go_wp2
  go_loopw [4, 5] (fun u i wr => ∃ j : Nat, j ≤ L.length ∧ i = .int .i64 (j : Int) ∧ OwnR wr w.heap.size 38 2 u (rowsP (List.replicate j (0, 0))) ∧ Below w.heap.size w wr) (fun _ i _ => L.length - (intOf i).toNat)
  case atStart => exact ⟨0, by omega, rfl, k0.out, kb.out⟩
  case round =>
    obtain ⟨j, hj, rfl, go, gb⟩ := hrel
    clear k0 kb
    by_cases hlt : j < L.length
    · have d1 : (j : Int) < (L.length : Int) := by omega
      have hsn : rowsP (List.replicate (j + 1) ((0, 0) : Nat × Int)) = rowsP (List.replicate j (0, 0)) ++ [rowP (0, 0)] := by rw [List.replicate_succ']; simp [rowsP]
      have hrl : (rowsP (List.replicate j ((0, 0) : Nat × Int))).length = j := by rw [rowsP_len, List.length_replicate]
      have HSN := Lib.hid hsn
      have HRL := Lib.hid hrl
      clear hsn hrl
      generalize rowsP (List.replicate j ((0, 0) : Nat × Int)) = rows at *
      have hnb := Blk.new' wr 38 (c := #[.int .u32 0, .int .i64 0]) (rowP (0, 0)) rfl
      have hnews := sl_one hnb
      have hown := go.alloc (.cells #[.int .u32 0, .int .i64 0] 38)
      have hlo := go.lt
      have hgb := gb.alloc gb.size (.cells #[.int .u32 0, .int .i64 0] 38)
      have hbase : w.heap.size ≤ (wr.alloc (.cells #[.int .u32 0, .int .i64 0] 38)).heap.size := hgb.size
      have hone : ∀ r ∈ [rowP (0, 0)], ∀ u ∈ r, u.oneCell' = true := by simp [rowP, Value.oneCell']
      have hlen : rows.length + [rowP (0, 0)].length ≤ maxLen := by rw [HRL.out, List.length_singleton]; unfold maxLen; omega
      have hby : (rows.length + [rowP (0, 0)].length) * 16 ≤ 140737488355328 := by rw [HRL.out, List.length_singleton]; omega
      have HONE := Lib.hid hone
      have HLEN := Lib.hid hlen
      have HBY := Lib.hid hby
      have HOW := Lib.hid hown
      have HNW := Lib.hid hnews
      have HLO := Lib.hid hlo
      have HGB := Lib.hid hgb
      have HBA := Lib.hid hbase
      clear hone hlen hby hnb hnews hown hlo hgb hbase go gb
      go_wp2_with (first | (refine wpList_append_rows rfl _ _ 32 rfl w.heap.size 38 i1 (.agg #[.int .u32 0, .int .i64 0]) 2 16 Try.underlying32 hi1 hy0 hy1 hy2 rfl (by decide) _ rows rfl HOW.out (.slice (some ⟨wr.heap.size, 0, none⟩) 1 1) [rowP (0, 0)] rfl HNW.out HONE.out HLEN.out HBY.out HBA.out (.inr ⟨_, _, _, rfl⟩) ?_; intro v' w5 ho5 hg5 hv5))
      have gb5 := HGB.out.grown hg5 HBA.out (fun k e => (HLO.out k e).1)
      go_roundw
      case rel => exact ⟨j + 1, by omega, by go_num, by rw [HSN.out]; exact ho5, gb5⟩
      case measure => simp [intOf]; omega
    · obtain rfl : j = L.length := by omega
      rw [pcQ_first] at go
      have hrl : (rowsP (pcQ L 1 0)).length = L.length := by rw [rowsP_len, pcQ_len]
      obtain ⟨g, capg, rest, hv, hgw, hG⟩ := go.blkR (by rw [hrl]; exact hL0)
      rw [hrl] at hv
      subst hv
      have G0 : Hid (Blk wr g 38 ((rowsP (pcQ L 1 0)).flatten ++ rest)) := Lib.hid hG
      have GB0 := Lib.hid gb
      have hn0 := nextN_none L L.length
      have HN0 := Lib.hid hn0
      clear go gb hG hrl hlt hn0
      go_wp2
      go_loopw [6, 7, 8] (fun wd n _ wr => ∃ m : Nat, 1 ≤ m ∧ m ≤ 16 ∧ n = .int .i64 (m : Int) ∧ wd = .int .u32 ((nextN L (m - 1) L.length : Nat) : Int) ∧ Blk wr g 38 ((rowsP (pcQ L m 0)).flatten ++ rest) ∧ Below w.heap.size w wr) (fun _ n _ _ => 16 - (intOf n).toNat)
      case atStart => exact ⟨1, by omega, by omega, rfl, by rw [show 1 - 1 = 0 from rfl, HN0.out]; rfl, G0.out, GB0.out⟩
      case round =>
        obtain ⟨m, hm1, hm16, rfl, rfl, gG, gb⟩ := hrel
        clear G0 GB0
        by_cases hlm : m ≤ 15
        · have d1 : (m : Int) ≤ 15 := by omega
          have hnx := nextN_next L (n := m - 1) (by omega)
          rw [show m - 1 + 1 = m by omega] at hnx
          have hle := nextN_le HR.out.le (m - 1) L.length
          obtain ⟨X, hX⟩ : ∃ X, nextN L (m - 1) L.length = X := ⟨_, rfl⟩
          rw [hX] at hnx hle ⊢
          have iX : (X : Int) ≤ 32768 := by omega
          have hX2 : ((nextN L m 0 : Nat) : Int) = (X : Int) * 2 := by rw [hnx]; omega
          have HX2 := Lib.hid hX2
          have GG := Lib.hid gG
          have GB := Lib.hid gb
          clear gG gb hX hnx hX2
          go_wp2
          go_loopw [6, 8] (fun wd i wr => ∃ k : Nat, k ≤ L.length ∧ i = .int .i64 (k : Int) ∧ wd = .int .u32 ((nextN L m k : Nat) : Int) ∧ Blk wr g 38 ((rowsP (pcQ L m k)).flatten ++ rest) ∧ Below w.heap.size w wr) (fun _ i _ => L.length - (intOf i).toNat)
          case atStart => exact ⟨0, by omega, rfl, by rw [HX2.out], GG.out, GB.out⟩
          case round =>
            obtain ⟨k, hk, rfl, rfl, gG, gb⟩ := hrel
            clear GG GB HX2
            by_cases hlk : k < L.length
            · have d2 : (k : Int) < (L.length : Int) := by omega
              obtain ⟨a, rfl, hc⟩ := SlN.cell (HS.out.below gb) hlk
              have hns := nextN_step L (n := m) (by omega) hlk
              have hle2 := nextN_le HR.out.le m k
              by_cases hx : L.getD k 0 = m
              · rw [if_pos hx] at hns
                rw [hx] at hc
                have hwd : wordW L k = nextN L m k := by rw [wordW_next, hx]
                have hwl := wordW_lt L hlk (by omega) (HR.out.2.1 k) HR.out.le
                have hcw : codeW L k = revN (nextN L m k) m := by unfold codeW; rw [hwd, hx]
                have hps := pcQ_yes L hlk (by omega) hx
                obtain ⟨XX, YY, ZZ, hsp, htl, rl, hrs⟩ := rows_at (pcQ L m k) (i := k) (by rw [pcQ_len]; exact hlk)
                have hrs := hrs (codeW L k, (m : Int))
                rw [hps, hcw] at hrs
                rw [hsp, List.append_assoc, List.append_assoc] at gG
                rw [hwd, hx] at hwl
                have hp2 : 2 ^ m ≤ 2 ^ 15 := Nat.pow_le_pow_right (by decide) (by omega)
                have hT := fun w1 => r_turned (nextN L m k) m w1 (by omega) (by omega)
                obtain ⟨v, hv⟩ : ∃ v, nextN L m k = v := ⟨_, rfl⟩
                rw [hv] at hT hns hrs hle2 ⊢
                obtain ⟨cw, hcw2⟩ : ∃ cw, revN v m = cw := ⟨_, rfl⟩
                rw [hcw2] at hT hrs
                have ev : ((v + 1 : Nat) : Int) = (v : Int) + 1 := by simp
                have iv : (v : Int) ≤ 32768 := by omega
                have hrs2 : (rowsP (pcQ L m (k + 1))).flatten ++ rest = XX ++ (rowP (cw, (m : Int)) ++ (ZZ ++ rest)) := by rw [hrs, List.append_assoc, List.append_assoc]
                have HRS := Lib.hid hrs2
                have HNS := Lib.hid hns
                have HT := Lib.hid hT
                have GG := Lib.hid gG
                have GB := Lib.hid gb
                have HTL := Lib.hid htl
                clear hT hns hrs hrs2 hcw hwd hwl hps hsp htl hv hcw2 gG gb hx hp2
                go_wp2_with fail
                (with_reducible refine (HT.out _).mono ?_)
                rintro e w9 ⟨rfl, rfl⟩
                go_wp2_with (refine wpList_store_part rfl 38 _ _ rfl g (k * 2) rfl (rowP (cw, (m : Int))) rfl XX YY (ZZ ++ rest) GG.out HTL.out.symm rl (by rw [size_rp]; rfl) (rowP_one _) ?_; intro w6 hB6 hb6 hw6; clear hw6; have GB6 := Lib.hid (GB.out.trans (hb6.mono hgw)); have HB6 := Lib.hid hB6; clear hb6 hB6)
                clear GG GB
                go_roundw
                case rel => exact ⟨k + 1, by omega, by go_num, by rw [HNS.out]; first | rfl | go_num, by rw [HRS.out]; exact HB6.out, GB6.out⟩
                case measure => (simp [intOf]; try omega)
              · rw [if_neg hx, Nat.add_zero] at hns
                have hps := pcQ_no L (i := k) hx
                rw [hps] at gG
                obtain ⟨x, hxx⟩ : ∃ x, L.getD k 0 = x := ⟨_, rfl⟩
                rw [hxx] at hc hx
                have e1 : ((x : Int) == (m : Int)) = false := by rw [beq_eq_false_iff_ne]; omega
                have HNS := Lib.hid hns
                clear hns hps hxx hx
                go_wp2
                go_roundw
                case rel => exact ⟨k + 1, by omega, by go_num, by rw [HNS.out]; rfl, gG, gb⟩
                case measure => (simp [intOf]; try omega)
            · obtain rfl : k = L.length := by omega
              rw [pcQ_next] at gG
              clear hlk
              go_wp2
              go_roundw
              case rel => exact ⟨m + 1, by omega, by omega, by go_num, by rw [Nat.add_sub_cancel], gG, gb⟩
              case measure => (simp [intOf]; try omega)
        · obtain rfl : m = 16 := by omega
          rw [← pcQ_all HR.out.2.1] at gG
          have hfin := sl_blkS (k := 2) (cap := capg) (fun r hr => by simp only [rowsP, List.mem_map] at hr; obtain ⟨q, _, rfl⟩ := hr; rfl) gG
          rw [rowsP_len, pcW_len] at hfin
          clear hlm gG
          go_wp2
          go_ret2
          exact ⟨g, capg, rfl, hfin, gb⟩
end Go.Proofs.Ytpjdlkbpnodcdaa
