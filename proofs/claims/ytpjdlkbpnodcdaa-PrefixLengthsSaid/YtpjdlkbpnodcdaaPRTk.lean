/- Walk of the reference's take. -/
import Derived.Test.YtpjdlkbpnodcdaaPRLt
namespace Go.Proofs.Ytpjdlkbpnodcdaa
open Go.RowKit
set_option linter.unusedVariables false

theorem results_blk_tmp {P : Program} {fn : Func} {p q : Tmp} {ty : TypeId} (h : fn.results = #[.cell p ty, .tmp q]) (tmps : Array Value) (w : World) (g : Nat)
    (hp : tmps.getD p undef = .pointer (some ⟨g, 0, none⟩)) (v : Value) (hq : tmps.getD q undef = v) {t : TypeId} {cs : List Value} {d : TypeDesc} (hg : Blk w g t cs)
    (hu : P.underlying ty = some d) (hd : (match d with | .struct _ | .array _ _ => true | _ => false) = true) (hi : (P.info? ty).map (·.size) = some cs.length) : (results fn tmps).run P w = .ok (.tuple #[.agg cs.toArray, v]) w := by
  have hp' : tmps[p]?.getD undef = .pointer (some ⟨g, 0, none⟩) := by simpa using hp
  have hq' : tmps[q]?.getD undef = v := by simpa using hq
  simp [results, h, hp', hq', asAddr, run_loadVar_row w g t ty cs.toArray (0, 0) d hg hu hd (by simpa using hi)]
theorem info_tree : (Try.prog.info? 91).map (fun i => (i.zero, i.size, i.bytes)) = some (some (.agg #[.int .i64 0, .slice none 0 0]), 2, 32) := by kernel_rfl
theorem size_rtree : (Try.prog.info? 91).map (·.size) = some 2 := by kernel_rfl
theorem RT.row_one (t : RT) : ∀ u ∈ t.row, u.oneCell' = true := by simp [RT.row, RT.v, Value.oneCell']
theorem OwnR.base {w : World} {base base' : Nat} {e : TypeId} {k : Nat} {v : Value} {rows : List (List Value)} (h : OwnR w base e k v rows) (hb : base' ≤ base) : OwnR w base' e k v rows := by
  obtain ⟨k0, k1, k2⟩ := h
  refine ⟨k0, k1, ?_⟩
  rcases k2 with h | ⟨g, cap, cur, hv, hg, r⟩
  · exact .inl h
  · exact .inr ⟨g, cap, cur, hv, by omega, r⟩
theorem OwnR.rowOther {w : World} {base : Nat} {e : TypeId} {k : Nat} {v : Value} {rows : List (List Value)} (h : OwnR w base e k v rows) (r : Nat) (row : Array Value) (hne : ∀ b, v.ownBlock = some b → b ≠ r) : OwnR (w.setRow r row) base e k v rows := by
  obtain ⟨k0, k1, k2⟩ := h
  refine ⟨k0, k1, ?_⟩
  rcases k2 with h | ⟨g, cap, cur, hv, hg, hh, rest⟩
  · exact .inl h
  · refine .inr ⟨g, cap, cur, hv, hg, ?_, rest⟩
    have hB : Blk w g e cur.toList := by unfold Blk; exact hh
    have hB' := hB.rowOther (g := r) (hne g (by rw [hv]; rfl)) row
    unfold Blk at hB'
    exact hB'
theorem take_out {T : List RT} {at' j : Nat} (hj : j < T.length) {t : RT} (ht : T[j]? = some t) (hat : at' < T.length) : (T.take (j + 1)).eraseIdx at' = if j = at' then (T.take j).eraseIdx at' else (T.take j).eraseIdx at' ++ [t] := by
  have e : T.take (j + 1) = T.take j ++ [t] := by rw [List.take_add_one, ht]; rfl
  have hl : (T.take j).length = j := by rw [List.length_take]; omega
  rw [e]
  split
  · rename_i e'
    subst e'
    rw [List.eraseIdx_of_length_le (l := T.take j) (by omega), List.eraseIdx_append_of_length_le (by omega), hl, Nat.sub_self]
    simp
  · rename_i e'
    rcases Nat.lt_or_ge at' j with h | h
    · rw [List.eraseIdx_append_of_lt_length (by omega)]
    · rw [List.eraseIdx_of_length_le (by rw [List.length_append, hl, List.length_singleton]; omega), List.eraseIdx_of_length_le (by omega)]
def TakeRet (T : List RT) (at' : Nat) (t : RT) (w : World) (e : Ending) (w' : World) : Prop := ∃ v, e = .returned (.tuple #[.agg t.row.toArray, v]) ∧ OwnR w' w.heap.size 91 2 v (rowsT (T.eraseIdx at')) ∧ Below w.heap.size w w'
set_option maxRecDepth 100000 in
set_option maxHeartbeats 2000000 in
theorem r_take (T : List RT) (at' : Nat) (t : RT) (p : Option Addr) (cap : Nat) (w : World) (hl : T.length ≤ 1000) (hS : Sl w 2 (.slice p T.length cap) (rowsT T)) (hat : T[at']? = some t) :
    Calls Try.prog 49 #[.slice p T.length cap, .int .i64 (at' : Int)] w (TakeRet T at' t w) := by
  have hatl : at' < T.length := (List.getElem?_eq_some_iff.1 hat).1
  obtain ⟨x, tg, sy, gs, cs⟩ := t
  obtain ⟨i1, hi1, hy0, hy1, hy2⟩ := info_parts2 info_tree
  obtain ⟨w1, hw1⟩ : ∃ w1, w.alloc (.cells #[.int .i64 0, .slice none 0 0] 91) = w1 := ⟨_, rfl⟩
  have hb1 : Below w.heap.size w w1 := by rw [← hw1]; exact (Below.refl _ _).alloc (Nat.le_refl _) _
  have kR : Blk w1 w.heap.size 91 [.int .i64 0, .slice none 0 0] := by rw [← hw1]; exact Blk.new' w _ _ rfl
  have hz1 : w1.heap.size = w.heap.size + 1 := by rw [← hw1]; simp
  have k0 := OwnR.empty w1 (w.heap.size + 1) 91 2 (by omega)
  have kb := hb1.alloc hb1.size (.cells #[] 91)
  have kR1 := kR.alloc (.cells #[] 91)
  rw [hz1] at k0
  have K0 := Lib.hid k0
  have KB := Lib.hid kb
  have KR := Lib.hid kR1
  have HS := Lib.hid hS
  have HAT := Lib.hid hat
  have HW1 := Lib.hid hw1
  clear hS hat k0 kb kR kR1 hb1 hw1
  go_enter Try.func49, Try.ntmps49
  go_wp2
  rw [HW1.out]
  have z0 : rowsT ((T.take 0).eraseIdx at') = [] := by simp [rowsT]
  go_loopw [6, 7] (fun u i wr => ∃ j : Nat, j ≤ T.length ∧ i = .int .i64 (j : Int) ∧ OwnR wr (w.heap.size + 1) 91 2 u (rowsT ((T.take j).eraseIdx at')) ∧ Blk wr w.heap.size 91 [.int .i64 0, .slice none 0 0] ∧ Below w.heap.size w wr) (fun _ i _ => T.length - (intOf i).toNat)
  case atStart => exact ⟨0, by omega, rfl, by rw [z0]; exact K0.out, KR.out, KB.out⟩
  case round =>
    obtain ⟨j, hj, rfl, go, gR, gb⟩ := hrel
    clear K0 KB KR z0 HW1
    by_cases hlt : j < T.length
    · have d1 : (j : Int) < (T.length : Int) := by omega
      obtain ⟨t', ht'⟩ : ∃ t', T[j]? = some t' := ⟨_, List.getElem?_eq_getElem hlt⟩
      have hsn := take_out hlt ht' hatl
      by_cases he : j = at'
      · rw [if_pos he] at hsn
        rw [← hsn] at go
        have e1 : ((j : Int) != (at' : Int)) = false := by rw [he]; simp
        have GO := Lib.hid go
        have GR := Lib.hid gR
        have GB := Lib.hid gb
        clear hsn go gR gb he
        go_wp2
        go_roundw
        case rel => exact ⟨j + 1, by omega, by go_num, GO.out, GR.out, GB.out⟩
        case measure => simp [intOf]; omega
      · rw [if_neg he] at hsn
        have e1 : ((j : Int) != (at' : Int)) = true := by rw [bne_iff_ne]; omega
        obtain ⟨a, rfl, hc⟩ := (HS.out.below gb).row (rowsT_at ht')
        have hsn2 : rowsT ((T.take (j + 1)).eraseIdx at') = rowsT ((T.take j).eraseIdx at') ++ [t'.row] := by rw [hsn]; simp [rowsT]
        have hrl : (rowsT ((T.take j).eraseIdx at')).length ≤ j := by
          rw [rowsT_len, List.length_eraseIdx, List.length_take]
          split <;> omega
        have HSN := Lib.hid hsn2
        have HRL := Lib.hid hrl
        have HC := Lib.hid hc
        clear hsn hsn2 hrl hc he ht'
        generalize rowsT ((T.take j).eraseIdx at') = rows at *
        have hrw : t'.row = [.int .i64 (t'.wt : Int), .slice (some ⟨t'.g, 0, none⟩) t'.syms.length t'.cap] := rfl
        rw [hrw] at HC HSN
        have hone : ∀ r ∈ [t'.row], ∀ u ∈ r, u.oneCell' = true := fun r hr => by rw [List.mem_singleton.1 hr]; exact t'.row_one
        rw [hrw] at hone
        clear hrw
        generalize t'.wt = x at *
        generalize t'.syms.length = ns at *
        generalize t'.g = gs at *
        generalize t'.cap = cs at *
        have hnb := Blk.new' wr 91 (c := #[.int .i64 (x : Int), .slice (some ⟨gs, 0, none⟩) ns cs]) [.int .i64 (x : Int), .slice (some ⟨gs, 0, none⟩) ns cs] rfl
        have hnews := sl_one hnb
        have hown := go.alloc (.cells #[.int .i64 (x : Int), .slice (some ⟨gs, 0, none⟩) ns cs] 91)
        have hlo := go.lt
        have hgb := gb.alloc gb.size (.cells #[.int .i64 (x : Int), .slice (some ⟨gs, 0, none⟩) ns cs] 91)
        have hgR := gR.alloc (.cells #[.int .i64 (x : Int), .slice (some ⟨gs, 0, none⟩) ns cs] 91)
        have hbase : w.heap.size + 1 ≤ (wr.alloc (.cells #[.int .i64 (x : Int), .slice (some ⟨gs, 0, none⟩) ns cs] 91)).heap.size := hgR.lt
        have hlen : rows.length + [[Value.int .i64 (x : Int), .slice (some ⟨gs, 0, none⟩) ns cs]].length ≤ maxLen := by have := HRL.out; rw [List.length_singleton]; unfold maxLen; omega
        have hby : (rows.length + [[Value.int .i64 (x : Int), .slice (some ⟨gs, 0, none⟩) ns cs]].length) * 32 ≤ 140737488355328 := by have := HRL.out; rw [List.length_singleton]; omega
        have HONE := Lib.hid hone
        have HLEN := Lib.hid hlen
        have HBY := Lib.hid hby
        have HOW := Lib.hid hown
        have HNW := Lib.hid hnews
        have HLO := Lib.hid hlo
        have HGB := Lib.hid hgb
        have HGR := Lib.hid hgR
        have HBA := Lib.hid hbase
        clear hone hlen hby hnb hnews hown hlo hgb hgR hbase go gb gR
        go_wp2_with (first | (refine wpList_load_addr rfl 91 _ rfl _ rfl [.int .i64 (x : Int), .slice (some ⟨gs, 0, none⟩) ns cs] HC.out Try.underlying91 rfl (by rw [size_rtree]; rfl) ?_) | (refine wpList_append_rows rfl _ _ 89 rfl (w.heap.size + 1) 91 i1 (.agg #[.int .i64 0, .slice none 0 0]) 2 32 Try.underlying89 hi1 hy0 hy1 hy2 rfl (by decide) _ rows rfl HOW.out (.slice (some ⟨wr.heap.size, 0, none⟩) 1 1) [[.int .i64 (x : Int), .slice (some ⟨gs, 0, none⟩) ns cs]] rfl HNW.out HONE.out HLEN.out HBY.out HBA.out (.inr ⟨_, _, _, rfl⟩) ?_; intro v' w5 ho5 hg5 hv5))
        have gb5 := HGB.out.grown hg5 (by have := HBA.out; omega) (fun k e => by have := (HLO.out k e).1; omega)
        have gR5 : Blk w5 w.heap.size 91 [.int .i64 0, .slice none 0 0] := (hg5.block w.heap.size HGR.out.lt (fun e => by have := (HLO.out _ e.symm).1; omega)).trans HGR.out
        go_roundw
        case rel => exact ⟨j + 1, by omega, by go_num, by rw [HSN.out]; exact ho5, gR5, gb5⟩
        case measure => simp [intOf]; omega
    · obtain rfl : j = T.length := by omega
      rw [List.take_length] at go
      obtain ⟨a, rfl, hc⟩ := (HS.out.below gb).row (rowsT_at HAT.out)
      have hc : ∀ (jj : Nat) (xx : Value), [Value.int .i64 (x : Int), .slice (some ⟨gs, 0, none⟩) sy.length cs][jj]? = some xx → wr.cell? ((a.add (at' * 2)).add jj) = some xx := hc
      have i1 : (at' : Int) < (T.length : Int) := by omega
      obtain ⟨pu, cu, eu⟩ := go.isSlice
      subst eu
      have hown := go.base (base' := w.heap.size) (by omega)
      have hlo := go.lt
      have HOWN := Lib.hid hown
      have HLO := Lib.hid hlo
      have HC := Lib.hid hc
      have GR := Lib.hid gR
      have GB := Lib.hid gb
      clear hc go hown hlo gR gb hlt
      have hfin : Blk (wr.setRow w.heap.size #[.int .i64 (x : Int), .slice (some ⟨gs, 0, none⟩) sy.length cs]) w.heap.size 91 [.int .i64 (x : Int), .slice (some ⟨gs, 0, none⟩) sy.length cs] := GR.out.row _ rfl
      have HFIN := Lib.hid hfin
      clear hfin
      go_wp2_with (first | (refine wpList_load_addr rfl 91 _ rfl _ rfl [.int .i64 (x : Int), .slice (some ⟨gs, 0, none⟩) sy.length cs] HC.out Try.underlying91 rfl (by rw [size_rtree]; rfl) ?_) | (refine wpList_store_blk rfl 91 _ _ rfl w.heap.size [.int .i64 (x : Int), .slice (some ⟨gs, 0, none⟩) sy.length cs] rfl rfl GR.out (by rw [size_rtree]; rfl) rfl (by simp [Value.oneCell']) ?_))
      refine bodyPost_ret (results_blk_tmp rfl _ _ _ rfl _ rfl HFIN.out Try.underlying91 rfl (by rw [size_rtree]; rfl)) rfl ⟨_, rfl, HOWN.out.rowOther _ _ (fun b hb => by have := (HLO.out b hb).1; omega), below_setRow GB.out (Nat.le_refl _) _⟩
end Go.Proofs.Ytpjdlkbpnodcdaa
