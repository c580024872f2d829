/- Walk of the leaves: one for each symbol that comes, sorted. -/
import Derived.Test.YtpjdlkbpnodcdaaPStb
import Derived.Test.YtpjdlkbpnodcdaaPLen
import Derived.Test.YtpjdlkbpnodcdaaJOpen
namespace Go.Proofs.Ytpjdlkbpnodcdaa
open Go.RowKit
set_option linter.unusedVariables false

/-- a list of plain numbers as rows of integers -/
def rowsN (l : List Nat) : List (List Value) := l.map fun (n : Nat) => [.int .i64 (n : Int)]
theorem rowsN_len (l : List Nat) : (rowsN l).length = l.length := by simp [rowsN]
theorem rowsN_at {l : List Nat} {j : Nat} (h : j < l.length) : (rowsN l)[j]? = some [.int .i64 ((l.getD j 0 : Nat) : Int)] := by simp [rowsN, h]
theorem SlN.cell {w : World} {p : Option Addr} {n cap : Nat} {l : List Nat} (h : Sl w 1 (.slice p n cap) (rowsN l)) {j : Nat} (hj : j < l.length) : ∃ a : Addr, p = some a ∧ w.cell? (a.add j) = some (.int .i64 ((l.getD j 0 : Nat) : Int)) := by
  obtain ⟨a, e, hc⟩ := h.row (rowsN_at hj)
  exact ⟨a, e, by have := hc 0 _ rfl; rw [Nat.mul_one] at this; exact this⟩
/-- pointers as rows -/
def prow (N : Nat → Nat) (d : List Nat) : List (List Value) := d.map fun x => [pv (N x)]
theorem prow_len (N : Nat → Nat) (d : List Nat) : (prow N d).length = d.length := by simp [prow]
theorem prow_flat (N : Nat → Nat) : ∀ d : List Nat, (prow N d).flatten = ptrs N d
  | [] => rfl
  | n :: l => by
    have e : prow N (n :: l) = [pv (N n)] :: prow N l := rfl
    rw [e, List.flatten_cons, prow_flat N l]
    rfl
theorem prow_congr {N N' : Nat → Nat} {d : List Nat} (h : ∀ x ∈ d, N x = N' x) : prow N d = prow N' d := List.map_congr_left fun x hx => by rw [h x hx]
/-- the block of an own row is none of another type -/
theorem OwnR.ne {w : World} {base : Nat} {e : TypeId} {k : Nat} {v : Value} {rows : List (List Value)} (h : OwnR w base e k v rows) {b : Nat} {t : TypeId} {vs : List Value} (hb : Blk w b t vs) (ht : t ≠ e) : ∀ i, v.ownBlock = some i → i ≠ b := by
  rintro i hi rfl
  rcases h.2.2 with ⟨hv, _⟩ | ⟨g, cap, cur, hv, hg, hh, r⟩
  · rw [hv] at hi; cases hi
  · rw [hv] at hi
    cases hi
    unfold Blk at hb
    rw [hb] at hh
    simp at hh
    exact ht hh.2
/-- an own row of pointers lies in a block, with more behind it -/
theorem OwnR.blk {w : World} {base : Nat} {e : TypeId} {v : Value} {N : Nat → Nat} {d : List Nat} (h : OwnR w base e 1 v (prow N d)) (h0 : 0 < d.length) :
    ∃ g cap rest, v = .slice (some ⟨g, 0, none⟩) d.length cap ∧ base ≤ g ∧ g < w.heap.size ∧ Blk w g e (ptrs N d ++ rest) ∧ ∀ (w' : World) (N' : Nat → Nat) (d' : List Nat), d'.length = d.length → Blk w' g e (ptrs N' d' ++ rest) → OwnR w' base e 1 v (prow N' d') := by
  have h' := h
  obtain ⟨k0, k1, k2⟩ := h
  rw [prow_len, prow_flat] at k1 k2
  rcases k2 with ⟨hv, hn⟩ | ⟨g, cap, cur, hv, hg, hh, hn, hm, hcs, htk⟩
  · omega
  · have e0 : cur.toList = ptrs N d ++ cur.toList.drop (d.length * 1) := by rw [← htk, List.take_append_drop]
    refine ⟨g, cap, cur.toList.drop (d.length * 1), hv, hg, ?_, ?_, fun w' N' d' hl hb => ?_⟩
    · rcases Nat.lt_or_ge g w.heap.size with hb | hb
      · exact hb
      · rw [Array.getElem?_eq_none hb] at hh; cases hh
    · unfold Blk
      rw [← e0]
      exact hh
    · refine ⟨fun r hr => ?_, ?_, .inr ⟨g, cap, (ptrs N' d' ++ cur.toList.drop (d.length * 1)).toArray, ?_, hg, hb, ?_, hm, ?_, ?_⟩⟩
      · simp only [prow, List.mem_map] at hr
        obtain ⟨n, _, rfl⟩ := hr
        rfl
      · rw [prow_len, prow_flat, ptrs_len, Nat.mul_one]
      · rw [prow_len, hl]; exact hv
      · rw [prow_len, hl]; exact hn
      · have hc : cur.toList.length = (ptrs N d ++ cur.toList.drop (d.length * 1)).length := by rw [← e0]
        rw [← hcs]
        simp only [List.size_toArray, List.length_append, ptrs_len] at hc ⊢
        rw [hl, ← hc]
        simp
      · rw [prow_len, prow_flat, Nat.mul_one, List.take_left' (by rw [ptrs_len])]
theorem Nds.keep {w w' : World} {N k : Nat → Nat} {I : List Nat} (h : Nds w N k I) (hb : Below w.heap.size w w') : Nds w' N k I := fun z hz => (h z hz).below hb (h z hz).lt
/-- the symbols that come, of those below j -/
def symsF (fr : List Nat) (j : Nat) : List Nat := (List.range j).filter fun i => decide (0 < fr.getD i 0)
theorem symsF_yes {fr : List Nat} {j : Nat} (h : 0 < fr.getD j 0) : symsF fr (j + 1) = symsF fr j ++ [j] := by
  unfold symsF
  rw [List.range_succ, List.filter_append, List.filter_cons_of_pos (by exact decide_eq_true h)]
  rfl
theorem symsF_no {fr : List Nat} {j : Nat} (h : ¬ 0 < fr.getD j 0) : symsF fr (j + 1) = symsF fr j := by
  unfold symsF
  rw [List.range_succ, List.filter_append, List.filter_cons_of_neg (by rw [decide_eq_false h]; decide)]
  exact List.append_nil _
theorem symsF_lt {fr : List Nat} {j x : Nat} (h : x ∈ symsF fr j) : x < j := List.mem_range.1 (List.mem_filter.1 h).1
theorem symsF_len (fr : List Nat) (j : Nat) : (symsF fr j).length ≤ j := by
  refine Nat.le_trans (List.length_filter_le _ _) (by simp)
theorem symsF_asc (fr : List Nat) (j : Nat) : (symsF fr j).Pairwise (· < ·) := (List.pairwise_lt_range (n := j)).filter _
/-- what the leaves are -/
def LeafRet (fr : List Nat) (w : World) (e : Ending) (w' : World) : Prop := ∃ N S v, e = .returned v ∧ OwnR w' w.heap.size 83 1 v (prow N S) ∧ Nds w' N (fun i => fr.getD i 0) S ∧ (∀ z ∈ S, w.heap.size ≤ N z) ∧ S.Perm (symsF fr fr.length) ∧ Srt (fun i => fr.getD i 0) S ∧ Below w.heap.size w w'
theorem info_tptrL : (Try.prog.info? 83).map (fun i => (i.zero, i.size, i.bytes)) = some (some (.pointer none), 1, 8) := by kernel_rfl
theorem size_tree : (Try.prog.info? 85).map (·.size) = some 4 := by kernel_rfl
set_option maxRecDepth 100000 in
set_option maxHeartbeats 2000000 in
theorem p_leaves (fr : List Nat) (p : Option Addr) (cap : Nat) (w : World) (hl : fr.length ≤ 300) (hf : ∀ i, fr.getD i 0 ≤ 1048576) (hS : Sl w 1 (.slice p fr.length cap) (rowsN fr)) :
    Calls Try.prog 45 #[.slice p fr.length cap] w (LeafRet fr w) := by
  obtain ⟨i0, hi0, hz0, hz1, hz2⟩ := info_parts2 info_tptrL
  have hS := Lib.hid hS
  have hf := Lib.hid hf
  go_enter Try.func45, Try.ntmps45
  go_wp2
  go_loopw [3, 8] (fun u i wr => ∃ (j : Nat) (N : Nat → Nat), j ≤ fr.length ∧ i = .int .i64 (j : Int) ∧ OwnR wr w.heap.size 83 1 u (prow N (symsF fr j)) ∧ Nds wr N (fun i => fr.getD i 0) (symsF fr j) ∧ (∀ z ∈ symsF fr j, w.heap.size ≤ N z) ∧ (symsF fr j = [] → u = .slice none 0 0) ∧ Below w.heap.size w wr) (fun _ i _ => fr.length - (intOf i).toNat)
  case atStart => exact ⟨0, fun _ => 0, by omega, rfl, OwnR.nil _ _ _ _, (fun z hz => by cases hz), (fun z hz => by cases hz), (fun _ => rfl), Below.refl _ _⟩
  case round =>
    obtain ⟨j, N, hj, rfl, go, gN, gL, gE, gb⟩ := hrel
    by_cases hlt : j < fr.length
    · have d1 : (j : Int) < (fr.length : Int) := by omega
      obtain ⟨a, rfl, hc⟩ := SlN.cell (hS.out.below gb) hlt
      have hfj := hf.out j
      by_cases hp : 0 < fr.getD j 0
      · have hsy := symsF_yes hp
        have hsl := symsF_len fr j
        have hslt := fun x => symsF_lt (fr := fr) (j := j) (x := x)
        obtain ⟨n, hn⟩ : ∃ n, fr.getD j 0 = n := ⟨_, rfl⟩
        have HFN := Lib.hid hn
        rw [hn] at hc hfj hp
        generalize symsF fr j = I at *
        have d2 : (0 : Int) < (n : Int) := by omega
        have d3 : decide (0 < n) = true := by simp; omega
        obtain ⟨w1, hw1⟩ : ∃ w1, wr.alloc (.cells #[.int .i64 (n : Int), .int .i64 (j : Int), .pointer none, .pointer none] 85) = w1 := ⟨_, rfl⟩
        have hnb : Blk w1 wr.heap.size 85 (leafN n j) := by rw [← hw1]; exact Blk.new' wr 85 (c := #[.int .i64 (n : Int), .int .i64 (j : Int), .pointer none, .pointer none]) (leafN n j) rfl
        have kb1 : Below w.heap.size w w1 := by rw [← hw1]; exact gb.alloc gb.size _
        have hown : OwnR w1 w.heap.size 83 1 u3 (prow N I) := by rw [← hw1]; exact go.alloc _
        have gN1 : Nds w1 N (fun i => fr.getD i 0) I := fun z hz => by rw [← hw1]; exact (gN z hz).alloc _
        have hsz : w1.heap.size = wr.heap.size + 1 := by rw [← hw1]; simp
        have HW1 := Lib.hid hw1
        have hnews := sl_one (Blk.new' w1 83 (c := #[pv wr.heap.size]) [pv wr.heap.size] rfl)
        have hown2 := hown.alloc (.cells #[pv wr.heap.size] 83)
        have kb2 := kb1.alloc kb1.size (.cells #[pv wr.heap.size] 83)
        have hnb2 := hnb.alloc (.cells #[pv wr.heap.size] 83)
        have gN2 : Nds (w1.alloc (.cells #[pv wr.heap.size] 83)) N (fun i => fr.getD i 0) I := fun z hz => (gN1 z hz).alloc _
        have hbase := kb2.size
        have hone : ∀ r ∈ [[pv wr.heap.size]], ∀ u ∈ r, u.oneCell' = true := by simp [pv, Value.oneCell']
        have hlen : (prow N I).length + [[pv wr.heap.size]].length ≤ maxLen := by rw [prow_len, List.length_singleton]; unfold maxLen; omega
        have hby : ((prow N I).length + [[pv wr.heap.size]].length) * 8 ≤ 140737488355328 := by rw [prow_len, List.length_singleton]; omega
        have hlow : w.heap.size ≤ wr.heap.size := gb.size
        rw [hsz] at hnews
        rw [← hw1] at hnews hown2 kb2 hnb2 gN2 hbase
        unfold pv at hnews hown2 kb2 hnb2 gN2 hone hlen hby hbase
        have HSY := Lib.hid hsy
        have HNW := Lib.hid hnews
        have HOW := Lib.hid hown2
        have HKB := Lib.hid kb2
        have HNB := Lib.hid hnb2
        have HGN := Lib.hid gN2
        have HBA := Lib.hid hbase
        have HONE := Lib.hid hone
        have HLEN := Lib.hid hlen
        have HBY := Lib.hid hby
        have HSLT := Lib.hid hslt
        have HLO := Lib.hid gL
        clear gE hsy hnb kb1 hown gN1 hsz go gN hn hslt hw1 hnews hown2 kb2 hnb2 gN2 hbase hone hlen hby gL gb HW1
        go_wp2_with (refine wpList_append_rows rfl _ _ 81 rfl w.heap.size 83 i0 (.pointer none) 1 8 Try.underlying81 hi0 hz0 hz1 hz2 rfl (by decide) _ (prow N I) rfl HOW.out (.slice (some ⟨wr.heap.size + 1, 0, none⟩) 1 1) [[.pointer (some ⟨wr.heap.size, 0, none⟩)]] rfl HNW.out HONE.out HLEN.out HBY.out HBA.out (.inr ⟨_, _, _, rfl⟩) ?_; intro v' w5 ho5 hg5 hv5)
        have gb5 := HKB.out.grown hg5 HBA.out (fun k e => (HOW.out.lt k e).1)
        have hnb5 := HNB.out.grownO hg5 (HOW.out.ne HNB.out (by decide))
        have gN5 : Nds w5 N (fun i => fr.getD i 0) I := fun z hz => (HGN.out z hz).grownO hg5 (HOW.out.ne (HGN.out z hz) (by decide))
        obtain ⟨N', hN'⟩ : ∃ N' : Nat → Nat, N' = fun x => if x = j then wr.heap.size else N x := ⟨_, rfl⟩
        have hNe : ∀ x ∈ I, N x = N' x := fun x hx => by
          have := HSLT.out x hx
          rw [hN']
          exact (if_neg (by omega)).symm
        have hNj : N' j = wr.heap.size := by rw [hN']; exact if_pos rfl
        have ho6 : OwnR w5 w.heap.size 83 1 v' (prow N' (symsF fr (j + 1))) := by
          rw [HSY.out]
          unfold prow
          rw [List.map_append]
          have e1 : I.map (fun x => [pv (N' x)]) = I.map (fun x => [pv (N x)]) := (prow_congr hNe).symm
          rw [e1]
          simp only [List.map_cons, List.map_nil, hNj]
          exact ho5
        have gN6 : Nds w5 N' (fun i => fr.getD i 0) (symsF fr (j + 1)) := fun z hz => by
          rw [HSY.out] at hz
          rcases List.mem_append.1 hz with hz | hz
          · rw [← hNe z hz]; exact gN5 z hz
          · rw [List.mem_singleton.1 hz, hNj]
            show Blk w5 wr.heap.size _ (leafN (fr.getD j 0) j)
            rw [HFN.out]; exact hnb5
        have gL6 : ∀ z ∈ symsF fr (j + 1), w.heap.size ≤ N' z := fun z hz => by
          rw [HSY.out] at hz
          rcases List.mem_append.1 hz with hz | hz
          · rw [← hNe z hz]; exact HLO.out z hz
          · rw [List.mem_singleton.1 hz, hNj]; exact hlow
        clear hN' hNe hNj hnb5 gN5 ho5 hg5 hv5
        go_roundw
        case rel => exact ⟨j + 1, N', by omega, by go_num, ho6, gN6, gL6, (fun h => by rw [HSY.out] at h; simp at h), gb5⟩
        case measure => (simp [intOf]; try omega)
      · have hsy := symsF_no hp
        rw [← hsy] at go gN gL gE
        have GE := Lib.hid gE
        clear gE
        have d3 : ¬ ((fr.getD j 0 : Nat) : Int) > 0 := by omega
        obtain ⟨n, hn⟩ : ∃ n, fr.getD j 0 = n := ⟨_, rfl⟩
        rw [hn] at hc d3
        have hn0 : n = 0 := by omega
        subst hn0
        have d4 : decide (0 < 0) = false := rfl
        clear hsy hn d3
        go_wp2
        go_roundw
        case rel => exact ⟨j + 1, N, by omega, by go_num, go, gN, gL, GE.out, gb⟩
        case measure => (simp [intOf]; try omega)
    · obtain rfl : j = fr.length := by omega
      by_cases h0 : 0 < (symsF fr fr.length).length
      · clear gE
        obtain ⟨g, cap2, rest, rfl, hg1, hg2, hB, hback⟩ := go.blk h0
        have hC := z_sort g cap2 _ N (fun i => fr.getD i 0) _ rest wr rfl (symsF_asc fr fr.length) hB gN (by have := symsF_len fr fr.length; omega) h0
        unfold fcmp at hC
        have HC := Lib.hid hC
        have HB := Lib.hid hback
        have GN := Lib.hid gN
        have GL := Lib.hid gL
        have HBB := Lib.hid hB
        clear hC hback gN gL go hB
        go_wp2_with fail
        (with_reducible refine HC.out.mono ?_)
        rintro e w9 ⟨rfl, S, q1, q2, q3⟩
        have hret : OwnR w9 w.heap.size 83 1 (.slice (some ⟨g, 0, none⟩) (symsF fr fr.length).length cap2) (prow N S) := HB.out w9 N S q1.length_eq q3.2
        have gN9 : Nds w9 N (fun i => fr.getD i 0) S := fun z hz => GN.out.turned q3 HBB.out z (q1.subset hz)
        have gL9 : ∀ z ∈ S, w.heap.size ≤ N z := fun z hz => GL.out z (q1.subset hz)
        have gb9 := q3.below gb gb.size hg1
        clear HC HB GN GL HBB q3
        go_wp2
        go_ret
        exact ⟨N, S, _, rfl, hret, gN9, gL9, q1, q2, gb9⟩
      · have hI : symsF fr fr.length = [] := List.eq_nil_of_length_eq_zero (by omega)
        rw [hI] at go
        obtain rfl : u3 = .slice none 0 0 := gE hI
        clear gE
        have hC := z_sort0 wr
        unfold fcmp at hC
        have HC := Lib.hid hC
        have HI := Lib.hid hI
        clear hC gN gL hI h0
        go_wp2_with fail
        (with_reducible refine HC.out.mono ?_)
        rintro e w9 ⟨rfl, rfl⟩
        go_wp2
        go_ret
        exact ⟨N, [], _, rfl, go, (fun z hz => by cases hz), (fun z hz => by cases hz), by rw [HI.out], List.Pairwise.nil, gb⟩
end Go.Proofs.Ytpjdlkbpnodcdaa
