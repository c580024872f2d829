/- Walk of the leaves: one for each symbol that comes, sorted. -/
import Derived.Test.YtpjihjbgihionaaPB
import Derived.Test.YtpjihjbgihionaaN1
import Derived.Test.YtpjihjbgihionaaJ1
import Derived.Test.YtpjihjbgihionaaPA
import Derived.Test.YtpjihjbgihionaaG1
import Derived.Deep.LoopGhost
namespace Go.Proofs.Ytpjihjbgihionaa
open Go.RowKit
set_option linter.unusedVariables false

/-- a list of plain numbers as rows of integers -/
def rowsN (l : List Nat) : List (List Value) := l.map fun (n : Nat) => [.int .i64 (n : Int)]
theorem rowsN_len (l : List Nat) : (rowsN l).length = l.length := by simp [rowsN]
theorem rowsN_at {l : List Nat} {j : Nat} (h : j < l.length) : (rowsN l)[j]? = some [.int .i64 ((l.getD j 0 : Nat) : Int)] := by simp [rowsN, h]
theorem SlN.cell {w : World} {p : Option Addr} {n cap : Nat} {l : List Nat} (h : Sl w 1 (.slice p n cap) (rowsN l)) {j : Nat} (hj : j < l.length) : ∃ a : Addr, p = some a ∧ w.cell? (a.add j) = some (.int .i64 ((l.getD j 0 : Nat) : Int)) := by
  obtain ⟨a, e, hc⟩ := h.row (rowsN_at hj)
  exact ⟨a, e, by have := hc 0 _ rfl; rw [Nat.mul_one] at this; exact this⟩
/-- pointers as rows -/
def pRow (N : Nat → Nat) (d : List Nat) : List (List Value) := d.map fun x => [pv (N x)]
theorem pRow_len (N : Nat → Nat) (d : List Nat) : (pRow N d).length = d.length := by simp [pRow]
theorem prow_flat (N : Nat → Nat) : ∀ d : List Nat, (pRow N d).flatten = ptrs N d
  | [] => rfl
  | n :: l => by
    have e : pRow N (n :: l) = [pv (N n)] :: pRow N l := rfl
    rw [e, List.flatten_cons, prow_flat N l]
    rfl
theorem prow_congr {N N' : Nat → Nat} {d : List Nat} (h : ∀ x ∈ d, N x = N' x) : pRow N d = pRow N' d := List.map_congr_left fun x hx => by rw [h x hx]
/-- an own row of pointers lies in a block, with more behind it -/
theorem OwnR.blk {w : World} {base : Nat} {e : TypeId} {v : Value} {N : Nat → Nat} {d : List Nat} (h : OwnR w base e 1 v (pRow N d)) (h0 : 0 < d.length) :
    ∃ g cap rest, v = .slice (some ⟨g, 0, none⟩) d.length cap ∧ base ≤ g ∧ g < w.heap.size ∧ Blk w g e (ptrs N d ++ rest) ∧ ∀ (w' : World) (N' : Nat → Nat) (d' : List Nat), d'.length = d.length → Blk w' g e (ptrs N' d' ++ rest) → OwnR w' base e 1 v (pRow N' d') := by
  have h' := h
  obtain ⟨k0, k1, k2⟩ := h
  rw [pRow_len, prow_flat] at k1 k2
  rcases k2 with ⟨hv, hn⟩ | ⟨g, cap, cur, hv, hg, hh, hn, hm, hcs, htk⟩
  · omega
  · have e0 : cur.toList = ptrs N d ++ cur.toList.drop (d.length * 1) := by rw [← htk, List.take_append_drop]
    refine ⟨g, cap, cur.toList.drop (d.length * 1), hv, hg, ?_, ?_, fun w' N' d' hl hb => ?_⟩
    · rcases Nat.lt_or_ge g w.heap.size with hb | hb
      · exact hb
      · rw [Array.getElem?_eq_none hb] at hh; cases hh
    · unfold Blk
      rw [← e0]
      exact hh
    · refine ⟨fun r hr => ?_, ?_, .inr ⟨g, cap, (ptrs N' d' ++ cur.toList.drop (d.length * 1)).toArray, ?_, hg, hb, ?_, hm, ?_, ?_⟩⟩
      · simp only [pRow, List.mem_map] at hr
        obtain ⟨n, _, rfl⟩ := hr
        rfl
      · rw [pRow_len, prow_flat, ptrs_len, Nat.mul_one]
      · rw [pRow_len, hl]; exact hv
      · rw [pRow_len, hl]; exact hn
      · have hc : cur.toList.length = (ptrs N d ++ cur.toList.drop (d.length * 1)).length := by rw [← e0]
        rw [← hcs]
        simp only [List.size_toArray, List.length_append, ptrs_len] at hc ⊢
        rw [hl, ← hc]
        simp
      · rw [pRow_len, prow_flat, Nat.mul_one, List.take_left' (by rw [ptrs_len])]
theorem Nds.keep {w w' : World} {N k : Nat → Nat} {I : List Nat} (h : Nds w N k I) (hb : Below w.heap.size w w') : Nds w' N k I := fun z hz => (h z hz).below hb (h z hz).lt
/-- the symbols that come, of those below j -/
def symsF (fr : List Nat) (j : Nat) : List Nat := (List.range j).filter fun i => decide (0 < fr.getD i 0)
theorem symsF_yes {fr : List Nat} {j : Nat} (h : 0 < fr.getD j 0) : symsF fr (j + 1) = symsF fr j ++ [j] := by
  unfold symsF
  rw [List.range_succ, List.filter_append, List.filter_cons_of_pos (by exact decide_eq_true h)]
  rfl
theorem symsF_no {fr : List Nat} {j : Nat} (h : ¬ 0 < fr.getD j 0) : symsF fr (j + 1) = symsF fr j := by
  unfold symsF
  rw [List.range_succ, List.filter_append, List.filter_cons_of_neg (by rw [decide_eq_false h]; decide)]
  exact List.append_nil _
theorem symsF_lt {fr : List Nat} {j x : Nat} (h : x ∈ symsF fr j) : x < j := List.mem_range.1 (List.mem_filter.1 h).1
theorem symsF_len (fr : List Nat) (j : Nat) : (symsF fr j).length ≤ j := by
  refine Nat.le_trans (List.length_filter_le _ _) (by simp)
theorem symsF_asc (fr : List Nat) (j : Nat) : (symsF fr j).Pairwise (· < ·) := (List.pairwise_lt_range (n := j)).filter _
/-- what the leaves are -/
def LeafRet (fr : List Nat) (w : World) (e : Ending) (w' : World) : Prop := ∃ N S v, e = .returned v ∧ OwnR w' w.heap.size 131 1 v (pRow N S) ∧ Nds w' N (fun i => fr.getD i 0) S ∧ (∀ z ∈ S, w.heap.size ≤ N z) ∧ S.Perm (symsF fr fr.length) ∧ Srt (fun i => fr.getD i 0) S ∧ Below w.heap.size w w'
theorem info_tptrL : (Try.prog.info? 131).map (fun i => (i.zero, i.size, i.bytes)) = some (some (.pointer none), 1, 8) := by kernel_rfl
theorem size_tree : (Try.prog.info? 133).map (·.size) = some 4 := by kernel_rfl
set_option maxRecDepth 100000 in
set_option maxHeartbeats 2000000 in
theorem p_leaves (fr : List Nat) (p : Option Addr) (cap : Nat) (w : World) (hl : fr.length ≤ 300) (hf : ∀ i, fr.getD i 0 ≤ 1048576) (hS : Sl w 1 (.slice p fr.length cap) (rowsN fr)) :
    Calls Try.prog 80 #[.slice p fr.length cap] w (LeafRet fr w) := by
  obtain ⟨i0, hi0, hz0, hz1, hz2⟩ := info_parts2 info_tptrL
  have hS := Lib.hid hS
  have hf := Lib.hid hf
  go_enter Try.func80, Try.ntmps80
  go_wp2
  go_loopw [3, 8] (fun u i wr => ∃ (j : Nat) (N : Nat → Nat), j ≤ fr.length ∧ i = .int .i64 (j : Int) ∧ OwnR wr w.heap.size 131 1 u (pRow N (symsF fr j)) ∧ Nds wr N (fun i => fr.getD i 0) (symsF fr j) ∧ (∀ z ∈ symsF fr j, w.heap.size ≤ N z) ∧ (symsF fr j = [] → u = .slice none 0 0) ∧ Below w.heap.size w wr) (fun _ i _ => fr.length - (intOf i).toNat)
  case atStart => exact ⟨0, fun _ => 0, by omega, rfl, OwnR.nil _ _ _ _, (fun z hz => by cases hz), (fun z hz => by cases hz), (fun _ => rfl), Below.refl _ _⟩
  case round =>
    obtain ⟨j, N, hj, rfl, go, gN, gL, gE, gb⟩ := hrel
    by_cases hlt : j < fr.length
    · have d1 : (j : Int) < (fr.length : Int) := by omega
      obtain ⟨a, rfl, hc⟩ := SlN.cell (hS.out.below gb) hlt
      have hfj := hf.out j
      by_cases hp : 0 < fr.getD j 0
      · have hsy := symsF_yes hp
        have hsl := symsF_len fr j
        have hslt := fun x => symsF_lt (fr := fr) (j := j) (x := x)
        obtain ⟨n, hn⟩ : ∃ n, fr.getD j 0 = n := ⟨_, rfl⟩
        have HFN := Lib.hid hn
        rw [hn] at hc hfj hp
        generalize symsF fr j = I at *
        have d2 : (0 : Int) < (n : Int) := by omega
        have d3 : decide (0 < n) = true := by simp; omega
        obtain ⟨w1, hw1⟩ : ∃ w1, wr.alloc (.cells #[.int .i64 (n : Int), .int .i64 (j : Int), .pointer none, .pointer none] 133) = w1 := ⟨_, rfl⟩
        have hnb : Blk w1 wr.heap.size 133 (leafN n j) := by rw [← hw1]; exact Blk.new' wr 133 (c := #[.int .i64 (n : Int), .int .i64 (j : Int), .pointer none, .pointer none]) (leafN n j) rfl
        have kb1 : Below w.heap.size w w1 := by rw [← hw1]; exact gb.alloc gb.size _
        have hown : OwnR w1 w.heap.size 131 1 u3 (pRow N I) := by rw [← hw1]; exact go.alloc _
        have gN1 : Nds w1 N (fun i => fr.getD i 0) I := fun z hz => by rw [← hw1]; exact (gN z hz).alloc _
        have hsz : w1.heap.size = wr.heap.size + 1 := by rw [← hw1]; simp
        have HW1 := Lib.hid hw1
        have hnews := sl_one (Blk.new' w1 131 (c := #[pv wr.heap.size]) [pv wr.heap.size] rfl)
        have hown2 := hown.alloc (.cells #[pv wr.heap.size] 131)
        have kb2 := kb1.alloc kb1.size (.cells #[pv wr.heap.size] 131)
        have hnb2 := hnb.alloc (.cells #[pv wr.heap.size] 131)
        have gN2 : Nds (w1.alloc (.cells #[pv wr.heap.size] 131)) N (fun i => fr.getD i 0) I := fun z hz => (gN1 z hz).alloc _
        have hbase := kb2.size
        have hone : ∀ r ∈ [[pv wr.heap.size]], ∀ u ∈ r, u.oneCell' = true := by simp [pv, Value.oneCell']
        have hlen : (pRow N I).length + [[pv wr.heap.size]].length ≤ maxLen := by rw [pRow_len, List.length_singleton]; unfold maxLen; omega
        have hby : ((pRow N I).length + [[pv wr.heap.size]].length) * 8 ≤ 140737488355328 := by rw [pRow_len, List.length_singleton]; omega
        have hlow : w.heap.size ≤ wr.heap.size := gb.size
        rw [hsz] at hnews
        rw [← hw1] at hnews hown2 kb2 hnb2 gN2 hbase
        unfold pv at hnews hown2 kb2 hnb2 gN2 hone hlen hby hbase
        have HSY := Lib.hid hsy
        have HNW := Lib.hid hnews
        have HOW := Lib.hid hown2
        have HKB := Lib.hid kb2
        have HNB := Lib.hid hnb2
        have HGN := Lib.hid gN2
        have HBA := Lib.hid hbase
        have HONE := Lib.hid hone
        have HLEN := Lib.hid hlen
        have HBY := Lib.hid hby
        have HSLT := Lib.hid hslt
        have HLO := Lib.hid gL
        clear gE hsy hnb kb1 hown gN1 hsz go gN hn hslt hw1 hnews hown2 kb2 hnb2 gN2 hbase hone hlen hby gL gb HW1
        go_wp2_with (refine wpList_append_rows rfl _ _ 129 rfl w.heap.size 131 i0 (.pointer none) 1 8 Try.underlying129 hi0 hz0 hz1 hz2 rfl (by decide) _ (pRow N I) rfl HOW.out (.slice (some ⟨wr.heap.size + 1, 0, none⟩) 1 1) [[.pointer (some ⟨wr.heap.size, 0, none⟩)]] rfl HNW.out HONE.out HLEN.out HBY.out HBA.out (.inr ⟨_, _, _, rfl⟩) ?_; intro v' w5 ho5 hg5 hv5)
        have gb5 := HKB.out.grown hg5 HBA.out (fun k e => (HOW.out.lt k e).1)
        have hnb5 := HNB.out.grownO hg5 (HOW.out.ne HNB.out (by decide))
        have gN5 : Nds w5 N (fun i => fr.getD i 0) I := fun z hz => (HGN.out z hz).grownO hg5 (HOW.out.ne (HGN.out z hz) (by decide))
        obtain ⟨N', hN'⟩ : ∃ N' : Nat → Nat, N' = fun x => if x = j then wr.heap.size else N x := ⟨_, rfl⟩
        have hNe : ∀ x ∈ I, N x = N' x := fun x hx => by
          have := HSLT.out x hx
          rw [hN']
          exact (if_neg (by omega)).symm
        have hNj : N' j = wr.heap.size := by rw [hN']; exact if_pos rfl
        have ho6 : OwnR w5 w.heap.size 131 1 v' (pRow N' (symsF fr (j + 1))) := by
          rw [HSY.out]
          unfold pRow
          rw [List.map_append]
          have e1 : I.map (fun x => [pv (N' x)]) = I.map (fun x => [pv (N x)]) := (prow_congr hNe).symm
          rw [e1]
          simp only [List.map_cons, List.map_nil, hNj]
          exact ho5
        have gN6 : Nds w5 N' (fun i => fr.getD i 0) (symsF fr (j + 1)) := fun z hz => by
          rw [HSY.out] at hz
          rcases List.mem_append.1 hz with hz | hz
          · rw [← hNe z hz]; exact gN5 z hz
          · rw [List.mem_singleton.1 hz, hNj]
            show Blk w5 wr.heap.size _ (leafN (fr.getD j 0) j)
            rw [HFN.out]; exact hnb5
        have gL6 : ∀ z ∈ symsF fr (j + 1), w.heap.size ≤ N' z := fun z hz => by
          rw [HSY.out] at hz
          rcases List.mem_append.1 hz with hz | hz
          · rw [← hNe z hz]; exact HLO.out z hz
          · rw [List.mem_singleton.1 hz, hNj]; exact hlow
        clear hN' hNe hNj hnb5 gN5 ho5 hg5 hv5
        go_roundw
        case rel => exact ⟨j + 1, N', by omega, by go_num, ho6, gN6, gL6, (fun h => by rw [HSY.out] at h; simp at h), gb5⟩
        case measure => (simp [intOf]; try omega)
      · have hsy := symsF_no hp
        rw [← hsy] at go gN gL gE
        have GE := Lib.hid gE
        clear gE
        have d3 : ¬ ((fr.getD j 0 : Nat) : Int) > 0 := by omega
        obtain ⟨n, hn⟩ : ∃ n, fr.getD j 0 = n := ⟨_, rfl⟩
        rw [hn] at hc d3
        have hn0 : n = 0 := by omega
        subst hn0
        have d4 : decide (0 < 0) = false := rfl
        clear hsy hn d3
        go_wp2
        go_roundw
        case rel => exact ⟨j + 1, N, by omega, by go_num, go, gN, gL, GE.out, gb⟩
        case measure => (simp [intOf]; try omega)
    · obtain rfl : j = fr.length := by omega
      by_cases h0 : 0 < (symsF fr fr.length).length
      · clear gE
        obtain ⟨g, cap2, rest, rfl, hg1, hg2, hB, hback⟩ := go.blk h0
        have hC := z_sort g cap2 _ N (fun i => fr.getD i 0) _ rest wr rfl (symsF_asc fr fr.length) hB gN (by have := symsF_len fr fr.length; omega) h0
        unfold fcmp at hC
        have HC := Lib.hid hC
        have HB := Lib.hid hback
        have GN := Lib.hid gN
        have GL := Lib.hid gL
        have HBB := Lib.hid hB
        clear hC hback gN gL go hB
        go_wp2_with fail
        (with_reducible refine HC.out.mono ?_)
        rintro e w9 ⟨rfl, S, q1, q2, q3⟩
        have hret : OwnR w9 w.heap.size 131 1 (.slice (some ⟨g, 0, none⟩) (symsF fr fr.length).length cap2) (pRow N S) := HB.out w9 N S q1.length_eq q3.2
        have gN9 : Nds w9 N (fun i => fr.getD i 0) S := fun z hz => GN.out.turned q3 HBB.out z (q1.subset hz)
        have gL9 : ∀ z ∈ S, w.heap.size ≤ N z := fun z hz => GL.out z (q1.subset hz)
        have gb9 := q3.below gb gb.size hg1
        clear HC HB GN GL HBB q3
        go_wp2
        go_ret
        exact ⟨N, S, _, rfl, hret, gN9, gL9, q1, q2, gb9⟩
      · have hI : symsF fr fr.length = [] := List.eq_nil_of_length_eq_zero (by omega)
        rw [hI] at go
        obtain rfl : u3 = .slice none 0 0 := gE hI
        clear gE
        have hC := z_sort0 wr
        unfold fcmp at hC
        have HC := Lib.hid hC
        have HI := Lib.hid hI
        clear hC gN gL hI h0
        go_wp2_with fail
        (with_reducible refine HC.out.mono ?_)
        rintro e w9 ⟨rfl, rfl⟩
        go_wp2
        go_ret
        exact ⟨N, [], _, rfl, go, (fun z hz => by cases hz), (fun z hz => by cases hz), by rw [HI.out], List.Pairwise.nil, gb⟩
end Go.Proofs.Ytpjihjbgihionaa
namespace Go.Proofs.Ytpjihjbgihionaa
set_option linter.unusedVariables false

/-- a tree: a leaf (its weight, its symbol), or a pair (its number, its weight) -/
inductive HT where
  | lf (w s : Nat)
  | nd (i w : Nat) (l r : HT)
def HT.wt : HT → Nat | .lf w _ => w | .nd _ w _ _ => w
def HT.id : HT → Nat | .lf _ s => s | .nd i _ _ _ => i
def HT.syms : HT → List Nat | .lf _ s => [s] | .nd _ _ l r => l.syms ++ r.syms
/-- how deep a symbol stands -/
def HT.dep : HT → Nat → Nat | .lf _ _, _ => 0 | .nd _ _ l r, s => if s ∈ r.syms then r.dep s + 1 else l.dep s + 1
def HT.key (t : HT) : Nat × Nat := (t.wt, t.id)
def hlt (t u : HT) : Prop := lexT t.key u.key
/-- what is written of a tree -/
def HT.write : HT → Nat → List Nat → List Nat | .lf _ s, d, L => L.set s d | .nd _ _ l r, d, L => r.write (d + 1) (l.write (d + 1) L)
theorem HT.write_len : ∀ (t : HT) (d : Nat) (L : List Nat), (t.write d L).length = L.length
  | .lf _ s, d, L => by simp [HT.write]
  | .nd _ _ l r, d, L => by rw [HT.write, HT.write_len r, HT.write_len l]
theorem HT.write_getD : ∀ (t : HT) (d : Nat) (L : List Nat) (j : Nat), (∀ s ∈ t.syms, s < L.length) → (t.write d L).getD j 0 = if j ∈ t.syms then d + t.dep j else L.getD j 0
  | .lf w s, d, L, j, h => by
    rw [HT.write, getD_set _ _ _ _ (h s (by simp [HT.syms]))]
    simp only [HT.syms, List.mem_singleton, HT.dep, Nat.add_zero]
    by_cases e : s = j
    · rw [if_pos e, if_pos e.symm]
    · rw [if_neg e, if_neg (fun h => e h.symm)]
  | .nd i w l r, d, L, j, h => by
    rw [HT.write, HT.write_getD r _ _ _ (fun s hs => by rw [HT.write_len]; exact h s (by simp [HT.syms, hs])), HT.write_getD l _ _ _ (fun s hs => h s (by simp [HT.syms, hs]))]
    simp only [HT.syms, List.mem_append, HT.dep]
    by_cases h1 : j ∈ r.syms
    · rw [if_pos h1, if_pos (.inr h1), if_pos h1]; omega
    · rw [if_neg h1, if_neg h1]
      by_cases h2 : j ∈ l.syms
      · rw [if_pos h2, if_pos (.inl h2)]; omega
      · rw [if_neg h2, if_neg (fun h => by rcases h with h | h; exact h2 h; exact h1 h)]
theorem light_is {c : Nat} {l : List (Nat × Nat)} (h : OkT c l) {x : Nat × Nat} (hx : x ∈ l) (hm : ∀ u ∈ l, u ≠ x → lexT x u) : light l = x := by
  by_cases e : light l = x
  · exact e
  · have h0 : l ≠ [] := by intro e0; rw [e0] at hx; cases hx
    have h1 := hm _ (light_mem h h0) e
    have h2 := light_le h hx (fun e' => e e'.symm)
    unfold lexT at h1 h2
    omega
/-- the one that goes first: from which row -/
def fromS : List HT → List HT → Bool
  | [], _ => false
  | _ :: _, [] => true
  | s :: _, q :: _ => decide (¬ q.wt < s.wt)
/-- the first one of two rows, and what is left -/
structure Pick (S Q : List HT) (t : HT) (S' Q' : List HT) : Prop where
  or : (S = t :: S' ∧ Q = Q' ∧ fromS S Q = true) ∨ (Q = t :: Q' ∧ S = S' ∧ fromS S Q = false)
theorem Pick.some {S Q : List HT} (h : 0 < S.length + Q.length) : ∃ t S' Q', Pick S Q t S' Q' := by
  match S, Q with
  | [], [] => simp at h
  | [], q :: Q' => exact ⟨q, [], Q', ⟨.inr ⟨rfl, rfl, rfl⟩⟩⟩
  | s :: S', [] => exact ⟨s, S', [], ⟨.inl ⟨rfl, rfl, rfl⟩⟩⟩
  | s :: S', q :: Q' =>
    by_cases e : q.wt < s.wt
    · exact ⟨q, s :: S', Q', ⟨.inr ⟨rfl, rfl, by simp [fromS, e]⟩⟩⟩
    · exact ⟨s, S', q :: Q', ⟨.inl ⟨rfl, rfl, by simp [fromS]; omega⟩⟩⟩
theorem Pick.perm {S Q : List HT} {t : HT} {S' Q' : List HT} (h : Pick S Q t S' Q') : (S ++ Q).Perm (t :: (S' ++ Q')) := by
  rcases h.or with ⟨rfl, rfl, _⟩ | ⟨rfl, rfl, _⟩
  · exact List.Perm.refl _
  · exact List.perm_middle
theorem Pick.subS {S Q : List HT} {t : HT} {S' Q' : List HT} (h : Pick S Q t S' Q') : S'.Sublist S ∧ Q'.Sublist Q := by
  rcases h.or with ⟨rfl, rfl, _⟩ | ⟨rfl, rfl, _⟩
  · exact ⟨List.sublist_cons_self _ _, List.Sublist.refl _⟩
  · exact ⟨List.Sublist.refl _, List.sublist_cons_self _ _⟩
theorem Pick.min {S Q : List HT} {t : HT} {S' Q' : List HT} (h : Pick S Q t S' Q') (sS : S.Pairwise hlt) (sQ : Q.Pairwise hlt) (cr : ∀ s ∈ S, ∀ q ∈ Q, s.id < q.id) : ∀ u ∈ S' ++ Q', hlt t u := by
  intro u hu
  have tr : ∀ {a b c : HT}, hlt a b → hlt b c → hlt a c := fun h1 h2 => by unfold hlt lexT at *; omega
  rcases h.or with ⟨rfl, rfl, hf⟩ | ⟨rfl, rfl, hf⟩
  · rcases List.mem_append.1 hu with hu | hu
    · exact (List.pairwise_cons.1 sS).1 u hu
    · match Q, hu, hf with
      | q :: Q', hu, hf =>
        have hq : ¬ q.wt < t.wt := by simpa [fromS] using hf
        have hc := cr t (by simp) q (by simp)
        have h1 : hlt t q := by
          unfold hlt lexT HT.key
          simp only
          omega
        rcases List.mem_cons.1 hu with rfl | hu
        · exact h1
        · exact tr h1 ((List.pairwise_cons.1 sQ).1 u hu)
  · rcases List.mem_append.1 hu with hu | hu
    · match S, hu, hf with
      | s :: S', hu, hf =>
        have hq : t.wt < s.wt := by simpa [fromS] using hf
        have h1 : hlt t s := .inl hq
        rcases List.mem_cons.1 hu with rfl | hu
        · exact h1
        · exact tr h1 ((List.pairwise_cons.1 sS).1 u hu)
    · exact (List.pairwise_cons.1 sQ).1 u hu
/-- two rows that stand for the trees l, whose symbols' depths will be D -/
structure Gr (D : Nat → Nat) (f c : Nat) (l : List (Nat × Nat)) (S Q : List HT) : Prop where
  ok : OkT c l
  perm : l.Perm ((S ++ Q).map HT.key)
  sS : S.Pairwise hlt
  sQ : Q.Pairwise hlt
  cr : ∀ s ∈ S, ∀ q ∈ Q, s.id < q.id
  mid : ∃ m, (∀ q ∈ Q, q.wt ≤ 2 * m) ∧ ∀ t ∈ S ++ Q, m ≤ t.wt
  fu : l.length ≤ f + 1
  deep : ∀ t ∈ S ++ Q, ∀ s ∈ t.syms, D s = deepT f c l t.id + t.dep s
  nd : ((S ++ Q).flatMap HT.syms).Nodup
theorem Gr.len {D : Nat → Nat} {f c : Nat} {l : List (Nat × Nat)} {S Q : List HT} (h : Gr D f c l S Q) : l.length = S.length + Q.length := by
  have := h.perm.length_eq
  simpa using this
theorem Gr.step {D : Nat → Nat} {f c : Nat} {l : List (Nat × Nat)} {S Q S1 Q1 S2 Q2 : List HT} {a b : HT} (h : Gr D (f + 1) c l S Q) (h2 : 2 ≤ l.length) (p1 : Pick S Q a S1 Q1) (p2 : Pick S1 Q1 b S2 Q2) : Gr D f (c + 1) (nextT c l) S2 (Q2 ++ [.nd c (a.wt + b.wt) a b]) := by
  obtain ⟨ok, perm, sS, sQ, cr, ⟨m, m1, m2⟩, fu, deep, nd⟩ := h
  have hp1 := p1.perm
  have hp2 := p2.perm
  have mn1 := p1.min sS sQ cr
  obtain ⟨u1, u2⟩ := p1.subS
  obtain ⟨u3, u4⟩ := p2.subS
  have mn2 := p2.min (sS.sublist u1) (sQ.sublist u2) (fun s hs q hq => cr s (u1.subset hs) q (u2.subset hq))
  have hA : pickA l = a.key := by
    refine light_is ok (perm.symm.subset (List.mem_map_of_mem (hp1.symm.subset (by simp)))) fun u hu hne => ?_
    obtain ⟨t, ht, rfl⟩ := List.mem_map.1 (perm.subset hu)
    rcases List.mem_cons.1 (hp1.subset ht) with rfl | ht
    · exact absurd rfl hne
    · exact mn1 t ht
  have hpe : (l.erase (pickA l)).Perm ((S1 ++ Q1).map HT.key) := by
    rw [hA]
    have := (perm.trans (hp1.map HT.key)).erase a.key
    rwa [List.map_cons, List.erase_cons_head] at this
  have hB : pickB l = b.key := by
    unfold pickB
    refine light_is (ok.erase _) (hpe.symm.subset (List.mem_map_of_mem (hp2.symm.subset (by simp)))) fun u hu hne => ?_
    obtain ⟨t, ht, rfl⟩ := List.mem_map.1 (hpe.subset hu)
    rcases List.mem_cons.1 (hp2.subset ht) with rfl | ht
    · exact absurd rfl hne
    · exact mn2 t ht
  have hpm : (pickM l).Perm ((S2 ++ Q2).map HT.key) := by
    unfold pickM
    rw [hB]
    have := (hpe.trans (hp2.map HT.key)).erase b.key
    rwa [List.map_cons, List.erase_cons_head] at this
  have hbw : (both c l) = (HT.nd c (a.wt + b.wt) a b).key := by
    unfold both
    rw [hA, hB]
    rfl
  have mem2 : ∀ t, t ∈ S2 ++ Q2 → t ∈ S ++ Q := fun t ht => hp1.symm.subset (List.mem_cons_of_mem _ (hp2.symm.subset (List.mem_cons_of_mem _ ht)))
  have ha : a ∈ S ++ Q := hp1.symm.subset (by simp)
  have hb : b ∈ S ++ Q := hp1.symm.subset (List.mem_cons_of_mem _ (hp2.symm.subset (by simp)))
  have hid : ∀ t ∈ S ++ Q, t.id < c := fun t ht => ok.2 t.key (perm.symm.subset (List.mem_map_of_mem ht))
  have hab : a.wt ≤ b.wt := by
    have := mn1 b (hp2.symm.subset (by simp))
    unfold hlt lexT HT.key at this
    simp only at this
    omega
  have hma := m2 a ha
  have hmb := m2 b hb
  have hfl : ((S ++ Q).flatMap HT.syms).Perm (a.syms ++ (b.syms ++ (S2 ++ Q2).flatMap HT.syms)) := by
    refine (hp1.flatMap_right _).trans ?_
    rw [List.flatMap_cons]
    refine List.Perm.append_left _ ?_
    refine (hp2.flatMap_right _).trans ?_
    rw [List.flatMap_cons]
  refine ⟨nextT_ok ok, ?_, sS.sublist (u3.trans u1), ?_, fun s hs q hq => ?_, ⟨b.wt, fun q hq => ?_, fun t ht => ?_⟩, by have := nextT_len ok h2; omega, fun t ht s hs => ?_, ?_⟩
  · unfold nextT
    rw [hbw, ← List.append_assoc, List.map_append]
    exact List.Perm.append_right _ hpm
  · refine List.pairwise_append.2 ⟨sQ.sublist (u4.trans u2), List.pairwise_singleton _ _, fun q hq n hn => ?_⟩
    rw [List.mem_singleton.1 hn]
    have h1 := m1 q (u2.subset (u4.subset hq))
    have h3 := hid q (mem2 q (List.mem_append_right _ hq))
    show q.wt < a.wt + b.wt ∨ (q.wt = a.wt + b.wt ∧ q.id < c)
    omega
  · rcases List.mem_append.1 hq with hq | hq
    · exact cr s (u1.subset (u3.subset hs)) q (u2.subset (u4.subset hq))
    · rw [List.mem_singleton.1 hq]
      exact hid s (mem2 s (List.mem_append_left _ hs))
  · rcases List.mem_append.1 hq with hq | hq
    · have h1 := m1 q (u2.subset (u4.subset hq)); omega
    · rw [List.mem_singleton.1 hq]; show a.wt + b.wt ≤ 2 * b.wt; omega
  · rw [← List.append_assoc] at ht
    rcases List.mem_append.1 ht with ht | ht
    · have := mn2 t ht
      unfold hlt lexT HT.key at this
      simp only at this
      omega
    · rw [List.mem_singleton.1 ht]; show b.wt ≤ a.wt + b.wt; omega
  · rw [← List.append_assoc] at ht
    rcases List.mem_append.1 ht with ht | ht
    · rw [deep t (mem2 t ht) s hs]
      have hm : t.key ∈ pickM l := hpm.symm.subset (List.mem_map_of_mem ht)
      have := deepT_m (f := f) ok h2 hm
      have e : t.key.2 = t.id := rfl
      rw [e] at this
      rw [this]
    · rw [List.mem_singleton.1 ht] at hs ⊢
      have e1 : a.id = (pickA l).2 := by rw [hA]; rfl
      have e2 : b.id = (pickB l).2 := by rw [hB]; rfl
      have nd' := hfl.nodup_iff.1 nd
      simp only [HT.syms, List.mem_append] at hs
      simp only [HT.id, HT.dep]
      by_cases h1 : s ∈ b.syms
      · rw [if_pos h1, deep b hb s h1, e2, deepT_b h2]; omega
      · rw [if_neg h1]
        have h3 : s ∈ a.syms := by rcases hs with h | h; exact h; exact absurd h h1
        rw [deep a ha s h3, e1, deepT_a h2]; omega
  · have e : (S2 ++ (Q2 ++ [HT.nd c (a.wt + b.wt) a b])).flatMap HT.syms = (S2 ++ Q2).flatMap HT.syms ++ (a.syms ++ b.syms) := by
      rw [← List.append_assoc, List.flatMap_append]
      simp [HT.syms]
    rw [e]
    refine (List.Perm.nodup_iff ?_).1 nd
    refine hfl.trans ?_
    rw [← List.append_assoc]
    exact List.perm_append_comm
/-- symbols are kept -/
theorem pick_syms {S Q S1 Q1 S2 Q2 : List HT} {a b : HT} (c w : Nat) (p1 : Pick S Q a S1 Q1) (p2 : Pick S1 Q1 b S2 Q2) : ((S ++ Q).flatMap HT.syms).Perm ((S2 ++ (Q2 ++ [HT.nd c w a b])).flatMap HT.syms) := by
  have e : (S2 ++ (Q2 ++ [HT.nd c w a b])).flatMap HT.syms = (S2 ++ Q2).flatMap HT.syms ++ (a.syms ++ b.syms) := by
    rw [← List.append_assoc, List.flatMap_append]
    simp [HT.syms]
  rw [e]
  refine (p1.perm.flatMap_right _).trans ?_
  rw [List.flatMap_cons]
  refine (List.Perm.append_left _ (p2.perm.flatMap_right _)).trans ?_
  rw [List.flatMap_cons, ← List.append_assoc]
  exact List.perm_append_comm
/-- at first: the leaves, sorted -/
theorem Gr.first {fr : List Nat} {S : List Nat} (hp : S.Perm ((treesF fr).map (·.2))) (hs : Srt (fun i => fr.getD i 0) S) : Gr (fun s => deepT fr.length fr.length (treesF fr) s) fr.length fr.length (treesF fr) (S.map fun s => .lf (fr.getD s 0) s) [] := by
  have hk : ((S.map fun s => HT.lf (fr.getD s 0) s) ++ []).map HT.key = S.map fun s => (fr.getD s 0, s) := by
    rw [List.append_nil, List.map_map]
    rfl
  refine ⟨treesF_ok fr, ?_, ?_, List.Pairwise.nil, (fun s _ q hq => by cases hq), ⟨0, (fun q hq => by cases hq), fun _ _ => Nat.zero_le _⟩, by have := treesF_len fr; omega, fun t ht s hs => ?_, ?_⟩
  · rw [hk]
    have := (hp.map fun s => (fr.getD s 0, s)).symm
    refine List.Perm.trans ?_ this
    rw [List.map_map]
    have e : (treesF fr).map ((fun s => (fr.getD s 0, s)) ∘ fun x => x.2) = treesF fr := by
      conv => rhs; rw [← List.map_id (treesF fr)]
      refine List.map_congr_left fun t ht => ?_
      obtain ⟨_, h2, _⟩ := treesF_of ht
      show (fr.getD t.2 0, t.2) = t
      rw [← h2]
    rw [e]
  · rw [List.pairwise_map]
    exact hs
  · rw [List.append_nil] at ht
    obtain ⟨x, _, rfl⟩ := List.mem_map.1 ht
    simp only [HT.syms, List.mem_singleton] at hs
    subst hs
    rfl
  · rw [List.append_nil, List.flatMap_map]
    have e : (S.flatMap fun a => (HT.lf (fr.getD a 0) a).syms) = S := by simp [HT.syms]
    rw [e]
    refine (hp.nodup_iff).2 ?_
    exact (List.pairwise_map.2 (treesF_ok fr).1).imp fun h => Nat.ne_of_lt h
/-- at the end -/
theorem Gr.last {D : Nat → Nat} {f c : Nat} {l : List (Nat × Nat)} {S Q S' Q' : List HT} {t : HT} (h : Gr D f c l S Q) (h1 : l.length = 1) (p : Pick S Q t S' Q') : ∀ s ∈ t.syms, t.dep s = D s := fun s hs => by
  rw [h.deep t (p.perm.symm.subset (by simp)) s hs, deepT_end (by omega), Nat.zero_add]
theorem pick_one {S Q S' Q' : List HT} {t : HT} (h : S.length + Q.length = 1) (p : Pick S Q t S' Q') : (S ++ Q).flatMap HT.syms = t.syms := by
  have hl := p.perm.length_eq
  simp only [List.length_append, List.length_cons] at hl
  have e : S' ++ Q' = [] := List.eq_nil_of_length_eq_zero (by rw [List.length_append]; omega)
  have := p.perm
  rw [e, List.perm_singleton] at this
  rw [this]
  simp
end Go.Proofs.Ytpjihjbgihionaa
namespace Go.Proofs.Ytpjihjbgihionaa
open Go.RowKit
set_option linter.unusedVariables false

/-- the slice value v has these cells, one an element, in a row of the call's own; it may have been cut at its head -/
def QS (w : World) (base : Nat) (e : TypeId) (v : Value) (xs : List Value) : Prop :=
  ∃ A cap, v = .slice A xs.length cap ∧ ((A = none ∧ cap = 0 ∧ xs = []) ∨ ∃ g off pre rest, A = some ⟨g, off, none⟩ ∧ base ≤ g ∧ Blk w g e (pre ++ (xs ++ rest)) ∧ xs.length + rest.length = cap ∧ cap ≤ maxLen ∧ (0 < cap → pre.length = off))
theorem QS.nil (w : World) (base : Nat) (e : TypeId) : QS w base e (.slice none 0 0) [] := ⟨none, 0, rfl, .inl ⟨rfl, rfl, rfl⟩⟩
theorem QS.ofOwn {w : World} {base : Nat} {e : TypeId} {v : Value} {rows : List (List Value)} (h : OwnR w base e 1 v rows) : QS w base e v rows.flatten := by
  have h1 := flat_len h.1
  rw [Nat.mul_one] at h1
  rcases h.2.2 with ⟨hv, hn⟩ | ⟨g, cap, cur, hv, hg, hh, hn, hm, hcs, htk⟩
  · have e0 : rows = [] := List.eq_nil_of_length_eq_zero hn
    subst e0
    rw [hv]
    exact QS.nil w base e
  · have e0 : cur.toList = rows.flatten ++ cur.toList.drop (rows.length * 1) := by rw [← htk, List.take_append_drop]
    refine ⟨_, cap, by rw [hv, h1], .inr ⟨g, 0, [], cur.toList.drop (rows.length * 1), rfl, hg, ?_, ?_, hm, fun _ => rfl⟩⟩
    · unfold Blk
      rw [List.nil_append, ← e0]
      exact hh
    · have e1 : cur.toList.length = cap * 1 := hcs
      rw [h1, List.length_drop, e1]
      omega
theorem QS.lt {w : World} {base : Nat} {e : TypeId} {v : Value} {xs : List Value} (h : QS w base e v xs) : ∀ b, v.ownBlock = some b → base ≤ b ∧ b < w.heap.size := by
  obtain ⟨A, cap, rfl, ⟨rfl, _⟩ | ⟨g, off, pre, rest, rfl, hg, hb, _⟩⟩ := h
  · intro b hb; cases hb
  · intro b e; cases e; exact ⟨hg, hb.lt⟩
theorem QS.block {w w' : World} {base : Nat} {e : TypeId} {v : Value} {xs : List Value} (h : QS w base e v xs) (hk : ∀ b t vs, v.ownBlock = some b → Blk w b t vs → Blk w' b t vs) : QS w' base e v xs := by
  obtain ⟨A, cap, rfl, ⟨rfl, h2⟩ | ⟨g, off, pre, rest, rfl, hg, hb, r⟩⟩ := h
  · exact ⟨_, _, rfl, .inl ⟨rfl, h2⟩⟩
  · exact ⟨_, _, rfl, .inr ⟨g, off, pre, rest, rfl, hg, hk g _ _ rfl hb, r⟩⟩
theorem QS.below {w w' : World} {base : Nat} {e : TypeId} {v : Value} {xs : List Value} (h : QS w base e v xs) (hb : Below w.heap.size w w') : QS w' base e v xs := h.block fun b t vs _ k => k.below hb k.lt
theorem QS.drewN {w : World} {base : Nat} {e : TypeId} {v : Value} {xs : List Value} (h : QS w base e v xs) (n : Nat) : QS (w.drewN n) base e v xs := h
theorem QS.other {w : World} {base : Nat} {e : TypeId} {v : Value} {xs : List Value} (h : QS w base e v xs) {b j : Nat} {t : TypeId} {vs : List Value} (hb : Blk w b t vs) (ht : t ≠ e) (x : Value) : QS (w.setCell ⟨b, j, none⟩ x) base e v xs := by
  obtain ⟨A, cap, rfl, ⟨rfl, h2⟩ | ⟨g, off, pre, rest, rfl, hg, hk, r⟩⟩ := h
  · exact ⟨_, _, rfl, .inl ⟨rfl, h2⟩⟩
  · refine ⟨_, _, rfl, .inr ⟨g, off, pre, rest, rfl, hg, hk.other (a := ⟨b, j, none⟩) (fun e' => ?_) x, r⟩⟩
    simp only at e'
    subst e'
    unfold Blk at hb hk
    rw [hb] at hk
    simp at hk
    exact ht hk.2
theorem QS.ne {w : World} {base : Nat} {e : TypeId} {v : Value} {xs : List Value} (h : QS w base e v xs) {b : Nat} {t : TypeId} {vs : List Value} (hb : Blk w b t vs) (ht : t ≠ e) : ∀ i, v.ownBlock = some i → i ≠ b := by
  rintro i hi rfl
  obtain ⟨A, cap, rfl, ⟨rfl, h2⟩ | ⟨g, off, pre, rest, rfl, hg, hk, r⟩⟩ := h
  · cases hi
  · cases hi
    unfold Blk at hb hk
    rw [hb] at hk
    simp at hk
    exact ht hk.2
/-- the first one, and the row without it -/
theorem QS.head {w : World} {base : Nat} {e : TypeId} {v x : Value} {xs : List Value} (h : QS w base e v (x :: xs)) :
    ∃ g off cap, v = .slice (some ⟨g, off, none⟩) (xs.length + 1) cap ∧ xs.length + 1 ≤ cap ∧ cap ≤ maxLen ∧ w.cell? ⟨g, off, none⟩ = some x ∧ QS w base e (.slice (if cap = 1 then some ⟨g, off, none⟩ else some ⟨g, off + 1, none⟩) xs.length (cap - 1)) xs ∧ (Value.slice (if cap = 1 then some ⟨g, off, none⟩ else some ⟨g, off + 1, none⟩) xs.length (cap - 1)).ownBlock = v.ownBlock := by
  obtain ⟨A, cap, rfl, ⟨rfl, _, h2⟩ | ⟨g, off, pre, rest, rfl, hg, hk, r1, r2, r3⟩⟩ := h
  · cases h2
  · have hc : xs.length + 1 ≤ cap := by simp only [List.length_cons] at r1; omega
    have hp := r3 (by omega)
    refine ⟨g, off, cap, rfl, hc, r2, ?_, ?_, ?_⟩
    · rw [hk.cell, ← hp]
      simp
    · refine ⟨_, _, rfl, .inr ?_⟩
      by_cases e1 : cap = 1
      · rw [if_pos e1]
        have hx : xs = [] := List.eq_nil_of_length_eq_zero (by omega)
        refine ⟨g, off, pre ++ [x], rest, rfl, hg, by simpa using hk, by simp only [List.length_cons] at r1; omega, by omega, fun h => by omega⟩
      · rw [if_neg e1]
        refine ⟨g, off + 1, pre ++ [x], rest, rfl, hg, by simpa using hk, by simp only [List.length_cons] at r1; omega, by omega, fun h => by simp [hp]⟩
    · by_cases e1 : cap = 1
      · rw [if_pos e1]; rfl
      · rw [if_neg e1]; rfl
section
variable {P : Program} (w : World)
/-- one element is appended -/
theorem run_append_qs (base : Nat) (t ty e : TypeId) (i : TypeInfo) (z : Value) (bytes : Nat) (ht : P.underlying t = some (.slice e)) (hi : P.info? e = some i) (hz : i.zero = some z) (hsize : i.size = 1) (hby : i.bytes = bytes) (hzs : z.cells.size = 1)
    (v : Value) (xs : List Value) (hq : QS w base e v xs) (b : Nat) (p : Value) (hp : Blk w b e [p]) (h1 : p.oneCell' = true) (h63 : xs.length + 1 ≤ maxLen) (hbytes : (xs.length + 1) * bytes ≤ 140737488355328) (hbase : base ≤ w.heap.size) :
    ∃ v' w', (Builtin.append_ #[t, t] ty #[v, .slice (some ⟨b, 0, none⟩) 1 1]).run P w = .ok v' w' ∧ QS w' base e v' (xs ++ [p]) ∧ w.grownBy w' v.ownBlock ∧ (v'.ownBlock = v.ownBlock ∨ v'.ownBlock = some w.heap.size) := by
  subst hby
  have hnews : ∀ j u, [p][j]? = some u → w.cell? ((⟨b, 0, none⟩ : Addr).add j) = some u := fun j u hj => by
    rw [Addr.add_mid, hp.cell, Nat.zero_add]; exact hj
  have hl1 : [p].length = 1 * i.size := by rw [hsize]; rfl
  have fresh : ∀ (old : Nat), old < xs.length + 1 → ∀ (row : Option Nat),
      QS (w.drew.alloc (.cells (xs.toArray ++ [p].toArray ++ Builtin.zeroCells z.cells (grownCap w (xs.length + 1) old e - (xs.length + 1))) e)) base e (.slice (some ⟨w.heap.size, 0, none⟩) (xs.length + 1) (grownCap w (xs.length + 1) old e)) (xs ++ [p]) ∧
      w.grownBy (w.drew.alloc (.cells (xs.toArray ++ [p].toArray ++ Builtin.zeroCells z.cells (grownCap w (xs.length + 1) old e - (xs.length + 1))) e)) row := by
    intro old ho row
    have hge := grownCap_ge w (xs.length + 1) old e
    have hcm : grownCap w (xs.length + 1) old e ≤ maxLen := grownCap_le_maxLen w (xs.length + 1) old e h63
    refine ⟨⟨_, _, by rw [List.length_append, List.length_singleton], .inr ⟨w.heap.size, 0, [], (Builtin.zeroCells z.cells (grownCap w (xs.length + 1) old e - (xs.length + 1))).toList, rfl, hbase, ?_, ?_, hcm, fun _ => rfl⟩⟩, ⟨rfl, rfl, rfl, by simp, fun k hk _ => Below.heap_alloc w.drew _ k hk⟩⟩
    · refine (heap_alloc_new w.drew _).trans ?_
      congr 2
      simp
    · have e1 : (Builtin.zeroCells z.cells (grownCap w (xs.length + 1) old e - (xs.length + 1))).toList.length = (grownCap w (xs.length + 1) old e - (xs.length + 1)) * z.cells.size := size_zeroCells _ _
      rw [List.length_append, List.length_singleton, e1, hzs]
      omega
  obtain ⟨A, cap, rfl, ⟨rfl, rfl, rfl⟩ | ⟨g, off, pre, rest, rfl, hg, hk, r1, r2, r3⟩⟩ := hq
  · have hr := run_append_nil (P := P) w t ty e i z ht hi hz ⟨b, 0, none⟩ 1 1 [p] hl1 hnews (by omega) (by omega) (by simp only [List.length_nil] at hbytes; omega)
    have hgr := fresh 0 (by omega) none
    simp only [List.length_nil, Nat.zero_add, List.nil_append, Array.empty_append] at hgr ⊢
    exact ⟨_, _, hr, hgr.1, hgr.2, .inr rfl⟩
  · by_cases hroom : xs.length + 1 ≤ cap
    · match rest, r1 with
      | [], r1 => simp at r1; omega
      | q :: rest, r1 =>
        have hoff := r3 (by omega)
        have hf := run_firstCells_some (P := P) w i.size 1 ⟨b, 0, none⟩ 1 1 [p] hl1 hnews
        have hst := run_storeCells_at P g (off + xs.length) e [p] 0 (pre ++ (xs ++ q :: rest)).toArray w hk (by simp; omega) (by intro u hu; rw [List.mem_singleton.1 hu]; exact h1)
        have hrun : (Builtin.append_ #[t, t] ty #[.slice (some ⟨g, off, none⟩) xs.length cap, .slice (some ⟨b, 0, none⟩) 1 1]).run P w = .ok (.slice (some ⟨g, off, none⟩) (xs.length + 1) cap) (w.setRow g ((pre ++ (xs ++ q :: rest)).toArray.toList.take (off + xs.length + 0) ++ [p] ++ (pre ++ (xs ++ q :: rest)).toArray.toList.drop (off + xs.length + 0 + [p].length)).toArray) := by
          simp only [Nat.add_zero] at hst ⊢
          simp [Builtin.append_, run_underlying ht, sizeOf, typeInfo, hi, hsize, Builtin.lenOf, hroom, Addr.add_mid]
          rw [hsize] at hf
          simp [hf, hst]
        have hrow : ((pre ++ (xs ++ q :: rest)).toArray.toList.take (off + xs.length + 0) ++ [p] ++ (pre ++ (xs ++ q :: rest)).toArray.toList.drop (off + xs.length + 0 + [p].length)) = pre ++ ((xs ++ [p]) ++ rest) := by
          simp only [Nat.add_zero, List.length_singleton]
          rw [← hoff]
          have e1 : pre ++ (xs ++ q :: rest) = (pre ++ xs) ++ (q :: rest) := by simp
          have e2 : pre.length + xs.length = (pre ++ xs).length := by simp
          rw [e1, e2, List.take_left' rfl, Nat.add_comm _ 1, ← List.drop_drop]
          have e3 : ((pre ++ xs) ++ (q :: rest)).drop (1 + (pre ++ xs).length) = rest := by
            rw [Nat.add_comm, ← List.drop_drop, List.drop_left' rfl]; rfl
          first
          | (rw [List.drop_drop, e3]; simp)
          | (rw [List.drop_drop, Nat.add_comm, e3]; simp)
        rw [hrow] at hrun
        refine ⟨_, _, hrun, ⟨_, cap, by rw [List.length_append, List.length_singleton], .inr ⟨g, off, pre, rest, rfl, hg, ?_, ?_, r2, r3⟩⟩, ⟨rfl, rfl, rfl, by simp, fun k _ hkk => setRow_other w g k _ (fun e => hkk (by simp [Value.ownBlock, e]))⟩, .inl rfl⟩
        · exact setRow_heap w g _ _ e _ hk
        · simp only [List.length_cons, List.length_append, List.length_nil] at r1 ⊢
          omega
    · have hrest : rest = [] := List.eq_nil_of_length_eq_zero (by omega)
      subst hrest
      have holds : ∀ j u, xs[j]? = some u → w.cell? ((⟨g, off, none⟩ : Addr).add j) = some u := fun j u hj => by
        have hj' : j < xs.length := (List.getElem?_eq_some_iff.1 hj).1
        have hoff := r3 (by omega)
        rw [Addr.add_mid, hk.cell, ← hoff, List.getElem?_append_right (by omega), Nat.add_sub_cancel_left, List.append_nil]
        exact hj
      have hr := run_append_grow (P := P) w t ty e i z ht hi hz ⟨g, off, none⟩ xs.length cap xs (by rw [hsize, Nat.mul_one]) holds ⟨b, 0, none⟩ 1 1 [p] hl1 hnews (by omega) (by have := h63; unfold maxLen at this; omega) (growslice_fits (by omega) hbytes)
      have hgr := fresh cap (by omega) (Value.ownBlock (.slice (some ⟨g, off, none⟩) xs.length cap))
      exact ⟨_, _, hr, hgr.1, hgr.2, .inr rfl⟩
end
section
variable {P : Program} {ops : Array Oper} {rest : List Oper} {o : Oper} {a : Act} {w : World} {Q : Exit → Act → World → Prop}
theorem wpList_append_qs (hgd : o.guard = none) (s x : Operand) (t : TypeId) (ho : o.op = .call { callee := .builtin .append, args := #[s, x], argTypes := #[t, t] })
    (base : Nat) (e : TypeId) (i : TypeInfo) (z : Value) (bytes : Nat) (ht : P.underlying t = some (.slice e)) (hi : P.info? e = some i) (hz : i.zero = some z) (hsize : i.size = 1) (hby : i.bytes = bytes) (hzs : z.cells.size = 1)
    (v : Value) (xs : List Value) (hs : a.eval s = v) (hq : QS w base e v xs) (b : Nat) (p : Value) (hx : a.eval x = .slice (some ⟨b, 0, none⟩) 1 1) (hp : Blk w b e [p]) (h1 : p.oneCell' = true) (h63 : xs.length + 1 ≤ maxLen) (hbytes : (xs.length + 1) * bytes ≤ 140737488355328) (hbase : base ≤ w.heap.size)
    (h : ∀ v' w', QS w' base e v' (xs ++ [p]) → w.grownBy w' v.ownBlock → (v'.ownBlock = v.ownBlock ∨ v'.ownBlock = some w.heap.size) → wpList P ops Q rest (a.put o.dst v') w') : wpList P ops Q (o :: rest) a w := by
  refine wpList_plain hgd fun K hK => ?_
  obtain ⟨v', w', hr, h2, h3, h4⟩ := run_append_qs (P := P) w base t o.type e i z bytes ht hi hz hsize hby hzs v xs hq b p hp h1 h63 hbytes hbase
  unfold Oper.wp execOp
  simp only [ho, resolve, invoke, builtin, Sem.run_bind, Sem.run_pure, Result.andThen_ok, List.map_toArray, List.map_cons, List.map_nil, hs, hx, hr]
  exact hK _ _ (h v' w' h2 h3 h4)
end
end Go.Proofs.Ytpjihjbgihionaa
namespace Go.Proofs.Ytpjihjbgihionaa
open Go.RowKit
set_option linter.unusedVariables false

/-- the tree lies in block b -/
def Tr (w : World) : HT → Nat → Prop
  | .lf n s, b => Blk w b 133 (leafN n s)
  | .nd _ n l r, b => ∃ bl br, Blk w b 133 (node n 0 (.pointer (some ⟨bl, 0, none⟩)) (.pointer (some ⟨br, 0, none⟩))) ∧ Tr w l bl ∧ Tr w r br
/-- all trees' blocks are as they were -/
def KeepT (w w' : World) : Prop := ∀ b vs, Blk w b 133 vs → Blk w' b 133 vs
theorem KeepT.refl (w : World) : KeepT w w := fun _ _ h => h
theorem KeepT.trans {a b c : World} (h : KeepT a b) (k : KeepT b c) : KeepT a c := fun _ _ x => k _ _ (h _ _ x)
theorem KeepT.of_below {w w' : World} (h : Below w.heap.size w w') : KeepT w w' := fun _ _ k => k.below h k.lt
theorem KeepT.setCell {w : World} {b j : Nat} {t : TypeId} {vs : List Value} (hb : Blk w b t vs) (ht : t ≠ 133) (v : Value) : KeepT w (w.setCell ⟨b, j, none⟩ v) := fun b' vs' k => by
  refine k.other (fun e => ?_) v
  simp only at e
  subst e
  unfold Blk at hb k
  rw [hb] at k
  simp at k
  exact ht k.2
theorem KeepT.grown {w w' : World} {row : Option Nat} (hg : w.grownBy w' row) (hne : ∀ i b vs, row = some i → Blk w b 133 vs → i ≠ b) : KeepT w w' := fun b vs k => k.grownO hg (fun i e => hne i b vs e k)
theorem Tr.keep {w w' : World} (h : KeepT w w') : ∀ {t : HT} {b : Nat}, Tr w t b → Tr w' t b
  | .lf _ _, _, k => h _ _ k
  | .nd _ _ l r, _, ⟨bl, br, k1, k2, k3⟩ => ⟨bl, br, h _ _ k1, k2.keep h, k3.keep h⟩
theorem Tr.wt {w : World} {t : HT} {b : Nat} (h : Tr w t b) : ∃ s l r, Blk w b 133 (node t.wt s l r) := by
  match t, h with
  | .lf _ _, h => exact ⟨_, _, _, h⟩
  | .nd _ _ _ _, ⟨bl, br, h, _, _⟩ => exact ⟨_, _, _, h⟩
/-- trees with the blocks they lie in -/
def bptr (q : HT × Nat) : Value := .pointer (some ⟨q.2, 0, none⟩)
/-- the two rows, as they wait in their two variables -/
structure Rows2 (W : World) (base SB PB : Nat) (S Q : List (HT × Nat)) (vs vq : Value) : Prop where
  bS : Blk W SB 129 [vs]
  bQ : Blk W PB 129 [vq]
  qS : QS W 0 131 vs (S.map bptr)
  qQ : QS W base 131 vq (Q.map bptr)
  tr : ∀ q ∈ S ++ Q, Tr W q.1 q.2
  lo : ∀ b, vs.ownBlock = some b → b < base
/-- a slice cut at its head, as the walk writes it -/
theorem run_tail (g off len n cap : Nat) (hv : len = n + 1) (hc : n + 1 ≤ cap) (w : World) :
    (Instr.slice 129 (.slice (some ⟨g, off, none⟩) len cap) (some (.int .i64 1)) none none).run Try.prog w = .ok (.slice (if cap = 1 then some ⟨g, off, none⟩ else some ⟨g, off + 1, none⟩) n (cap - 1)) w := by
  subst hv
  simp [Instr.slice, Instr.sliceBounds, Instr.sliceBound, asIntOf, Sem.run_bind, run_underlying Try.underlying129 w]
  rw [if_pos (by omega)]
  simp [Addr.add_mid]
/-- what was taken: the first one of the one row or of the other -/
def Took (W : World) (base SB PB : Nat) (S Q : List (HT × Nat)) (e : Ending) (W' : World) : Prop :=
  ∃ (q : HT × Nat) (S' Q' : List (HT × Nat)) (vs vq : Value), e = .returned (bptr q) ∧ Pick (S.map (·.1)) (Q.map (·.1)) q.1 (S'.map (·.1)) (Q'.map (·.1)) ∧ Rows2 W' base SB PB S' Q' vs vq ∧ Tr W' q.1 q.2 ∧ KeepT W W' ∧ (∀ B, B ≤ SB → B ≤ PB → Below B W W') ∧ (S'.length + Q'.length + 1 = S.length + Q.length)
theorem blk_same {W : World} {b : Nat} {t : TypeId} {c : Value} (h : Blk W b t [c]) (x : Value) : Blk (W.setCell ⟨b, 0, none⟩ x) b t [x] := h.set 0 x
theorem Rows2.takeS {W : World} {base SB PB : Nat} {q : HT × Nat} {S Q : List (HT × Nat)} {vs vq vs' : Value} (h : Rows2 W base SB PB (q :: S) Q vs vq) (hne : SB ≠ PB) (n : Nat) (h' : QS W 0 131 vs' (S.map bptr)) (hob : vs'.ownBlock = vs.ownBlock) (hf : fromS ((q :: S).map (·.1)) (Q.map (·.1)) = true) : Took W base SB PB (q :: S) Q (.returned (bptr q)) ((W.drewN n).setCell ⟨SB, 0, none⟩ vs') := by
  have k1 : KeepT W ((W.drewN n).setCell ⟨SB, 0, none⟩ vs') := KeepT.setCell (w := W.drewN n) (h.bS.drewN n) (by decide) _
  refine ⟨q, S, Q, vs', vq, rfl, ⟨.inl ⟨rfl, rfl, hf⟩⟩, ⟨blk_same (h.bS.drewN n) _, (h.bQ.drewN n).other (by exact hne) _, (h'.drewN n).other (h.bS.drewN n) (by decide) _, (h.qQ.drewN n).other (h.bS.drewN n) (by decide) _, fun p hp => (h.tr p (List.mem_cons_of_mem _ hp)).keep k1, by rw [hob]; exact h.lo⟩, (h.tr q (by simp)).keep k1, k1, fun B hB _ => (below_drewN (Below.refl _ _) n).setCell hB _, by simp; omega⟩
theorem Rows2.takeQ {W : World} {base SB PB : Nat} {q : HT × Nat} {S Q : List (HT × Nat)} {vs vq vq' : Value} (h : Rows2 W base SB PB S (q :: Q) vs vq) (hne : SB ≠ PB) (n : Nat) (h' : QS W base 131 vq' (Q.map bptr)) (hf : fromS (S.map (·.1)) ((q :: Q).map (·.1)) = false) : Took W base SB PB S (q :: Q) (.returned (bptr q)) ((W.drewN n).setCell ⟨PB, 0, none⟩ vq') := by
  have k1 : KeepT W ((W.drewN n).setCell ⟨PB, 0, none⟩ vq') := KeepT.setCell (w := W.drewN n) (h.bQ.drewN n) (by decide) _
  refine ⟨q, S, Q, vs, vq', rfl, ⟨.inr ⟨rfl, rfl, hf⟩⟩, ⟨(h.bS.drewN n).other (by exact fun e => hne e.symm) _, blk_same (h.bQ.drewN n) _, (h.qS.drewN n).other (h.bQ.drewN n) (by decide) _, (h'.drewN n).other (h.bQ.drewN n) (by decide) _, fun p hp => (h.tr p (by rcases List.mem_append.1 hp with hp | hp <;> simp [hp])).keep k1, h.lo⟩, (h.tr q (by simp)).keep k1, k1, fun B _ hB => (below_drewN (Below.refl _ _) n).setCell hB _, by simp; omega⟩
set_option maxRecDepth 100000 in
set_option maxHeartbeats 1000000 in
theorem p_light1 (base SB PB : Nat) (q : HT × Nat) (S : List (HT × Nat)) (vs vq : Value) (w : World) (h : Rows2 w base SB PB (q :: S) [] vs vq) (hne : SB ≠ PB) :
    Calls Try.prog 95 #[.pointer (some ⟨SB, 0, none⟩), .pointer (some ⟨PB, 0, none⟩)] w (Took w base SB PB (q :: S) []) := by
  have c1 := h.bS.cell 0
  have c2 := h.bQ.cell 0
  have f1 := h.bS.free 0
  have f2 := h.bQ.free 0
  simp only [List.getElem?_cons_zero] at c1 c2
  obtain ⟨g, off, cap, rfl, hc1, hc2, hcell, htail, hob⟩ := h.qS.head
  obtain ⟨A, capq, rfl, _⟩ := id h.qQ
  have hfin := fun n => h.takeS hne n htail hob rfl
  obtain ⟨len, hlen⟩ : ∃ len, len = (S.map bptr).length + 1 := ⟨_, rfl⟩
  have hrt := fun w => run_tail g off len _ cap hlen hc1 w
  generalize (if cap = 1 then some (⟨g, off, none⟩ : Addr) else some ⟨g, off + 1, none⟩) = A' at *
  rw [← hlen] at c1
  simp only [List.map_nil, List.length_nil] at c2
  generalize (S.map bptr).length = n at *
  have i1 : (0 : Int) < (len : Int) := by omega
  have i2 : 0 < len := by omega
  have d1 : ((len : Int) == 0) = false := by rw [beq_eq_false_iff_ne]; omega
  have d2 : decide (len = 0) = false := by simp; omega
  have hfin := Lib.hid hfin
  have hc : w.cell? ⟨g, off, none⟩ = some (.pointer (some ⟨q.2, 0, none⟩)) := hcell
  unfold bptr at hfin
  clear htail hob h hc1 hc2 hcell hlen
  go_enter Try.func95, Try.ntmps95
  go_wp2_with fail
  go_quiet (fail)
  go_wp2
  go_ret
  exact hfin.out _
set_option maxRecDepth 100000 in
set_option maxHeartbeats 1000000 in
theorem p_light2 (base SB PB : Nat) (s q : HT × Nat) (S Q : List (HT × Nat)) (vs vq : Value) (w : World) (h : Rows2 w base SB PB (s :: S) (q :: Q) vs vq) (hne : SB ≠ PB) (hlt : ¬ q.1.wt < s.1.wt) :
    Calls Try.prog 95 #[.pointer (some ⟨SB, 0, none⟩), .pointer (some ⟨PB, 0, none⟩)] w (Took w base SB PB (s :: S) (q :: Q)) := by
  have c1 := h.bS.cell 0
  have c2 := h.bQ.cell 0
  have f1 := h.bS.free 0
  have f2 := h.bQ.free 0
  simp only [List.getElem?_cons_zero] at c1 c2
  obtain ⟨g, off, cap, rfl, hc1, hc2, hcell, htail, hob⟩ := h.qS.head
  obtain ⟨gq, offq, capq, rfl, hq1, hq2, hcellq, htailq, hobq⟩ := h.qQ.head
  obtain ⟨_, _, _, ts⟩ := (h.tr s (by simp)).wt
  obtain ⟨_, _, _, tq⟩ := (h.tr q (by simp)).wt
  have w1 := ts.cell 0
  have w2 := tq.cell 0
  simp only [node, List.getElem?_cons_zero] at w1 w2
  have hfin := fun n => h.takeS hne n htail hob (by simp [fromS]; omega)
  obtain ⟨len, hlen⟩ : ∃ len, len = (S.map bptr).length + 1 := ⟨_, rfl⟩
  obtain ⟨len2, hlen2⟩ : ∃ len, len = (Q.map bptr).length + 1 := ⟨_, rfl⟩
  have hrt := fun w => run_tail g off len _ cap hlen hc1 w
  rw [← hlen] at c1
  rw [← hlen2] at c2
  generalize (if cap = 1 then some (⟨g, off, none⟩ : Addr) else some ⟨g, off + 1, none⟩) = A' at *
  generalize (S.map bptr).length = n at *
  generalize (Q.map bptr).length = m at *
  have i1 : (0 : Int) < (len : Int) := by omega
  have i2 : 0 < len := by omega
  have i3 : (0 : Int) < (len2 : Int) := by omega
  have i4 : 0 < len2 := by omega
  have d1 : ((len : Int) == 0) = false := by rw [beq_eq_false_iff_ne]; omega
  have d2 : decide (len = 0) = false := by simp; omega
  have d3 : decide (0 < len2) = true := by simp; omega
  have hfin := Lib.hid hfin
  have hc : w.cell? ⟨g, off, none⟩ = some (.pointer (some ⟨s.2, 0, none⟩)) := hcell
  have hcq : w.cell? ⟨gq, offq, none⟩ = some (.pointer (some ⟨q.2, 0, none⟩)) := hcellq
  obtain ⟨ws, hws⟩ : ∃ x, s.1.wt = x := ⟨_, rfl⟩
  obtain ⟨wq, hwq⟩ : ∃ x, q.1.wt = x := ⟨_, rfl⟩
  rw [hws, hwq] at hlt
  rw [hws] at w1
  rw [hwq] at w2
  have d4 : decide (wq < ws) = false := by simp; omega
  have d5 : decide ((wq : Int) < (ws : Int)) = false := by simp; omega
  unfold bptr at hfin
  clear htail hob h hc1 hc2 hcell hlen htailq hobq hq1 hq2 hcellq hlen2 ts tq hws hwq
  go_enter Try.func95, Try.ntmps95
  go_wp2_with fail
  go_quiet (fail)
  go_wp2
  go_ret
  exact hfin.out _
set_option maxRecDepth 100000 in
set_option maxHeartbeats 1000000 in
theorem p_light3 (base SB PB : Nat) (s q : HT × Nat) (S Q : List (HT × Nat)) (vs vq : Value) (w : World) (h : Rows2 w base SB PB (s :: S) (q :: Q) vs vq) (hne : SB ≠ PB) (hlt : q.1.wt < s.1.wt) :
    Calls Try.prog 95 #[.pointer (some ⟨SB, 0, none⟩), .pointer (some ⟨PB, 0, none⟩)] w (Took w base SB PB (s :: S) (q :: Q)) := by
  have c1 := h.bS.cell 0
  have c2 := h.bQ.cell 0
  have f1 := h.bS.free 0
  have f2 := h.bQ.free 0
  simp only [List.getElem?_cons_zero] at c1 c2
  obtain ⟨g, off, cap, rfl, hc1, hc2, hcell, htail, hob⟩ := h.qS.head
  obtain ⟨gq, offq, capq, rfl, hq1, hq2, hcellq, htailq, hobq⟩ := h.qQ.head
  obtain ⟨_, _, _, ts⟩ := (h.tr s (by simp)).wt
  obtain ⟨_, _, _, tq⟩ := (h.tr q (by simp)).wt
  have w1 := ts.cell 0
  have w2 := tq.cell 0
  simp only [node, List.getElem?_cons_zero] at w1 w2
  have hfin := fun n => h.takeQ hne n htailq (by simp [fromS]; omega)
  obtain ⟨len, hlen⟩ : ∃ len, len = (Q.map bptr).length + 1 := ⟨_, rfl⟩
  obtain ⟨len2, hlen2⟩ : ∃ len, len = (S.map bptr).length + 1 := ⟨_, rfl⟩
  have hrt := fun w => run_tail gq offq len _ capq hlen hq1 w
  rw [← hlen2] at c1
  rw [← hlen] at c2
  generalize (if capq = 1 then some (⟨gq, offq, none⟩ : Addr) else some ⟨gq, offq + 1, none⟩) = A' at *
  generalize (S.map bptr).length = n at *
  generalize (Q.map bptr).length = m at *
  have i1 : (0 : Int) < (len : Int) := by omega
  have i2 : 0 < len := by omega
  have i3 : (0 : Int) < (len2 : Int) := by omega
  have i4 : 0 < len2 := by omega
  have d1 : ((len2 : Int) == 0) = false := by rw [beq_eq_false_iff_ne]; omega
  have d2 : decide (len2 = 0) = false := by simp; omega
  have d3 : decide (0 < len) = true := by simp; omega
  have hfin := Lib.hid hfin
  have hc : w.cell? ⟨g, off, none⟩ = some (.pointer (some ⟨s.2, 0, none⟩)) := hcell
  have hcq : w.cell? ⟨gq, offq, none⟩ = some (.pointer (some ⟨q.2, 0, none⟩)) := hcellq
  obtain ⟨ws, hws⟩ : ∃ x, s.1.wt = x := ⟨_, rfl⟩
  obtain ⟨wq, hwq⟩ : ∃ x, q.1.wt = x := ⟨_, rfl⟩
  rw [hws, hwq] at hlt
  rw [hws] at w1
  rw [hwq] at w2
  have d4 : decide (wq < ws) = true := by simp; omega
  have d5 : decide ((wq : Int) < (ws : Int)) = true := by simp; omega
  unfold bptr at hfin
  clear htail hob h hc1 hc2 hcell hlen htailq hobq hq1 hq2 hcellq hlen2 ts tq hws hwq
  go_enter Try.func95, Try.ntmps95
  go_wp2_with fail
  go_quiet (fail)
  go_wp2
  go_ret
  exact hfin.out _
set_option maxRecDepth 100000 in
set_option maxHeartbeats 1000000 in
theorem p_light4 (base SB PB : Nat) (q : HT × Nat) (Q : List (HT × Nat)) (vs vq : Value) (w : World) (h : Rows2 w base SB PB [] (q :: Q) vs vq) (hne : SB ≠ PB) :
    Calls Try.prog 95 #[.pointer (some ⟨SB, 0, none⟩), .pointer (some ⟨PB, 0, none⟩)] w (Took w base SB PB [] (q :: Q)) := by
  have c1 := h.bS.cell 0
  have c2 := h.bQ.cell 0
  have f1 := h.bS.free 0
  have f2 := h.bQ.free 0
  simp only [List.getElem?_cons_zero] at c1 c2
  obtain ⟨g, off, cap, rfl, hc1, hc2, hcell, htail, hob⟩ := h.qQ.head
  obtain ⟨A, capq, rfl, _⟩ := id h.qS
  have hfin := fun n => h.takeQ hne n htail rfl
  obtain ⟨len, hlen⟩ : ∃ len, len = (Q.map bptr).length + 1 := ⟨_, rfl⟩
  have hrt := fun w => run_tail g off len _ cap hlen hc1 w
  generalize (if cap = 1 then some (⟨g, off, none⟩ : Addr) else some ⟨g, off + 1, none⟩) = A' at *
  rw [← hlen] at c2
  simp only [List.map_nil, List.length_nil] at c1
  generalize (Q.map bptr).length = n at *
  have i1 : (0 : Int) < (len : Int) := by omega
  have i2 : 0 < len := by omega
  have hfin := Lib.hid hfin
  have hc : w.cell? ⟨g, off, none⟩ = some (.pointer (some ⟨q.2, 0, none⟩)) := hcell
  unfold bptr at hfin
  clear htail hob h hc1 hc2 hcell hlen
  go_enter Try.func95, Try.ntmps95
  go_wp2_with fail
  go_quiet (fail)
  go_wp2
  go_ret
  exact hfin.out _
theorem p_lightest (base SB PB : Nat) (S Q : List (HT × Nat)) (vs vq : Value) (w : World) (h : Rows2 w base SB PB S Q vs vq) (hne : SB ≠ PB) (h0 : 0 < S.length + Q.length) :
    Calls Try.prog 95 #[.pointer (some ⟨SB, 0, none⟩), .pointer (some ⟨PB, 0, none⟩)] w (Took w base SB PB S Q) := by
  match S, Q, h0, h with
  | [], [], h0, _ => simp at h0
  | q :: S, [], _, h => exact p_light1 base SB PB q S vs vq w h hne
  | [], q :: Q, _, h => exact p_light4 base SB PB q Q vs vq w h hne
  | s :: S, q :: Q, _, h =>
    by_cases hlt : q.1.wt < s.1.wt
    · exact p_light3 base SB PB s q S Q vs vq w h hne hlt
    · exact p_light2 base SB PB s q S Q vs vq w h hne hlt
set_option maxRecDepth 100000 in
set_option maxHeartbeats 1000000 in
/-- the depths are told into a row -/
theorem p_tell (g cap len : Nat) : ∀ (t : HT) (b d : Nat) (L : List Nat) (w : World), Tr w t b → Blk w g 3 (ints .i64 (nn L)) → L.length = len → (∀ s ∈ t.syms, s < len) → d + t.syms.length ≤ 1000 → len ≤ 1000 →
    Calls Try.prog 82 #[.pointer (some ⟨b, 0, none⟩), .slice (some ⟨g, 0, none⟩) len cap, .int .i64 (d : Int)] w fun e w' => e = .returned (.tuple #[]) ∧ Turned w w' g 3 (ints .i64 (nn (t.write d L)))
  | .lf n s, b, d, L, w, hT, hB, hL, hs, hd, hl => by
    have hT' : Blk w b 133 (leafN n s) := hT
    have c1 := hT'.cell 1
    have c2 := hT'.cell 2
    simp only [leafN, node, List.getElem?_cons_zero, List.getElem?_cons_succ] at c1 c2
    have hsl := hs s (by simp [HT.syms])
    have c3 := hB.nat (j := s) (by omega)
    have f3 := hB.free s
    have i1 : (s : Int) < (len : Int) := by omega
    have hfin := ((Turned.refl hB).put s (.int .i64 (d : Int))).2
    have hfin2 : Turned w (w.setCell ⟨g, s, none⟩ (.int .i64 (d : Int))) g 3 (ints .i64 (nn (L.set s d))) := ⟨grown_setCell w ⟨g, s, none⟩ _, hB.setNat s d⟩
    have HF := Lib.hid hfin2
    clear hfin hfin2 hT' hT hB hs hL
    unfold HT.write
    go_enter Try.func82, Try.ntmps82
    go_wp2
    refine bodyPost_ret (results_none rfl _ _ _) rfl ⟨rfl, HF.out⟩
  | .nd i n l r, b, d, L, w, hT, hB, hL, hs, hd, hl => by
    obtain ⟨bl, br, hT', hTl, hTr⟩ := hT
    have c1 := hT'.cell 2
    simp only [node, List.getElem?_cons_zero, List.getElem?_cons_succ] at c1
    have hsl : ∀ s ∈ l.syms, s < len := fun s h => hs s (by simp [HT.syms, h])
    have hsr : ∀ s ∈ r.syms, s < len := fun s h => hs s (by simp [HT.syms, h])
    simp only [HT.syms, List.length_append] at hd
    have hpos : ∀ t : HT, 0 < t.syms.length := fun t => by
      induction t with
      | lf _ _ => simp [HT.syms]
      | nd _ _ l r ih1 ih2 => simp only [HT.syms, List.length_append]; omega
    have hpl := hpos l
    have hpr := hpos r
    have hC1 := p_tell g cap len l bl (d + 1) L w hTl hB hL hsl (by omega) hl
    have ed : ((d + 1 : Nat) : Int) = (d : Int) + 1 := by simp
    rw [ed] at hC1
    have hC2 := fun (w1 : World) (h : Turned w w1 g 3 (ints .i64 (nn (l.write (d + 1) L)))) => p_tell g cap len r br (d + 1) (l.write (d + 1) L) w1 (hTr.keep (fun b vs k => h.other k (fun e => by
      subst e
      unfold Blk at hB k
      rw [k] at hB
      simp at hB))) h.2 (by rw [HT.write_len]; exact hL) hsr (by omega) hl
    have hK := fun (w1 : World) (h : Turned w w1 g 3 (ints .i64 (nn (l.write (d + 1) L)))) => (h.other hT' (fun e => by
      subst e
      unfold Blk at hB hT'
      rw [hT'] at hB
      simp at hB)).cell 3
    simp only [node, List.getElem?_cons_zero, List.getElem?_cons_succ] at hK
    rw [ed] at hC2
    have i1 : (d : Int) ≤ 1000 := by omega
    have HC1 := Lib.hid hC1
    have HC2 := Lib.hid hC2
    have HK := Lib.hid hK
    clear hC1 hC2 hK hT' hTl hTr hB hs hL hsl hsr hd ed hpos
    unfold HT.write
    go_enter Try.func82, Try.ntmps82
    go_wp2_with fail
    (with_reducible refine HC1.out.mono ?_)
    rintro e w9 ⟨rfl, ht9⟩
    have c2 := HK.out w9 ht9
    have HC := Lib.hid (HC2.out w9 ht9)
    clear c1
    go_wp2_with fail
    (with_reducible refine HC.out.mono ?_)
    rintro e w10 ⟨rfl, ht10⟩
    have T := ht9.trans ht10
    go_wp2
    go_end0
    exact ⟨rfl, T⟩
end Go.Proofs.Ytpjihjbgihionaa
namespace Go.Proofs.Ytpjihjbgihionaa
open Go.RowKit
set_option linter.unusedVariables false

def ptr2 (b : Nat) : Value := .pointer (some ⟨b, 0, none⟩)
/-- what the region's operations come to -/
def grS (base : Nat) (vq : Value) (a b wa wb : Nat) (i : Nat) (v : Value) (W : World) : Prop :=
  match i with
  | 0 => v = vq
  | 1 | 2 | 3 | 10 => v = ptr2 a
  | 5 | 6 | 7 | 11 => v = ptr2 b
  | 4 => v = .int .i64 (wa : Int)
  | 8 => v = .int .i64 (wb : Int)
  | 9 => v = .int .i64 ((wa + wb : Nat) : Int)
  | 12 => v = .agg (node (wa + wb) 0 (ptr2 a) (ptr2 b)).toArray
  | 13 => ∃ x, base ≤ x ∧ v = ptr2 x ∧ Blk W x 133 (node (wa + wb) 0 (ptr2 a) (ptr2 b))
  | 14 => ∃ x y, base ≤ x ∧ base ≤ y ∧ v = .slice (some ⟨y, 0, none⟩) 1 1 ∧ Blk W y 131 [ptr2 x] ∧ Blk W x 133 (node (wa + wb) 0 (ptr2 a) (ptr2 b))
  | _ => True
/-- how far it is -/
def GrAt (D : Nat → Nat) (T0 base SB PB : Nat) (I : List Nat) (W : World) (gm : Nat) : Prop := ∃ f c l S Q vs vq, Rows2 W base SB PB S Q vs vq ∧ Gr D f c l (S.map (·.1)) (Q.map (·.1)) ∧ S.length + Q.length = gm ∧ 1 ≤ gm ∧ (((S ++ Q).map fun q => q.1.wt).sum = T0) ∧ (((S ++ Q).map (·.1)).flatMap HT.syms).Perm I
/-- the one tree -/
def GrownRet (D : Nat → Nat) (I : List Nat) (w : World) (e : Ending) (w' : World) : Prop := ∃ q : HT × Nat, e = .returned (bptr q) ∧ Tr w' q.1 q.2 ∧ (∀ s ∈ q.1.syms, q.1.dep s = D s) ∧ q.1.syms.Perm I ∧ Below w.heap.size w w'
theorem pick_sum {S Q S' Q' : List (HT × Nat)} {q : HT × Nat} (h : Pick (S.map (·.1)) (Q.map (·.1)) q.1 (S'.map (·.1)) (Q'.map (·.1))) : ((S ++ Q).map fun q => q.1.wt).sum = q.1.wt + ((S' ++ Q').map fun q => q.1.wt).sum := by
  have e : ∀ l : List (HT × Nat), (l.map fun q => q.1.wt) = (l.map (·.1)).map HT.wt := fun l => by rw [List.map_map]; rfl
  rw [e, e, List.map_append, List.map_append]
  have := sum_perm (h.perm.map HT.wt)
  simpa using this
theorem info_tptr : (Try.prog.info? 131).map (fun i => (i.zero, i.size, i.bytes)) = some (some (.pointer none), 1, 8) := by kernel_rfl
theorem build_tree (n : Int) (a b : Nat) (w : World) : (Instr.build 133 #[(0, .int .i64 n), (2, ptr2 a), (3, ptr2 b)]).run Try.prog w = .ok (.agg #[.int .i64 n, .int .i64 0, ptr2 a, ptr2 b]) w := by kernel_rfl
set_option maxRecDepth 100000 in
set_option maxHeartbeats 2000000 in
theorem p_grown (D : Nat → Nat) (f c T0 : Nat) (l : List (Nat × Nat)) (Ss : List (HT × Nat)) (vs : Value) (w : World) (hq : QS w 0 131 vs (Ss.map bptr)) (htr : ∀ q ∈ Ss, Tr w q.1 q.2) (hG : Gr D f c l (Ss.map (·.1)) []) (h1 : 1 ≤ Ss.length) (hT0 : (Ss.map fun q => q.1.wt).sum = T0) (hlo : ∀ b, vs.ownBlock = some b → b < w.heap.size) (hT1 : T0 ≤ 400000000) (hn : Ss.length ≤ 300) :
    Calls Try.prog 81 #[vs] w (GrownRet D ((Ss.map (·.1)).flatMap HT.syms) w) := by
  obtain ⟨i0, hi0, hz0, hz1, hz2⟩ := info_parts2 info_tptr
  obtain ⟨A0, cap0, hvs, _⟩ := id hq
  rw [List.length_map] at hvs
  obtain ⟨len0, hlen0⟩ : ∃ x, Ss.length = x := ⟨_, rfl⟩
  rw [hlen0] at hvs
  subst hvs
  clear hlen0
  obtain ⟨vs, hvs⟩ : ∃ v, Value.slice A0 len0 cap0 = v := ⟨_, rfl⟩
  rw [hvs] at hq hlo
  obtain ⟨w2, hw2⟩ : ∃ w2, (w.alloc (.cells #[vs] 129)).alloc (.cells #[.slice none 0 0] 129) = w2 := ⟨_, rfl⟩
  have hb2 : Below w.heap.size w w2 := by rw [← hw2]; exact ((Below.refl _ _).alloc (Nat.le_refl _) _).alloc (by simp) _
  have hBS : Blk w2 w.heap.size 129 [vs] := by rw [← hw2]; exact (Blk.new' w 129 (c := #[vs]) [vs] rfl).alloc _
  have hBQ : Blk w2 (w.heap.size + 1) 129 [.slice none 0 0] := by rw [← hw2]; exact Blk.new2 w _ 129 (c := #[.slice none 0 0]) [.slice none 0 0] rfl
  have hat : GrAt D T0 w.heap.size w.heap.size (w.heap.size + 1) ((Ss.map (·.1)).flatMap HT.syms) w2 Ss.length := ⟨f, c, l, Ss, [], vs, .slice none 0 0, ⟨hBS, hBQ, hq.below hb2, QS.nil _ _ _, fun q hq' => (htr q (by simpa using hq')).keep (KeepT.of_below hb2), hlo⟩, hG, by simp, h1, by simpa using hT0, by simp⟩
  have HAT := Lib.hid hat
  have HB2 := Lib.hid hb2
  rw [← hvs] at hw2
  have HW2 := Lib.hid hw2
  have hmf := mkf
  generalize (Ss.map (·.1)).flatMap HT.syms = I at *
  generalize Ss.length = n at *
  clear hat hb2 hBS hBQ hq hlo htr hG h1 hT0 hvs
  go_enter Try.func81, Try.ntmps81
  go_wp2
  first | rw [hw2] | skip
  clear HW2 hw2
  go_loopg [5, 6] n (fun gm i j wr => GrAt D T0 w.heap.size w.heap.size (w.heap.size + 1) I wr gm ∧ gm ≤ n ∧ Below w.heap.size w wr)
  case atStart => exact ⟨HAT.out, Nat.le_refl _, HB2.out⟩
  case round =>
    obtain ⟨⟨f, c, l, S, Q, vs, vq, gR, gG, gl, g1, gs, gp⟩, gn, gb⟩ := hrel
    clear HAT HB2
    have c1 := gR.bS.cell 0
    have c2 := gR.bQ.cell 0
    simp only [List.getElem?_cons_zero] at c1 c2
    obtain ⟨AS, capS, hvs, _⟩ := id gR.qS
    obtain ⟨AQ, capQ, hvq, _⟩ := id gR.qQ
    rw [List.length_map] at hvs hvq
    rw [hvs] at c1
    rw [hvq] at c2
    have i1 : (S.length : Int) ≤ 300 := by omega
    have i2 : (Q.length : Int) ≤ 300 := by omega
    have hne : w.heap.size ≠ w.heap.size + 1 := by omega
    have hL := p_lightest _ _ _ S Q vs vq wr gR hne (by omega)
    by_cases h2 : 2 ≤ gk
    · have d1 : (1 : Int) < (S.length : Int) + (Q.length : Int) := by omega
      have HL := Lib.hid hL
      have GG := Lib.hid gG
      have GS := Lib.hid gs
      have GP := Lib.hid gp
      have HNE := Lib.hid hne
      clear hL hvs hvq gG gs gp hne gR
      go_wp2_with fail
      (with_reducible refine HL.out.mono ?_)
      rintro e w3 ⟨a, S1, Q1, vs1, vq1, rfl, pk1, R1, tr1, kt1, bl1, ln1⟩
      have gb1 := gb.trans (bl1 w.heap.size (by omega) (by omega))
      have hL := p_lightest _ _ _ S1 Q1 vs1 vq1 w3 R1 HNE.out (by omega)
      have HL := Lib.hid hL
      have PK1 := Lib.hid pk1
      have KT1 := Lib.hid kt1
      have TR1 := Lib.hid tr1
      clear hL bl1 gb R1 pk1 kt1 tr1 c1 c2
      unfold bptr
      go_wp2_with fail
      (with_reducible refine HL.out.mono ?_)
      rintro e w4 ⟨b, S2, Q2, vs2, vq2, rfl, pk2, R2, tr2, kt2, bl2, ln2⟩
      have gb2 := gb1.trans (bl2 w.heap.size (by omega) (by omega))
      have trA := TR1.out.keep kt2
      clear HL bl2 gb1
      -- the step, by numbers
      obtain ⟨f', rfl⟩ : ∃ f', f = f' + 1 := by
        have q1 := GG.out.fu
        have q2 := GG.out.len
        rw [List.length_map, List.length_map] at q2
        exact ⟨f - 1, by omega⟩
      have hstep := GG.out.step (by rw [GG.out.len, List.length_map, List.length_map]; omega) PK1.out pk2
      have hsum : T0 = a.1.wt + (b.1.wt + ((S2 ++ Q2).map fun q => q.1.wt).sum) := by rw [← GS.out, pick_sum PK1.out, pick_sum pk2]
      have hsy := pick_syms c (a.1.wt + b.1.wt) PK1.out pk2
      have hsy2 : ((S2.map (fun (q : HT × Nat) => q.1) ++ (Q2.map (fun (q : HT × Nat) => q.1) ++ [HT.nd c (a.1.wt + b.1.wt) a.1 b.1])).flatMap HT.syms).Perm I := hsy.symm.trans (by rw [← List.map_append]; exact GP.out)
      obtain ⟨sa, la, ra, tA⟩ := trA.wt
      obtain ⟨sb, lb, rb, tB⟩ := tr2.wt
      have hql := R2.qQ.lt
      have HSTEP := Lib.hid hstep
      have HSUM := Lib.hid hsum
      have HSY := Lib.hid hsy2
      have HR2 := Lib.hid R2
      have HTA := Lib.hid trA
      have HTB := Lib.hid tr2
      have TA := Lib.hid tA
      have TB := Lib.hid tB
      have GB2 := Lib.hid gb2
      have hwab : a.1.wt + b.1.wt ≤ 400000000 := by omega
      have hq2l : Q2.length ≤ 300 := by omega
      have hmid : gk = S2.length + Q2.length + 2 := by omega
      clear hstep hsum hsy hsy2 R2 trA tr2 tA tB GG GS GP PK1 pk2 KT1 kt2 TR1 hql gb2
      have HMID := Lib.hid hmid
      clear hmid ln1 ln2 gl
      obtain ⟨wa, hwa⟩ : ∃ x, a.1.wt = x := ⟨_, rfl⟩
      obtain ⟨wb, hwb⟩ : ∃ x, b.1.wt = x := ⟨_, rfl⟩
      rw [hwa, hwb] at hwab
      have HWA := Lib.hid hwa
      have HWB := Lib.hid hwb
      have cA : ∀ W, Below w4.heap.size w4 W → W.cell? ⟨a.2, 0, none⟩ = some (.int .i64 (wa : Int)) := fun W hW => by
        have := (TA.out.below hW TA.out.lt).cell 0
        rw [HWA.out] at this
        exact this
      have cB : ∀ W, Below w4.heap.size w4 W → W.cell? ⟨b.2, 0, none⟩ = some (.int .i64 (wb : Int)) := fun W hW => by
        have := (TB.out.below hW TB.out.lt).cell 0
        rw [HWB.out] at this
        exact this
      have cP : ∀ W, Below w4.heap.size w4 W → W.cell? ⟨w.heap.size + 1, 0, none⟩ = some vq2 := fun W hW => (HR2.out.bQ.below hW HR2.out.bQ.lt).cell 0
      have CA := Lib.hid cA
      have CB := Lib.hid cB
      have CP := Lib.hid cP
      clear cA cB cP hwa hwb
      have i3 : (wa : Int) + (wb : Int) ≤ 400000000 := by omega
      have w1 : IntKind.i64.wrap ((wa : Int) + (wb : Int)) = ((wa + wb : Nat) : Int) := by rw [IntWalk.i64_in _ (by omega)]; simp
      have HW1 := Lib.hid w1
      clear w1
      unfold bptr
      go_wp2_with fail
      refine region_free_two 15 mixed (by kernel_rfl) (by kernel_rfl) (fun u => #[_, _, _, _, _, _, _, _, _, _, _, _, _, _, _, _, _, _, u 0, u 1, u 2, u 3, u 4, u 5, u 6, u 7, u 8, u 9, u 10, u 11, u 12, u 13, u 14, u 15, _, _]) [] (fun i => match i with | 0 => _ | 1 => _ | 2 => _ | 3 => _ | 4 => _ | 5 => _ | 6 => _ | 7 => _ | 8 => _ | 9 => _ | 10 => _ | 11 => _ | 12 => _ | 13 => _ | 14 => _ | 15 => _ | _ => undef) rfl (fun W => Below w4.heap.size w4 W) (Below.refl _ _).drew (grS w4.heap.size vq2 a.2 b.2 wa wb) ?mono ?step ?last
      case mono =>
        intro i v W W' hv hC hC' hb
        match i with
        | 0 | 1 | 2 | 3 | 4 | 5 | 6 | 7 | 8 | 9 | 10 | 11 | 12 => exact hv
        | 13 =>
          obtain ⟨x, h1, h2, h3⟩ := hv
          exact ⟨x, h1, h2, h3.below hb h3.lt⟩
        | 14 =>
          obtain ⟨x, y, h1, h2, h3, h4, h5⟩ := hv
          exact ⟨x, y, h1, h2, h3, h4.below hb h4.lt, h5.below hb h5.lt⟩
        | _ + 15 => trivial
      case step =>
        intro u W i o hi ho hC hd
        have hr := Below.refl W.heap.size W
        rcases i with _ | _ | _ | _ | _ | _ | _ | _ | _ | _ | _ | _ | _ | _ | _ | i
        all_goals try (simp only [List.getElem?_cons_zero, List.getElem?_cons_succ, Option.some.injEq] at ho; subst ho)
        · have c1 := CP.out W hC
          go_wp2_with fail
          exact ⟨_, rfl, rfl, hC, hr⟩
        · go_wp2_with fail
          exact ⟨_, rfl, rfl, hC, hr⟩
        · have h1 : u 1 = ptr2 a.2 := hd ⟨1, .data⟩ (by simp) rfl
          unfold ptr2 at h1
          rw [h1]
          go_wp2_with fail
          exact ⟨_, by simp [upd, h1, ptr2], rfl, hC, hr⟩
        · have h1 : u 2 = ptr2 a.2 := hd ⟨2, .data⟩ (by simp) rfl
          unfold ptr2 at h1
          rw [h1]
          go_wp2_with fail
          exact ⟨_, by simp [upd, h1, ptr2], rfl, hC, hr⟩
        · have h1 : u 3 = ptr2 a.2 := hd ⟨3, .data⟩ (by simp) rfl
          unfold ptr2 at h1
          have c1 := CA.out W hC
          rw [h1]
          go_wp2_with fail
          exact ⟨_, by simp [upd, h1], rfl, hC, hr⟩
        · go_wp2_with fail
          exact ⟨_, rfl, rfl, hC, hr⟩
        · have h1 : u 5 = ptr2 b.2 := hd ⟨5, .data⟩ (by simp) rfl
          unfold ptr2 at h1
          rw [h1]
          go_wp2_with fail
          exact ⟨_, by simp [upd, h1, ptr2], rfl, hC, hr⟩
        · have h1 : u 6 = ptr2 b.2 := hd ⟨6, .data⟩ (by simp) rfl
          unfold ptr2 at h1
          rw [h1]
          go_wp2_with fail
          exact ⟨_, by simp [upd, h1, ptr2], rfl, hC, hr⟩
        · have h1 : u 7 = ptr2 b.2 := hd ⟨7, .data⟩ (by simp) rfl
          unfold ptr2 at h1
          have c1 := CB.out W hC
          rw [h1]
          go_wp2_with fail
          exact ⟨_, by simp [upd, h1], rfl, hC, hr⟩
        · have h1 : u 4 = .int .i64 (wa : Int) := hd ⟨4, .data⟩ (by simp) rfl
          have h2 : u 8 = .int .i64 (wb : Int) := hd ⟨8, .data⟩ (by simp) rfl
          rw [h1, h2]
          go_wp2_with fail
          exact ⟨.int .i64 ((wa + wb : Nat) : Int), by simp [upd, h1, h2], rfl, hC, hr⟩
        · go_wp2_with fail
          exact ⟨_, rfl, rfl, hC, hr⟩
        · go_wp2_with fail
          exact ⟨_, rfl, rfl, hC, hr⟩
        · have h1 : u 9 = .int .i64 ((wa + wb : Nat) : Int) := hd ⟨9, .data⟩ (by simp) rfl
          have h2 : u 10 = ptr2 a.2 := hd ⟨10, .data⟩ (by simp) rfl
          have h3 : u 11 = ptr2 b.2 := hd ⟨11, .data⟩ (by simp) rfl
          rw [h1, h2, h3]
          have hb := build_tree ((wa + wb : Nat) : Int) a.2 b.2
          unfold ptr2 at hb ⊢
          go_wp2_with fail
          exact ⟨.agg (node (wa + wb) 0 (ptr2 a.2) (ptr2 b.2)).toArray, by simp [upd, h1, h2, h3, ptr2, node], rfl, hC, hr⟩
        · have h1 : u 12 = .agg (node (wa + wb) 0 (ptr2 a.2) (ptr2 b.2)).toArray := hd ⟨12, .data⟩ (by simp) rfl
          have hz := hC.size
          unfold node ptr2 at h1
          rw [h1]
          go_wp2_with fail
          exact ⟨ptr2 W.heap.size, by simp [upd, h1, ptr2], ⟨W.heap.size, hz, rfl, Blk.new' W _ _ rfl⟩, Below.alloc hC hz _, hr.alloc (Nat.le_refl _) _⟩
        · obtain ⟨x, hx, h1, h2⟩ : ∃ x, w4.heap.size ≤ x ∧ u 13 = ptr2 x ∧ Blk W x 133 (node (wa + wb) 0 (ptr2 a.2) (ptr2 b.2)) := hd ⟨13, .data⟩ (by simp) rfl
          have hz := hC.size
          unfold ptr2 at h1
          rw [h1]
          have h2 := Lib.hid h2
          go_wp2_with fail
          exact ⟨_, by simp [upd, h1], ⟨x, W.heap.size, hx, hz, rfl, Blk.new' W _ _ rfl, h2.out.alloc _⟩, Below.alloc hC hz _, hr.alloc (Nat.le_refl _) _⟩
        · omega
      case last =>
        intro u W o o' ho ho' hC hS
        simp only [List.getElem?_cons_zero, List.getElem?_cons_succ, Option.some.injEq] at ho ho'
        subst ho
        subst ho'
        have h0 : u 0 = vq2 := hS 0 (by decide)
        obtain ⟨x, y, hx, hy, h14, hY, hX⟩ : ∃ x y, w4.heap.size ≤ x ∧ w4.heap.size ≤ y ∧ u 14 = .slice (some ⟨y, 0, none⟩) 1 1 ∧ Blk W y 131 [ptr2 x] ∧ Blk W x 133 (node (wa + wb) 0 (ptr2 a.2) (ptr2 b.2)) := hS 14 (by decide)
        have hQ := HR2.out.qQ.below hC
        have hBQ := HR2.out.bQ.below hC HR2.out.bQ.lt
        have hBS := HR2.out.bS.below hC HR2.out.bS.lt
        have hqS := HR2.out.qS.below hC
        have hTA := HTA.out.keep (KeepT.of_below hC)
        have hTB := HTB.out.keep (KeepT.of_below hC)
        have hTR : ∀ q ∈ S2 ++ Q2, Tr W q.1 q.2 := fun q hq => (HR2.out.tr q hq).keep (KeepT.of_below hC)
        have hGB : Below w.heap.size w W := GB2.out.trans (hC.mono GB2.out.size)
        have h63 : (Q2.map bptr).length + 1 ≤ maxLen := by rw [List.length_map]; unfold maxLen; omega
        have hby : ((Q2.map bptr).length + 1) * 8 ≤ 140737488355328 := by rw [List.length_map]; omega
        have hbase : w.heap.size ≤ W.heap.size := hGB.size
        have f1 := hBQ.free 0
        have HQ := Lib.hid hQ
        have HBQ := Lib.hid hBQ
        have HY := Lib.hid hY
        have HX := Lib.hid hX
        have H63 := Lib.hid h63
        have HBY := Lib.hid hby
        have HBASE := Lib.hid hbase
        clear hQ hBQ hY hX h63 hby hbase hS f1
        rw [h0, h14]
        clear h0 h14
        go_wp2_with (refine wpList_append_qs rfl _ _ 129 rfl w.heap.size 131 i0 (.pointer none) 8 Try.underlying129 hi0 hz0 hz1 hz2 rfl vq2 _ rfl HQ.out y (ptr2 x) rfl HY.out rfl H63.out HBY.out HBASE.out ?_; intro v' w5 hq5 hg5 hv5; obtain ⟨A5, cap5, hv', _⟩ := id hq5; obtain ⟨n5, hn5⟩ : ∃ n, (List.map bptr Q2 ++ [ptr2 x]).length = n := ⟨_, rfl⟩; rw [hn5] at hv'; subst hv'; clear hn5 hv5; have K5 := HBQ.out.grownO hg5 (HQ.out.ne HBQ.out (by decide)); have c5 := K5.cell 0; have f5 := K5.free 0; simp only [List.getElem?_cons_zero] at c5)
        go_roundg (gk - 1)
        case measure => omega
        case rel =>
          have hne : ∀ {bb : Nat} {t : TypeId} {vs : List Value}, Blk W bb t vs → t ≠ 131 → Blk w5 bb t vs := fun hb ht => hb.grownO hg5 (HQ.out.ne hb ht)
          have kt5 : KeepT W w5 := fun bb vs hb => hne hb (by decide)
          have kt6 : KeepT w5 (w5.setCell ⟨w.heap.size + 1, 0, none⟩ (.slice A5 n5 cap5)) := KeepT.setCell K5 (by decide) _
          have hlo2 := HR2.out.lo
          have hqS5 : QS w5 0 131 vs2 (S2.map bptr) := hqS.block fun bb t vs hbb hb => hb.grownO hg5 fun i hi => by
            have := (HQ.out.lt i hi).1
            have := hlo2 bb hbb
            omega
          have hX6 : Blk (w5.setCell ⟨w.heap.size + 1, 0, none⟩ (.slice A5 n5 cap5)) x 133 (node (wa + wb) 0 (ptr2 a.2) (ptr2 b.2)) := kt6 _ _ (kt5 _ _ HX.out)
          refine ⟨⟨f', c + 1, nextT c l, S2, Q2 ++ [(.nd c (wa + wb) a.1 b.1, x)], vs2, .slice A5 n5 cap5, ⟨?_, ?_, ?_, ?_, ?_, hlo2⟩, ?_, ?_, ?_, ?_, ?_⟩, ?_, ?_⟩
          · exact (hne hBS (by decide)).other (a := ⟨w.heap.size + 1, 0, none⟩) (by simp) _
          · exact blk_same K5 _
          · exact hqS5.other K5 (by decide) _
          · rw [List.map_append]
            exact hq5.other K5 (by decide) _
          · intro q hq
            rw [← List.append_assoc] at hq
            rcases List.mem_append.1 hq with hq | hq
            · exact ((hTR q hq).keep kt5).keep kt6
            · rw [List.mem_singleton.1 hq]
              exact ⟨a.2, b.2, hX6, (hTA.keep kt5).keep kt6, (hTB.keep kt5).keep kt6⟩
          · have := HSTEP.out
            rw [HWA.out, HWB.out] at this
            simpa using this
          · have := HMID.out
            rw [List.length_append, List.length_singleton]
            omega
          · omega
          · have := HSUM.out
            rw [HWA.out, HWB.out] at this
            simp only [List.map_append, List.sum_append, List.map_cons, List.map_nil, List.sum_cons, List.sum_nil, HT.wt] at this ⊢
            omega
          · have := HSY.out
            rw [HWA.out, HWB.out] at this
            simpa using this
          · omega
          · exact (hGB.grown hg5 HBASE.out (fun i hi => (HQ.out.lt i hi).1)).setCell (p := ⟨w.heap.size + 1, 0, none⟩) (show w.heap.size ≤ w.heap.size + 1 by omega) _
    · have hgk : gk = 1 := by omega
      have d1 : ¬ (1 : Int) < (S.length : Int) + (Q.length : Int) := by omega
      have HL := Lib.hid hL
      have GG := Lib.hid gG
      have GP := Lib.hid gp
      have GL := Lib.hid gl
      have HGK := Lib.hid hgk
      clear hL hvs hvq gG gs gp hne gR hgk gl
      go_wp2_with fail
      (with_reducible refine HL.out.mono ?_)
      rintro e w3 ⟨a, S1, Q1, vs1, vq1, rfl, pk1, R1, tr1, kt1, bl1, ln1⟩
      have gb1 := gb.trans (bl1 w.heap.size (by omega) (by omega))
      have hl1 := GG.out.len
      rw [List.length_map, List.length_map] at hl1
      have hdep := GG.out.last (by have := GL.out; have := HGK.out; omega) pk1
      have hsy := pick_one (by rw [List.length_map, List.length_map]; have := GL.out; have := HGK.out; omega) pk1
      have hp : a.1.syms.Perm I := by rw [← hsy, ← List.map_append]; exact GP.out
      have HD := Lib.hid hdep
      have HP := Lib.hid hp
      clear HL GG GP GL HGK pk1 R1 kt1 bl1 ln1 hl1 hdep hsy hp
      unfold bptr
      go_wp2
      go_ret
      exact ⟨a, rfl, tr1, HD.out, HP.out, gb1⟩
end Go.Proofs.Ytpjihjbgihionaa
namespace Go.Proofs.Ytpjihjbgihionaa
open Go.RowKit
set_option linter.unusedVariables false

theorem info_int : (Try.prog.info? 3).map (fun i => (i.zero, i.size, i.bytes)) = some (some (.int .i64 0), 1, 8) := by kernel_rfl
theorem make_ints (n : Nat) (h : n ≤ 1000000000) (w : World) : (Instr.makeSlice 35 (.int .i64 (n : Int)) (.int .i64 (n : Int))).run Try.prog w = .ok (.slice (some ⟨w.heap.size, 0, none⟩) n n) (w.alloc (.cells (ints .i64 (nn (zerN n))).toArray 3)) := by
  obtain ⟨i0, hi0, hz0, hz1, hz2⟩ := info_parts2 info_int
  have hr := run_make (P := Try.prog) w 35 3 i0 (.int .i64 0) Try.underlying35 hi0 hz0 .i64 .i64 n n (by omega) (Int.le_refl _) (by rw [hz2]; omega) (by omega)
  simp only [Int.toNat_natCast, hz1, Nat.mul_one] at hr
  have e : madeCells (Value.int .i64 0).cells n = (ints .i64 (nn (zerN n))).toArray := by
    apply Array.ext'
    rw [show (Value.int .i64 0).cells = #[.int .i64 0] from rfl, toList_madeCells_one]
    simp [ints, nn, zerN]
  rw [hr, e]
theorem QS.mono {w : World} {base base' : Nat} {e : TypeId} {v : Value} {xs : List Value} (h : QS w base e v xs) (hb : base' ≤ base) : QS w base' e v xs := by
  obtain ⟨A, cap, rfl, ⟨rfl, h2⟩ | ⟨g, off, pre, rest, rfl, hg, r⟩⟩ := h
  · exact ⟨_, _, rfl, .inl ⟨rfl, h2⟩⟩
  · exact ⟨_, _, rfl, .inr ⟨g, off, pre, rest, rfl, by omega, r⟩⟩
theorem treesF_syms (fr : List Nat) : (treesF fr).map (·.2) = symsF fr fr.length := by
  unfold treesF symsF
  rw [List.map_map]
  exact List.map_id' _
theorem treesF_symsL (fr : List Nat) : (treesF fr).length = (symsF fr fr.length).length := by rw [← treesF_syms, List.length_map]
theorem symsF_pos {fr : List Nat} {j i : Nat} : i ∈ symsF fr j ↔ i < j ∧ 0 < fr.getD i 0 := by
  unfold symsF
  rw [List.mem_filter, List.mem_range]
  simp
theorem deps_none {fr : List Nat} (h : (symsF fr fr.length).length = 0) : zerN fr.length = depthsF fr := by
  refine getD_ext fr.length (zerN_len _) (depthsF_len fr) fun j hj => ?_
  rw [depthsF_getD hj]
  have h0 : fr.getD j 0 = 0 := by
    rcases Nat.eq_zero_or_pos (fr.getD j 0) with e | e
    · exact e
    · have := List.length_pos_of_mem (symsF_pos.2 ⟨hj, e⟩); omega
  unfold depF
  rw [if_pos h0]
  unfold zerN
  rw [List.getD_eq_getElem?_getD, List.getElem?_replicate]
  split <;> rfl
theorem zerN_getD (n j : Nat) : (zerN n).getD j 0 = 0 := by
  unfold zerN
  rw [List.getD_eq_getElem?_getD, List.getElem?_replicate]
  split <;> rfl
theorem deps_one {fr : List Nat} {s : Nat} (h : symsF fr fr.length = [s]) : (zerN fr.length).set s 1 = depthsF fr := by
  have hs := symsF_pos.1 (show s ∈ symsF fr fr.length by rw [h]; simp)
  refine getD_ext fr.length (by rw [List.length_set, zerN_len]) (depthsF_len fr) fun j hj => ?_
  rw [depthsF_getD hj, getD_set _ _ _ _ (by rw [zerN_len]; exact hs.1), zerN_getD]
  unfold depF
  by_cases e : s = j
  · subst e
    rw [if_pos rfl, if_neg (by omega), if_pos (by rw [treesF_symsL, h]; rfl)]
  · rw [if_neg e, if_pos]
    rcases Nat.eq_zero_or_pos (fr.getD j 0) with e0 | e0
    · exact e0
    · have := symsF_pos.2 ⟨hj, e0⟩
      rw [h, List.mem_singleton] at this
      exact absurd this.symm e
theorem deps_more {fr : List Nat} {t : HT} (h : 2 ≤ (symsF fr fr.length).length) (hp : t.syms.Perm (symsF fr fr.length)) (hd : ∀ s ∈ t.syms, t.dep s = deepT fr.length fr.length (treesF fr) s) : t.write 0 (zerN fr.length) = depthsF fr := by
  refine getD_ext fr.length (by rw [HT.write_len, zerN_len]) (depthsF_len fr) fun j hj => ?_
  rw [depthsF_getD hj, HT.write_getD _ _ _ _ (fun s hs => by rw [zerN_len]; exact symsF_lt (hp.subset hs)), zerN_getD]
  unfold depF
  by_cases e : j ∈ t.syms
  · have h0 := (symsF_pos.1 (hp.subset e)).2
    rw [if_pos e, if_neg (by omega), if_neg (by rw [treesF_symsL]; omega), hd j e, Nat.zero_add]
  · rw [if_neg e, if_pos]
    rcases Nat.eq_zero_or_pos (fr.getD j 0) with e0 | e0
    · exact e0
    · exact absurd (hp.symm.subset (symsF_pos.2 ⟨hj, e0⟩)) e
theorem sum_le_all {l : List Nat} {b : Nat} (h : ∀ x ∈ l, x ≤ b) : l.sum ≤ l.length * b := by
  induction l with
  | nil => simp
  | cons x l ih =>
    have h1 := h x (by simp)
    have h2 := ih (fun y hy => h y (by simp [hy]))
    rw [List.sum_cons, List.length_cons, Nat.add_mul]
    omega
/-- a row of numbers is handed back -/
def IntsRet (l : List Nat) (w : World) (e : Ending) (w' : World) : Prop := ∃ g, e = .returned (.slice (some ⟨g, 0, none⟩) l.length l.length) ∧ Blk w' g 3 (ints .i64 (nn l)) ∧ w.heap.size ≤ g ∧ Below w.heap.size w w'
set_option maxRecDepth 100000 in
set_option maxHeartbeats 2000000 in
theorem p_depths (fr : List Nat) (p : Option Addr) (cap : Nat) (w : World) (hl : fr.length ≤ 300) (hf : ∀ i, fr.getD i 0 ≤ 1048576) (hS : Sl w 1 (.slice p fr.length cap) (rowsN fr)) :
    Calls Try.prog 61 #[.slice p fr.length cap] w (IntsRet (depthsF fr) w) := by
  have hmk := fun w => make_ints fr.length (by omega) w
  obtain ⟨w1, hw1⟩ : ∃ w1, w.alloc (.cells (ints .i64 (nn (zerN fr.length))).toArray 3) = w1 := ⟨_, rfl⟩
  have hb1 : Below w.heap.size w w1 := by rw [← hw1]; exact (Below.refl _ _).alloc (Nat.le_refl _) _
  have hB1 : Blk w1 w.heap.size 3 (ints .i64 (nn (zerN fr.length))) := by rw [← hw1]; exact Blk.new' w _ _ rfl
  have hz1 : w1.heap.size = w.heap.size + 1 := by rw [← hw1]; simp
  have hC := p_leaves fr p cap w1 hl hf (hS.below hb1)
  have hdl := depthsF_len fr
  have HDL := Lib.hid hdl
  have hzl := zerN_len fr.length
  have HC := Lib.hid hC
  have HB := Lib.hid hb1
  have HBK := Lib.hid hB1
  have HZ1 := Lib.hid hz1
  have HW1 := Lib.hid hw1
  have HF := Lib.hid hf
  have hfr : fr.length = fr.length := rfl
  obtain ⟨n, hn⟩ : ∃ n, fr.length = n := ⟨_, rfl⟩
  have HN := Lib.hid hn
  rw [hn] at hmk hl hw1
  rw [hn]
  have HC' : Hid (Calls Try.prog 80 #[.slice p n cap] w1 (LeafRet fr w1)) := Lib.hid (by rw [← HN.out]; exact HC.out)
  clear hC hdl hb1 hB1 hz1 hf hS hfr hn HC hzl
  go_enter Try.func61, Try.ntmps61
  go_wp2_with fail
  clear hw1 HW1 hmk
  (with_reducible refine HC'.out.mono ?_)
  rintro e w2 ⟨N, S, v, rfl, hown, hN, hlo, hper, hsrt, hb2⟩
  have hB2 := HBK.out.below hb2 HBK.out.lt
  have hb02 := HB.out.trans (hb2.mono HB.out.size)
  have hlen := hper.length_eq
  have hSl : S.length ≤ 300 := by rw [hlen]; have := symsF_len fr fr.length; have := HN.out; omega
  by_cases h2 : 2 ≤ S.length
  · obtain ⟨g, cap2, rest, rfl, hg1, hg2, hBg, _⟩ := hown.blk (by omega)
    obtain ⟨Ss, hSs⟩ : ∃ Ss : List (HT × Nat), Ss = S.map fun s => (HT.lf (fr.getD s 0) s, N s) := ⟨_, rfl⟩
    have e1 : Ss.map bptr = (pRow N S).flatten := by rw [hSs, List.map_map, prow_flat]; rfl
    have e2 : Ss.map (fun (q : HT × Nat) => q.1) = S.map fun s => HT.lf (fr.getD s 0) s := by rw [hSs, List.map_map]; rfl
    have e3 : (S.map fun s => HT.lf (fr.getD s 0) s).flatMap HT.syms = S := by rw [List.flatMap_map]; simp [HT.syms]
    have hq := (QS.ofOwn hown).mono (Nat.zero_le _)
    rw [← e1] at hq
    have hG := Gr.first (by rw [treesF_syms]; exact hper) hsrt
    rw [← e2] at hG
    have hsum : (Ss.map fun q => q.1.wt).sum ≤ 400000000 := by
      have := sum_le_all (l := Ss.map fun q => q.1.wt) (b := 1048576) (fun x hx => by
        obtain ⟨q, hq, rfl⟩ := List.mem_map.1 hx
        rw [hSs] at hq
        obtain ⟨s, _, rfl⟩ := List.mem_map.1 hq
        exact HF.out s)
      rw [List.length_map, hSs, List.length_map] at this
      rw [hSs]
      omega
    have hC := p_grown _ _ _ _ _ Ss _ w2 hq (fun q hq => by
      rw [hSs] at hq
      obtain ⟨s, hs, rfl⟩ := List.mem_map.1 hq
      exact hN s hs) hG (by rw [hSs, List.length_map]; omega) rfl (fun b hb => by cases hb; exact hg2) hsum (by rw [hSs, List.length_map]; exact hSl)
    rw [e2, e3] at hC
    have i1 : ((S.length : Int) == 0) = false := by rw [beq_eq_false_iff_ne]; omega
    have i2 : ((S.length : Int) == 1) = false := by rw [beq_eq_false_iff_ne]; omega
    have j1 : decide (S.length = 0) = false := decide_eq_false (by omega)
    have j2 : decide (S.length = 1) = false := decide_eq_false (by omega)
    have HC := Lib.hid hC
    have HB2 := Lib.hid hB2
    have HB02 := Lib.hid hb02
    have HPER := Lib.hid hper
    have HL2 := Lib.hid (show 2 ≤ (symsF fr fr.length).length by rw [← hlen]; exact h2)
    have hz := HZ1.out
    have HZ : Hid (w1.heap.size = w.heap.size + 1) := HZ1
    clear hC hown hN hlo hper hsrt hb2 hB2 hb02 hlen hBg hq hG hsum hSs e1 e2 e3 HC' hz h2
    go_wp2_with fail
    (with_reducible refine HC.out.mono ?_)
    rintro e w3 ⟨q, rfl, htr, hdep, hp, hb3⟩
    have hB3 := HB2.out.below hb3 HB2.out.lt
    have hps := hp.trans HPER.out
    have hdm := deps_more HL2.out hps hdep
    have hT := p_tell w.heap.size n n q.1 q.2 0 (zerN fr.length) w3 htr hB3 (by rw [zerN_len]; exact HN.out) (fun s hs => by have := symsF_lt (hps.subset hs); have := HN.out; omega) (by have := hp.length_eq; omega) (by omega)
    rw [hdm] at hT
    have e0 : ((0 : Nat) : Int) = 0 := rfl
    rw [e0] at hT
    have HT' := Lib.hid hT
    have hb03 := HB02.out.trans (hb3.mono HB02.out.size)
    clear hT hdm hdep hp hps hb3 htr hB3 HC e0
    unfold bptr
    go_wp2_with fail
    (with_reducible refine HT'.out.mono ?_)
    rintro e w4 ⟨rfl, ht4⟩
    have hb04 := ht4.below hb03 hb03.size (Nat.le_refl _)
    go_wp2
    go_ret
    exact ⟨w.heap.size, by rw [HDL.out, HN.out]; rfl, ht4.2, Nat.le_refl _, hb04⟩
  · by_cases h1 : S.length = 1
    · match S, h1 with
      | [s], _ =>
        obtain ⟨g, cap2, rest, rfl, hg1, hg2, hBg, _⟩ := hown.blk (by simp)
        have c1 := hBg.ptr (j := 0) (by simp)
        have hNs := hN s (by simp)
        have c2 := hNs.cell 1
        simp only [leafN, node, List.getElem?_cons_zero, List.getElem?_cons_succ] at c2
        have hs1 : symsF fr fr.length = [s] := List.perm_singleton.1 hper.symm
        have hd1 := deps_one hs1
        have hsn : s < n := by have := symsF_lt (show s ∈ symsF fr fr.length by rw [hs1]; simp); have := HN.out; omega
        have c3 := hB2.nat (j := s) (by rw [zerN_len]; have := HN.out; omega)
        have f3 := hB2.free s
        have hfin : Blk (w2.setCell ⟨w.heap.size, s, none⟩ (.int .i64 1)) w.heap.size 3 (ints .i64 (nn (depthsF fr))) := by rw [← hd1]; exact hB2.setNat s 1
        have hbf : Below w.heap.size w (w2.setCell ⟨w.heap.size, s, none⟩ (.int .i64 1)) := hb02.setCell (p := ⟨w.heap.size, s, none⟩) (Nat.le_refl _) _
        have i1 : (s : Int) < (n : Int) := by omega
        simp only [pv, List.getD_cons_zero] at c1
        have HFIN := Lib.hid hfin
        have HBF := Lib.hid hbf
        clear hown hN hlo hper hsrt hb2 hB2 hb02 hlen hBg hNs hs1 hd1 hfin hbf HC' h2 hsn
        simp only [List.length_cons, List.length_nil]
        go_wp2
        go_ret
        exact ⟨w.heap.size, by rw [HDL.out, HN.out]; rfl, HFIN.out, Nat.le_refl _, HBF.out⟩
    · have h0 : S.length = 0 := by omega
      have hS0 : S = [] := List.eq_nil_of_length_eq_zero h0
      subst hS0
      have hd0 := deps_none (fr := fr) (by rw [← hlen]; rfl)
      rw [hd0] at hB2
      obtain ⟨p3, cap3, rfl⟩ := hown.sl.isSlice
      have HB2 := Lib.hid hB2
      have HB02 := Lib.hid hb02
      have er : (pRow N []).length = 0 := rfl
      rw [er]
      clear hown hN hlo hper hsrt hb2 hB2 hb02 hlen hd0 HC' h0 h1 h2 er
      go_wp2
      go_ret
      exact ⟨w.heap.size, by rw [HDL.out, HN.out]; rfl, HB2.out, Nat.le_refl _, HB02.out⟩
end Go.Proofs.Ytpjihjbgihionaa
