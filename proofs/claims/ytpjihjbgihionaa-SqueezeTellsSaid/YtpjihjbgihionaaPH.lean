/- The reference's trees: rows of a weight and symbols; walks of lightest and take. -/
import Derived.Test.YtpjihjbgihionaaPG
namespace Go.Proofs.Ytpjihjbgihionaa
open Go.RowKit
set_option linter.unusedVariables false

/-- a tree: its weight, its number, its symbols, and where they lie -/
structure RT where
  wt : Nat
  tag : Nat
  syms : List Nat
  g : Nat
  cap : Nat
def RT.key (t : RT) : Nat × Nat := (t.wt, t.tag)
def RT.v (t : RT) : Value := .slice (some ⟨t.g, 0, none⟩) t.syms.length t.cap
def RT.row (t : RT) : List Value := [.int .i64 (t.wt : Int), t.v]
def rowsT (T : List RT) : List (List Value) := T.map RT.row
theorem rowsT_len (T : List RT) : (rowsT T).length = T.length := by simp [rowsT]
theorem rowsT_at {T : List RT} {j : Nat} {t : RT} (h : T[j]? = some t) : (rowsT T)[j]? = some t.row := by simp [rowsT, h]
/-- the lightest one's place, among the first j -/
def lgt (l : List (Nat × Nat)) : Nat → Nat
  | 0 => 0
  | j + 1 => if (l.getD j (0, 0)).1 < (l.getD (lgt l j) (0, 0)).1 then j else lgt l j
theorem lgt_le (l : List (Nat × Nat)) : ∀ j, lgt l (j + 1) ≤ j
  | 0 => by unfold lgt; split <;> simp [lgt]
  | j + 1 => by
    have := lgt_le l j
    unfold lgt
    split <;> omega
theorem light_snoc {l : List (Nat × Nat)} (u : Nat × Nat) (h : l ≠ []) : light (l ++ [u]) = if u.1 < (light l).1 then u else light l := by
  match l, h with
  | t :: l, _ =>
    show (l ++ [u]).foldl _ t = _
    rw [List.foldl_append]
    rfl
theorem take_ne {l : List (Nat × Nat)} {j : Nat} (h : j < l.length) : l.take (j + 1) ≠ [] := fun e0 => by
  have h9 : (l.take (j + 1)).length = 0 := by rw [e0]; rfl
  rw [List.length_take] at h9
  omega
theorem lgt_light {l : List (Nat × Nat)} : ∀ j, j < l.length → l.getD (lgt l (j + 1)) (0, 0) = light (l.take (j + 1))
  | 0, h => by
    match l, h with
    | t :: l, h =>
      have : lgt (t :: l) 1 = 0 := Nat.le_zero.1 (lgt_le (t :: l) 0)
      rw [this]
      rfl
  | j + 1, h => by
    have ih := lgt_light (l := l) j (by omega)
    have e : l.take (j + 1 + 1) = l.take (j + 1) ++ [l.getD (j + 1) (0, 0)] := by
      rw [List.take_add_one, List.getElem?_eq_getElem h, List.getD_eq_getElem?_getD, List.getElem?_eq_getElem h]
      rfl
    rw [e, light_snoc _ (take_ne (by omega)), ← ih]
    conv => lhs; unfold lgt
    split
    · rfl
    · rfl
theorem lgt_all {l : List (Nat × Nat)} (h : 0 < l.length) : l.getD (lgt l l.length) (0, 0) = light l := by
  obtain ⟨n, hn⟩ : ∃ n, l.length = n + 1 := ⟨l.length - 1, by omega⟩
  have := lgt_light (l := l) n (by omega)
  rw [← hn, List.take_length] at this
  exact this
theorem lgt_lt {l : List (Nat × Nat)} (h : 0 < l.length) : lgt l l.length < l.length := by
  obtain ⟨n, hn⟩ : ∃ n, l.length = n + 1 := ⟨l.length - 1, by omega⟩
  rw [hn]
  have := lgt_le l n
  omega
theorem erase_idx {l : List (Nat × Nat)} : ∀ {i : Nat}, l.Nodup → i < l.length → l.erase (l.getD i (0, 0)) = l.eraseIdx i := by
  induction l with
  | nil => intro i _ h; simp at h
  | cons t l ih =>
    intro i hn h
    have h1 := List.nodup_cons.1 hn
    match i with
    | 0 => simp
    | i + 1 =>
      have hi : i < l.length := by simpa using h
      have hm : l.getD i (0, 0) ∈ l := by
        rw [List.getD_eq_getElem?_getD, List.getElem?_eq_getElem hi]
        exact List.getElem_mem hi
      have hne : t ≠ l.getD i (0, 0) := fun e => h1.1 (by rw [e]; exact hm)
      show (t :: l).erase (l.getD i (0, 0)) = t :: l.eraseIdx i
      rw [List.erase_cons_tail (by simpa using hne), ih h1.2 hi]
set_option maxRecDepth 100000 in
set_option maxHeartbeats 1000000 in
theorem r_lightest (T : List RT) (p : Option Addr) (cap : Nat) (w : World) (hl : T.length ≤ 1000000) (hS : Sl w 2 (.slice p T.length cap) (rowsT T)) (h0 : 0 < T.length) :
    Calls Try.prog 71 #[.slice p T.length cap] w fun e w' => e = .returned (.int .i64 ((lgt (T.map RT.key) T.length : Nat) : Int)) ∧ ∃ n, w' = w.drewN n := by
  have hcell : ∀ j, j < T.length → ∃ a : Addr, p = some a ∧ w.cell? (a.add (j * 2)) = some (.int .i64 ((((T.map RT.key).getD j (0, 0)).1 : Nat) : Int)) := fun j hj => by
    obtain ⟨a, e, hc⟩ := hS.row (rowsT_at (List.getElem?_eq_getElem hj))
    refine ⟨a, e, ?_⟩
    have := hc 0 _ rfl
    rw [show (a.add (j * 2)).add 0 = a.add (j * 2) from rfl] at this
    rw [this]
    simp [RT.key, hj]
  have hst : ∀ j, lgt (T.map RT.key) (j + 1) = if ((T.map RT.key).getD j (0, 0)).1 < ((T.map RT.key).getD (lgt (T.map RT.key) j) (0, 0)).1 then j else lgt (T.map RT.key) j := fun j => rfl
  have hle := fun j => lgt_le (T.map RT.key) j
  have h1 : lgt (T.map RT.key) 1 = 0 := Nat.le_zero.1 (hle 0)
  generalize lgt (T.map RT.key) = G at *
  have HC := Lib.hid hcell
  have HST := Lib.hid hst
  have HLE := Lib.hid hle
  have H1 := Lib.hid h1
  clear hS hcell hst hle h1
  go_enter Try.func71, Try.ntmps71
  go_wp2
  go_loopw [3, 4] (fun at' i wr => ∃ j n : Nat, 1 ≤ j ∧ j ≤ T.length ∧ i = .int .i64 (j : Int) ∧ at' = .int .i64 ((G j : Nat) : Int) ∧ wr = w.drewN n) (fun _ i _ => T.length - (intOf i).toNat)
  case atStart => exact ⟨1, 0, by omega, by omega, rfl, by rw [H1.out]; rfl, rfl⟩
  case round =>
    obtain ⟨j, n, hj1, hj, rfl, rfl, rfl⟩ := hrel
    by_cases hlt : j < T.length
    · have d1 : (j : Int) < (T.length : Int) := by omega
      obtain ⟨a, rfl, c1⟩ := HC.out j hlt
      have hgj : G j < T.length := by
        obtain ⟨k, rfl⟩ : ∃ k, j = k + 1 := ⟨j - 1, by omega⟩
        have := HLE.out k
        omega
      obtain ⟨a', ha', c2⟩ := HC.out (G j) hgj
      cases ha'
      have hst := HST.out j
      obtain ⟨k, hk⟩ : ∃ k, G j = k := ⟨_, rfl⟩
      rw [hk] at c2 hst hgj ⊢
      obtain ⟨x, hx⟩ : ∃ x, ((T.map RT.key).getD j (0, 0)).1 = x := ⟨_, rfl⟩
      obtain ⟨y, hy⟩ : ∃ y, ((T.map RT.key).getD k (0, 0)).1 = y := ⟨_, rfl⟩
      rw [hx] at c1 hst
      rw [hy] at c2 hst
      have i1 : (k : Int) < (T.length : Int) := by omega
      have HST1 := Lib.hid hst
      clear hx hy hst hk
      by_cases hxy : x < y
      · have t1 : (x : Int) < (y : Int) := by omega
        have t1n : decide (x < y) = true := decide_eq_true hxy
        go_wp2_with fail
        go_quiet (fail)
        go_wp2
        go_roundw
        case rel => exact ⟨j + 1, _, by omega, by omega, by go_num, by rw [HST1.out, if_pos hxy], rfl⟩
        case measure => simp [intOf]; omega
      · have t1 : decide ((x : Int) < (y : Int)) = false := decide_eq_false (by omega)
        have t1n : decide (x < y) = false := decide_eq_false hxy
        go_wp2_with fail
        go_quiet (fail)
        go_wp2
        go_roundw
        case rel => exact ⟨j + 1, _, by omega, by omega, by go_num, by rw [HST1.out, if_neg hxy], rfl⟩
        case measure => simp [intOf]; omega
    · obtain rfl : j = T.length := by omega
      go_wp2
      go_ret
      exact ⟨rfl, _, rfl⟩
end Go.Proofs.Ytpjihjbgihionaa
namespace Go.Proofs.Ytpjihjbgihionaa
open Go.RowKit
set_option linter.unusedVariables false

theorem results_blk_tmp {P : Program} {fn : Func} {p q : Tmp} {ty : TypeId} (h : fn.results = #[.cell p ty, .tmp q]) (tmps : Array Value) (w : World) (g : Nat)
    (hp : tmps.getD p undef = .pointer (some ⟨g, 0, none⟩)) (v : Value) (hq : tmps.getD q undef = v) {t : TypeId} {cs : List Value} {d : TypeDesc} (hg : Blk w g t cs)
    (hu : P.underlying ty = some d) (hd : (match d with | .struct _ | .array _ _ => true | _ => false) = true) (hi : (P.info? ty).map (·.size) = some cs.length) : (results fn tmps).run P w = .ok (.tuple #[.agg cs.toArray, v]) w := by
  have hp' : tmps[p]?.getD undef = .pointer (some ⟨g, 0, none⟩) := by simpa using hp
  have hq' : tmps[q]?.getD undef = v := by simpa using hq
  simp [results, h, hp', hq', asAddr, run_loadVar_row w g t ty cs.toArray (0, 0) d hg hu hd (by simpa using hi)]
theorem info_tree : (Try.prog.info? 116).map (fun i => (i.zero, i.size, i.bytes)) = some (some (.agg #[.int .i64 0, .slice none 0 0]), 2, 32) := by kernel_rfl
theorem size_rtree : (Try.prog.info? 116).map (·.size) = some 2 := by kernel_rfl
theorem RT.row_one (t : RT) : ∀ u ∈ t.row, u.oneCell' = true := by simp [RT.row, RT.v, Value.oneCell']
theorem OwnR.base {w : World} {base base' : Nat} {e : TypeId} {k : Nat} {v : Value} {rows : List (List Value)} (h : OwnR w base e k v rows) (hb : base' ≤ base) : OwnR w base' e k v rows := by
  obtain ⟨k0, k1, k2⟩ := h
  refine ⟨k0, k1, ?_⟩
  rcases k2 with h | ⟨g, cap, cur, hv, hg, r⟩
  · exact .inl h
  · exact .inr ⟨g, cap, cur, hv, by omega, r⟩
theorem OwnR.rowOther {w : World} {base : Nat} {e : TypeId} {k : Nat} {v : Value} {rows : List (List Value)} (h : OwnR w base e k v rows) (r : Nat) (row : Array Value) (hne : ∀ b, v.ownBlock = some b → b ≠ r) : OwnR (w.setRow r row) base e k v rows := by
  obtain ⟨k0, k1, k2⟩ := h
  refine ⟨k0, k1, ?_⟩
  rcases k2 with h | ⟨g, cap, cur, hv, hg, hh, rest⟩
  · exact .inl h
  · refine .inr ⟨g, cap, cur, hv, hg, ?_, rest⟩
    have hB : Blk w g e cur.toList := by unfold Blk; exact hh
    have hB' := hB.rowOther (g := r) (hne g (by rw [hv]; rfl)) row
    unfold Blk at hB'
    exact hB'
theorem take_out {T : List RT} {at' j : Nat} (hj : j < T.length) {t : RT} (ht : T[j]? = some t) (hat : at' < T.length) : (T.take (j + 1)).eraseIdx at' = if j = at' then (T.take j).eraseIdx at' else (T.take j).eraseIdx at' ++ [t] := by
  have e : T.take (j + 1) = T.take j ++ [t] := by rw [List.take_add_one, ht]; rfl
  have hl : (T.take j).length = j := by rw [List.length_take]; omega
  rw [e]
  split
  · rename_i e'
    subst e'
    rw [List.eraseIdx_of_length_le (l := T.take j) (by omega), List.eraseIdx_append_of_length_le (by omega), hl, Nat.sub_self]
    simp
  · rename_i e'
    rcases Nat.lt_or_ge at' j with h | h
    · rw [List.eraseIdx_append_of_lt_length (by omega)]
    · rw [List.eraseIdx_of_length_le (by rw [List.length_append, hl, List.length_singleton]; omega), List.eraseIdx_of_length_le (by omega)]
def TakeRet (T : List RT) (at' : Nat) (t : RT) (w : World) (e : Ending) (w' : World) : Prop := ∃ v, e = .returned (.tuple #[.agg t.row.toArray, v]) ∧ OwnR w' w.heap.size 116 2 v (rowsT (T.eraseIdx at')) ∧ Below w.heap.size w w'
set_option maxRecDepth 100000 in
set_option maxHeartbeats 2000000 in
theorem r_take (T : List RT) (at' : Nat) (t : RT) (p : Option Addr) (cap : Nat) (w : World) (hl : T.length ≤ 1000) (hS : Sl w 2 (.slice p T.length cap) (rowsT T)) (hat : T[at']? = some t) :
    Calls Try.prog 70 #[.slice p T.length cap, .int .i64 (at' : Int)] w (TakeRet T at' t w) := by
  have hatl : at' < T.length := (List.getElem?_eq_some_iff.1 hat).1
  obtain ⟨x, tg, sy, gs, cs⟩ := t
  obtain ⟨i1, hi1, hy0, hy1, hy2⟩ := info_parts2 info_tree
  obtain ⟨w1, hw1⟩ : ∃ w1, w.alloc (.cells #[.int .i64 0, .slice none 0 0] 116) = w1 := ⟨_, rfl⟩
  have hb1 : Below w.heap.size w w1 := by rw [← hw1]; exact (Below.refl _ _).alloc (Nat.le_refl _) _
  have kR : Blk w1 w.heap.size 116 [.int .i64 0, .slice none 0 0] := by rw [← hw1]; exact Blk.new' w _ _ rfl
  have hz1 : w1.heap.size = w.heap.size + 1 := by rw [← hw1]; simp
  have k0 := OwnR.empty w1 (w.heap.size + 1) 116 2 (by omega)
  have kb := hb1.alloc hb1.size (.cells #[] 116)
  have kR1 := kR.alloc (.cells #[] 116)
  rw [hz1] at k0
  have K0 := Lib.hid k0
  have KB := Lib.hid kb
  have KR := Lib.hid kR1
  have HS := Lib.hid hS
  have HAT := Lib.hid hat
  have HW1 := Lib.hid hw1
  clear hS hat k0 kb kR kR1 hb1 hw1
  go_enter Try.func70, Try.ntmps70
  go_wp2
  rw [HW1.out]
  have z0 : rowsT ((T.take 0).eraseIdx at') = [] := by simp [rowsT]
  go_loopw [6, 7] (fun u i wr => ∃ j : Nat, j ≤ T.length ∧ i = .int .i64 (j : Int) ∧ OwnR wr (w.heap.size + 1) 116 2 u (rowsT ((T.take j).eraseIdx at')) ∧ Blk wr w.heap.size 116 [.int .i64 0, .slice none 0 0] ∧ Below w.heap.size w wr) (fun _ i _ => T.length - (intOf i).toNat)
  case atStart => exact ⟨0, by omega, rfl, by rw [z0]; exact K0.out, KR.out, KB.out⟩
  case round =>
    obtain ⟨j, hj, rfl, go, gR, gb⟩ := hrel
    clear K0 KB KR z0 HW1
    by_cases hlt : j < T.length
    · have d1 : (j : Int) < (T.length : Int) := by omega
      obtain ⟨t', ht'⟩ : ∃ t', T[j]? = some t' := ⟨_, List.getElem?_eq_getElem hlt⟩
      have hsn := take_out hlt ht' hatl
      by_cases he : j = at'
      · rw [if_pos he] at hsn
        rw [← hsn] at go
        have e1 : ((j : Int) != (at' : Int)) = false := by rw [he]; simp
        have GO := Lib.hid go
        have GR := Lib.hid gR
        have GB := Lib.hid gb
        clear hsn go gR gb he
        go_wp2
        go_roundw
        case rel => exact ⟨j + 1, by omega, by go_num, GO.out, GR.out, GB.out⟩
        case measure => simp [intOf]; omega
      · rw [if_neg he] at hsn
        have e1 : ((j : Int) != (at' : Int)) = true := by rw [bne_iff_ne]; omega
        obtain ⟨a, rfl, hc⟩ := (HS.out.below gb).row (rowsT_at ht')
        have hsn2 : rowsT ((T.take (j + 1)).eraseIdx at') = rowsT ((T.take j).eraseIdx at') ++ [t'.row] := by rw [hsn]; simp [rowsT]
        have hrl : (rowsT ((T.take j).eraseIdx at')).length ≤ j := by
          rw [rowsT_len, List.length_eraseIdx, List.length_take]
          split <;> omega
        have HSN := Lib.hid hsn2
        have HRL := Lib.hid hrl
        have HC := Lib.hid hc
        clear hsn hsn2 hrl hc he ht'
        generalize rowsT ((T.take j).eraseIdx at') = rows at *
        have hrw : t'.row = [.int .i64 (t'.wt : Int), .slice (some ⟨t'.g, 0, none⟩) t'.syms.length t'.cap] := rfl
        rw [hrw] at HC HSN
        have hone : ∀ r ∈ [t'.row], ∀ u ∈ r, u.oneCell' = true := fun r hr => by rw [List.mem_singleton.1 hr]; exact t'.row_one
        rw [hrw] at hone
        clear hrw
        generalize t'.wt = x at *
        generalize t'.syms.length = ns at *
        generalize t'.g = gs at *
        generalize t'.cap = cs at *
        have hnb := Blk.new' wr 116 (c := #[.int .i64 (x : Int), .slice (some ⟨gs, 0, none⟩) ns cs]) [.int .i64 (x : Int), .slice (some ⟨gs, 0, none⟩) ns cs] rfl
        have hnews := sl_one hnb
        have hown := go.alloc (.cells #[.int .i64 (x : Int), .slice (some ⟨gs, 0, none⟩) ns cs] 116)
        have hlo := go.lt
        have hgb := gb.alloc gb.size (.cells #[.int .i64 (x : Int), .slice (some ⟨gs, 0, none⟩) ns cs] 116)
        have hgR := gR.alloc (.cells #[.int .i64 (x : Int), .slice (some ⟨gs, 0, none⟩) ns cs] 116)
        have hbase : w.heap.size + 1 ≤ (wr.alloc (.cells #[.int .i64 (x : Int), .slice (some ⟨gs, 0, none⟩) ns cs] 116)).heap.size := hgR.lt
        have hlen : rows.length + [[Value.int .i64 (x : Int), .slice (some ⟨gs, 0, none⟩) ns cs]].length ≤ maxLen := by have := HRL.out; rw [List.length_singleton]; unfold maxLen; omega
        have hby : (rows.length + [[Value.int .i64 (x : Int), .slice (some ⟨gs, 0, none⟩) ns cs]].length) * 32 ≤ 140737488355328 := by have := HRL.out; rw [List.length_singleton]; omega
        have HONE := Lib.hid hone
        have HLEN := Lib.hid hlen
        have HBY := Lib.hid hby
        have HOW := Lib.hid hown
        have HNW := Lib.hid hnews
        have HLO := Lib.hid hlo
        have HGB := Lib.hid hgb
        have HGR := Lib.hid hgR
        have HBA := Lib.hid hbase
        clear hone hlen hby hnb hnews hown hlo hgb hgR hbase go gb gR
        go_wp2_with (first | (refine wpList_load_addr rfl 116 _ rfl _ rfl [.int .i64 (x : Int), .slice (some ⟨gs, 0, none⟩) ns cs] HC.out Try.underlying116 rfl (by rw [size_rtree]; rfl) ?_) | (refine wpList_append_rows rfl _ _ 114 rfl (w.heap.size + 1) 116 i1 (.agg #[.int .i64 0, .slice none 0 0]) 2 32 Try.underlying114 hi1 hy0 hy1 hy2 rfl (by decide) _ rows rfl HOW.out (.slice (some ⟨wr.heap.size, 0, none⟩) 1 1) [[.int .i64 (x : Int), .slice (some ⟨gs, 0, none⟩) ns cs]] rfl HNW.out HONE.out HLEN.out HBY.out HBA.out (.inr ⟨_, _, _, rfl⟩) ?_; intro v' w5 ho5 hg5 hv5))
        have gb5 := HGB.out.grown hg5 (by have := HBA.out; omega) (fun k e => by have := (HLO.out k e).1; omega)
        have gR5 : Blk w5 w.heap.size 116 [.int .i64 0, .slice none 0 0] := (hg5.block w.heap.size HGR.out.lt (fun e => by have := (HLO.out _ e.symm).1; omega)).trans HGR.out
        go_roundw
        case rel => exact ⟨j + 1, by omega, by go_num, by rw [HSN.out]; exact ho5, gR5, gb5⟩
        case measure => simp [intOf]; omega
    · obtain rfl : j = T.length := by omega
      rw [List.take_length] at go
      obtain ⟨a, rfl, hc⟩ := (HS.out.below gb).row (rowsT_at HAT.out)
      have hc : ∀ (jj : Nat) (xx : Value), [Value.int .i64 (x : Int), .slice (some ⟨gs, 0, none⟩) sy.length cs][jj]? = some xx → wr.cell? ((a.add (at' * 2)).add jj) = some xx := hc
      have i1 : (at' : Int) < (T.length : Int) := by omega
      obtain ⟨pu, cu, eu⟩ := go.isSlice
      subst eu
      have hown := go.base (base' := w.heap.size) (by omega)
      have hlo := go.lt
      have HOWN := Lib.hid hown
      have HLO := Lib.hid hlo
      have HC := Lib.hid hc
      have GR := Lib.hid gR
      have GB := Lib.hid gb
      clear hc go hown hlo gR gb hlt
      have hfin : Blk (wr.setRow w.heap.size #[.int .i64 (x : Int), .slice (some ⟨gs, 0, none⟩) sy.length cs]) w.heap.size 116 [.int .i64 (x : Int), .slice (some ⟨gs, 0, none⟩) sy.length cs] := GR.out.row _ rfl
      have HFIN := Lib.hid hfin
      clear hfin
      go_wp2_with (first | (refine wpList_load_addr rfl 116 _ rfl _ rfl [.int .i64 (x : Int), .slice (some ⟨gs, 0, none⟩) sy.length cs] HC.out Try.underlying116 rfl (by rw [size_rtree]; rfl) ?_) | (refine wpList_store_blk rfl 116 _ _ rfl w.heap.size [.int .i64 (x : Int), .slice (some ⟨gs, 0, none⟩) sy.length cs] rfl rfl GR.out (by rw [size_rtree]; rfl) rfl (by simp [Value.oneCell']) ?_))
      refine bodyPost_ret (results_blk_tmp rfl _ _ _ rfl _ rfl HFIN.out Try.underlying116 rfl (by rw [size_rtree]; rfl)) rfl ⟨_, rfl, HOWN.out.rowOther _ _ (fun b hb => by have := (HLO.out b hb).1; omega), below_setRow GB.out (Nat.le_refl _) _⟩
end Go.Proofs.Ytpjihjbgihionaa
namespace Go.Proofs.Ytpjihjbgihionaa
open Go.RowKit
set_option linter.unusedVariables false

/-- one more for each of the symbols -/
def bumpL (out : List Nat) (sy : List Nat) : List Nat := sy.foldl (fun L s => L.set s (L.getD s 0 + 1)) out
theorem bumpL_len (sy : List Nat) : ∀ out, (bumpL out sy).length = out.length := by
  induction sy with
  | nil => intro out; rfl
  | cons s sy ih => intro out; show (bumpL (out.set s (out.getD s 0 + 1)) sy).length = _; rw [ih, List.length_set]
theorem bumpL_snoc (out sy : List Nat) (s : Nat) : bumpL out (sy ++ [s]) = (bumpL out sy).set s ((bumpL out sy).getD s 0 + 1) := by
  unfold bumpL
  rw [List.foldl_append]
  rfl
theorem bumpL_getD (j : Nat) : ∀ (sy out : List Nat), sy.Nodup → (∀ s ∈ sy, s < out.length) → (bumpL out sy).getD j 0 = out.getD j 0 + if j ∈ sy then 1 else 0
  | [], out, _, _ => rfl
  | s :: sy, out, hn, hl => by
    have h1 := List.nodup_cons.1 hn
    have hs := hl s (by simp)
    show (bumpL (out.set s (out.getD s 0 + 1)) sy).getD j 0 = _
    rw [bumpL_getD j sy _ h1.2 (fun x hx => by rw [List.length_set]; exact hl x (by simp [hx])), getD_set _ _ _ _ hs]
    by_cases e : s = j
    · subst e
      rw [if_pos rfl, if_neg h1.1, if_pos (by simp)]
    · rw [if_neg e]
      by_cases hj : j ∈ sy
      · rw [if_pos hj, if_pos (by simp [hj])]
      · rw [if_neg hj, if_neg (by simp [hj]; exact fun h => e h.symm)]
/-- trees in order, whose symbols' depths will be D -/
structure RS (D : Nat → Nat) (U : List Nat) (n f c : Nat) (T : List RT) (out : List Nat) : Prop where
  ok : OkT c (T.map RT.key)
  fu : T.length ≤ f + 1
  deep : ∀ t ∈ T, ∀ s ∈ t.syms, out.getD s 0 + deepT f c (T.map RT.key) t.tag = D s
  perm : (T.flatMap RT.syms).Perm U
  nd : U.Nodup
  lt : ∀ s ∈ U, s < n
  len : out.length = n
  no : ∀ s, s ∉ U → out.getD s 0 = 0
theorem map_eraseIdx' (T : List RT) (i : Nat) : (T.eraseIdx i).map RT.key = (T.map RT.key).eraseIdx i := by
  induction T generalizing i with
  | nil => rfl
  | cons t T ih =>
    match i with
    | 0 => rfl
    | i + 1 => show t.key :: (T.eraseIdx i).map RT.key = t.key :: (T.map RT.key).eraseIdx i; rw [ih]
theorem erase_perm {T : List RT} : ∀ {i : Nat} {t : RT}, T[i]? = some t → T.Perm (t :: T.eraseIdx i) := by
  induction T with
  | nil => intro i t h; simp at h
  | cons u T ih =>
    intro i t h
    match i, h with
    | 0, h => cases h; exact List.Perm.refl _
    | i + 1, h => exact ((ih (i := i) (t := t) h).cons u).trans (List.Perm.swap t u _)
theorem key_at {T : List RT} {i : Nat} {t : RT} (h : T[i]? = some t) : (T.map RT.key).getD i (0, 0) = t.key := by
  rw [List.getD_eq_getElem?_getD, List.getElem?_map, h]
  rfl
/-- the two that go -/
theorem RS.pick {D : Nat → Nat} {U : List Nat} {n f c : Nat} {T : List RT} {out : List Nat} (h : RS D U n f c T out) (h2 : 2 ≤ T.length) :
    ∃ a b, T[lgt (T.map RT.key) T.length]? = some a ∧ (T.eraseIdx (lgt (T.map RT.key) T.length))[lgt ((T.eraseIdx (lgt (T.map RT.key) T.length)).map RT.key) (T.eraseIdx (lgt (T.map RT.key) T.length)).length]? = some b ∧
      pickA (T.map RT.key) = a.key ∧ (T.map RT.key).erase a.key = (T.eraseIdx (lgt (T.map RT.key) T.length)).map RT.key ∧ pickB (T.map RT.key) = b.key ∧
      pickM (T.map RT.key) = ((T.eraseIdx (lgt (T.map RT.key) T.length)).eraseIdx (lgt ((T.eraseIdx (lgt (T.map RT.key) T.length)).map RT.key) (T.eraseIdx (lgt (T.map RT.key) T.length)).length)).map RT.key := by
  have hl : (T.map RT.key).length = T.length := List.length_map _
  have hi := lgt_lt (l := T.map RT.key) (by omega)
  have ha := lgt_all (l := T.map RT.key) (by omega)
  rw [hl] at hi ha
  obtain ⟨a, hat⟩ : ∃ a, T[lgt (T.map RT.key) T.length]? = some a := ⟨_, List.getElem?_eq_getElem hi⟩
  generalize hgi : lgt (T.map RT.key) T.length = i at *
  have hA : pickA (T.map RT.key) = a.key := by unfold pickA; rw [← ha, key_at hat]
  have hE : (T.map RT.key).erase a.key = (T.eraseIdx i).map RT.key := by
    rw [map_eraseIdx', ← key_at hat]
    exact erase_idx h.ok.nodup (by omega)
  have hl1 : (T.eraseIdx i).length = T.length - 1 := by rw [List.length_eraseIdx, if_pos hi]
  have hl2 : ((T.eraseIdx i).map RT.key).length = (T.eraseIdx i).length := List.length_map _
  have hj := lgt_lt (l := (T.eraseIdx i).map RT.key) (by omega)
  have hb := lgt_all (l := (T.eraseIdx i).map RT.key) (by omega)
  rw [hl2] at hj hb
  obtain ⟨b, hbt⟩ : ∃ b, (T.eraseIdx i)[lgt ((T.eraseIdx i).map RT.key) (T.eraseIdx i).length]? = some b := ⟨_, List.getElem?_eq_getElem hj⟩
  have hB : pickB (T.map RT.key) = b.key := by
    unfold pickB
    rw [show light (T.map RT.key) = a.key from hA, hE, ← hb, key_at hbt]
  refine ⟨a, b, hat, hbt, hA, hE, hB, ?_⟩
  unfold pickM
  rw [hA, hB, hE, map_eraseIdx' (T.eraseIdx i), ← key_at hbt]
  exact erase_idx (by rw [← hE]; exact (h.ok.erase _).nodup) (by omega)
theorem RS.step {D : Nat → Nat} {U : List Nat} {n f c : Nat} {T T2 : List RT} {out : List Nat} {a b : RT} {i j g cap : Nat} (h : RS D U n (f + 1) c T out) (h2 : 2 ≤ T.length) (ha : T[i]? = some a) (hb : (T.eraseIdx i)[j]? = some b) (hT2 : (T.eraseIdx i).eraseIdx j = T2)
    (hA : pickA (T.map RT.key) = a.key) (hB : pickB (T.map RT.key) = b.key) (hM : pickM (T.map RT.key) = T2.map RT.key) :
    RS D U n f (c + 1) (T2 ++ [⟨a.wt + b.wt, c, a.syms ++ b.syms, g, cap⟩]) (bumpL out (a.syms ++ b.syms)) ∧ (a.syms ++ b.syms).Nodup ∧ (∀ s ∈ a.syms ++ b.syms, s < n) := by
  obtain ⟨ok, fu, deep, perm, nd, lt, len, no⟩ := h
  have p1 : T.Perm (a :: b :: T2) := by
    have q1 := erase_perm ha
    have q2 := erase_perm hb
    rw [hT2] at q2
    exact q1.trans (q2.cons a)
  have hlen2 := p1.length_eq
  have hkey : (T2 ++ [(⟨a.wt + b.wt, c, a.syms ++ b.syms, g, cap⟩ : RT)]).map RT.key = nextT c (T.map RT.key) := by
    unfold nextT both
    rw [List.map_append, hM, hA, hB]
    rfl
  have hp2 : ((a :: b :: T2).flatMap RT.syms).Perm U := (p1.symm.flatMap_right _).trans perm
  have hfl : (a :: b :: T2).flatMap RT.syms = (a.syms ++ b.syms) ++ T2.flatMap RT.syms := by simp
  rw [hfl] at hp2
  have hnd : ((a.syms ++ b.syms) ++ T2.flatMap RT.syms).Nodup := hp2.nodup_iff.2 nd
  have hn1 := List.nodup_append.1 hnd
  have hlt1 : ∀ s ∈ a.syms ++ b.syms, s < n := fun s hs => lt s (hp2.subset (List.mem_append_left _ hs))
  have hlk : 2 ≤ (T.map RT.key).length := by rw [List.length_map]; exact h2
  have bump := fun s => bumpL_getD s (a.syms ++ b.syms) out hn1.1 (fun s hs => by rw [len]; exact hlt1 s hs)
  refine ⟨⟨by rw [hkey]; exact nextT_ok ok, ?_, ?_, ?_, nd, lt, by rw [bumpL_len]; exact len, ?_⟩, hn1.1, hlt1⟩
  · rw [List.length_append, List.length_singleton]
    simp only [List.length_cons] at hlen2
    omega
  · intro t ht s hs
    rw [hkey, bump s]
    rcases List.mem_append.1 ht with ht | ht
    · have htT : t ∈ T := p1.symm.subset (by simp [ht])
      have hno : s ∉ a.syms ++ b.syms := fun hs' => (hn1.2.2 s hs' s (List.mem_flatMap.2 ⟨t, ht, hs⟩)) rfl
      rw [if_neg hno, Nat.add_zero, ← deep t htT s hs]
      have htk : t.key ∈ pickM (T.map RT.key) := by rw [hM]; exact List.mem_map_of_mem ht
      rw [show t.tag = t.key.2 from rfl, deepT_m ok hlk htk]
    · rw [List.mem_singleton.1 ht] at hs ⊢
      show out.getD s 0 + _ + deepT f (c + 1) (nextT c (T.map RT.key)) c = D s
      have hs' : s ∈ a.syms ++ b.syms := hs
      rw [if_pos hs']
      rcases List.mem_append.1 hs' with hsa | hsb
      · have := deep a (p1.symm.subset (by simp)) s hsa
        rw [show a.tag = (pickA (T.map RT.key)).2 by rw [hA]; rfl, deepT_a hlk] at this
        omega
      · have := deep b (p1.symm.subset (by simp)) s hsb
        rw [show b.tag = (pickB (T.map RT.key)).2 by rw [hB]; rfl, deepT_b hlk] at this
        omega
  · have : (T2 ++ [(⟨a.wt + b.wt, c, a.syms ++ b.syms, g, cap⟩ : RT)]).flatMap RT.syms = T2.flatMap RT.syms ++ (a.syms ++ b.syms) := by simp
    rw [this]
    exact List.perm_append_comm.trans hp2
  · intro s hs
    rw [bump s, no s hs, if_neg (fun h' => hs (hp2.subset (List.mem_append_left _ h')))]
/-- one tree is left, or none -/
theorem RS.done {fr : List Nat} {f c : Nat} {T : List RT} {out : List Nat} (h : RS (fun s => deepT fr.length fr.length (treesF fr) s) (symsF fr fr.length) fr.length f c T out) (h1 : T.length ≤ 1) (h2 : 2 ≤ (treesF fr).length) : out = depthsF fr := by
  refine getD_ext fr.length h.len (depthsF_len fr) fun s hs => ?_
  rw [depthsF_getD hs]
  unfold depF
  by_cases e : 0 < fr.getD s 0
  · rw [if_neg (by omega), if_neg (by omega)]
    have hm : s ∈ symsF fr fr.length := symsF_pos.2 ⟨hs, e⟩
    obtain ⟨t, ht, hst⟩ := List.mem_flatMap.1 (h.perm.symm.subset hm)
    have := h.deep t ht s hst
    rw [deepT_end (by rw [List.length_map]; exact h1)] at this
    exact this
  · rw [if_pos (by omega)]
    exact h.no s (fun hm => e (symsF_pos.1 hm).2)
end Go.Proofs.Ytpjihjbgihionaa
namespace Go.Proofs.Ytpjihjbgihionaa
open Go.RowKit
set_option linter.unusedVariables false

/-- trees' symbols lie where they did, and not in o -/
def TrsO (w : World) (B : Nat) (o : Option Nat) (T : List RT) : Prop := ∀ t ∈ T, (∃ rest, Blk w t.g 3 (ints .i64 (nn t.syms) ++ rest)) ∧ B ≤ t.g ∧ o ≠ some t.g
theorem TrsO.nil (w : World) (B : Nat) (o : Option Nat) : TrsO w B o [] := fun t h => by cases h
theorem TrsO.grown {w w' : World} {B : Nat} {o o' q : Option Nat} {T : List RT} (h : TrsO w B o T) (hg : w.grownBy w' q) (hq : ∀ t ∈ T, q ≠ some t.g) (ho : o' = o ∨ o' = some w.heap.size) : TrsO w' B o' T := fun t ht => by
  obtain ⟨⟨rest, h1⟩, h2, h3⟩ := h t ht
  refine ⟨⟨rest, (hg.block t.g h1.lt (fun e => hq t ht e.symm)).trans h1⟩, h2, fun e => ?_⟩
  rcases ho with rfl | rfl
  · exact h3 e
  · have h4 := h1.lt
    have e2 := Option.some.inj e
    omega
theorem TrsO.below {w w' : World} {B : Nat} {o : Option Nat} {T : List RT} (h : TrsO w B o T) (hb : Below w.heap.size w w') : TrsO w' B o T := fun t ht => by
  obtain ⟨⟨rest, h1⟩, h2, h3⟩ := h t ht
  exact ⟨⟨rest, h1.below hb h1.lt⟩, h2, h3⟩
theorem TrsO.sub {w : World} {B : Nat} {o : Option Nat} {T T' : List RT} (h : TrsO w B o T) (hs : ∀ t ∈ T', t ∈ T) : TrsO w B o T' := fun t ht => h t (hs t ht)
theorem TrsO.own {w : World} {B base : Nat} {o : Option Nat} {T : List RT} (h : TrsO w B o T) {v : Value} {k : Nat} {rows : List (List Value)} (hv : OwnR w base 116 k v rows) : ∀ t ∈ T, v.ownBlock ≠ some t.g := fun t ht e => by
  obtain ⟨⟨rest, h1⟩, _⟩ := h t ht
  exact hv.ne h1 (by decide) _ e rfl
theorem TrsO.add {w : World} {B : Nat} {o : Option Nat} {T : List RT} {t : RT} (h : TrsO w B o T) (ht : (∃ rest, Blk w t.g 3 (ints .i64 (nn t.syms) ++ rest)) ∧ B ≤ t.g ∧ o ≠ some t.g) : TrsO w B o (T ++ [t]) := fun u hu => by
  rcases List.mem_append.1 hu with hu | hu
  · exact h u hu
  · rw [List.mem_singleton.1 hu]; exact ht
theorem TrsO.alloc {w : World} {B : Nat} {o : Option Nat} {T : List RT} (h : TrsO w B o T) (x : Obj) : TrsO (w.alloc x) B o T := h.below ((Below.refl _ _).alloc (Nat.le_refl _) x)
/-- a leaf is made: its symbols' slice, its row's slice -/
theorem leaf_new {w : World} {B : Nat} {u : Value} {o : Option Nat} {T : List RT} (j q : Nat) (hu : OwnR w B 116 2 u (rowsT T)) (hT : TrsO w B o T) (hb : B ≤ w.heap.size) (ho : ∀ b, o = some b → b < w.heap.size) (wb : World) (hwb : (w.alloc (.cells #[.int .i64 (j : Int)] 3)).alloc (.cells #[.int .i64 (q : Int), .slice (some ⟨w.heap.size, 0, none⟩) 1 1] 116) = wb) :
    OwnR wb B 116 2 u (rowsT T) ∧ TrsO wb B o (T ++ [⟨q, j, [j], w.heap.size, 1⟩]) ∧ Sl wb 2 (.slice (some ⟨w.heap.size + 1, 0, none⟩) 1 1) [[.int .i64 (q : Int), .slice (some ⟨w.heap.size, 0, none⟩) 1 1]] ∧ Below w.heap.size w wb := by
  subst hwb
  have k1 := (Blk.new' w 3 (c := #[.int .i64 (j : Int)]) [.int .i64 (j : Int)] rfl).alloc (.cells #[.int .i64 (q : Int), .slice (some ⟨w.heap.size, 0, none⟩) 1 1] 116)
  have k2 : Blk ((w.alloc (.cells #[.int .i64 (j : Int)] 3)).alloc (.cells #[.int .i64 (q : Int), .slice (some ⟨w.heap.size, 0, none⟩) 1 1] 116)) (w.heap.size + 1) 116 [.int .i64 (q : Int), .slice (some ⟨w.heap.size, 0, none⟩) 1 1] := Blk.newAt _ _ (by simp) _ _ rfl
  refine ⟨(hu.alloc _).alloc _, ((hT.alloc _).alloc _).add ⟨⟨[], by rw [List.append_nil]; exact k1⟩, hb, fun e => ?_⟩, sl_one k2, ((Below.refl _ _).alloc (Nat.le_refl _) _).alloc (by simp) _⟩
  have := ho _ e
  exact absurd this (Nat.lt_irrefl _)
theorem zerN_snoc (n : Nat) : zerN (n + 1) = zerN n ++ [0] := by unfold zerN; rw [List.replicate_succ']
theorem Blk.slNS {w : World} {g : Nat} {t : TypeId} {l : List Nat} {rest : List Value} (h : Blk w g t (ints .i64 (nn l) ++ rest)) (cap : Nat) : Sl w 1 (.slice (some ⟨g, 0, none⟩) l.length cap) (rowsN l) := by
  have fl : ∀ l : List Nat, (rowsN l).flatten = ints .i64 (nn l) := fun l => by
    induction l with
    | nil => rfl
    | cons n l ih =>
      have e : rowsN (n :: l) = [.int .i64 (n : Int)] :: rowsN l := rfl
      rw [e, List.flatten_cons, ih]
      rfl
  rw [← fl] at h
  have := sl_blkS (k := 1) (cap := cap) (fun r hr => by simp only [rowsN, List.mem_map] at hr; obtain ⟨n, _, rfl⟩ := hr; rfl) h
  rw [rowsN_len] at this
  exact this
theorem Blk.natS {w : World} {g : Nat} {t : TypeId} {l : List Nat} {rest : List Value} (h : Blk w g t (ints .i64 (nn l) ++ rest)) {j : Nat} (hj : j < l.length) : w.cell? ⟨g, j, none⟩ = some (.int .i64 ((l.getD j 0 : Nat) : Int)) := by
  rw [h.cell, List.getElem?_append_left (by rw [ints_length, nn_length]; exact hj)]
  unfold ints nn
  simp [hj]
theorem Blk.setS {w : World} {g : Nat} {t : TypeId} {l : List Nat} {rest : List Value} (h : Blk w g t (ints .i64 (nn l) ++ rest)) {j : Nat} (hj : j < l.length) (n : Nat) : Blk (w.setCell ⟨g, j, none⟩ (.int .i64 (n : Int))) g t (ints .i64 (nn (l.set j n)) ++ rest) := by
  have := h.set j (.int .i64 (n : Int))
  rwa [List.set_append_left _ _ (by rw [ints_length, nn_length]; exact hj), ints_set, nn_set] at this
theorem rowsN_flat (l : List Nat) : (rowsN l).flatten = ints .i64 (nn l) := by
  induction l with
  | nil => rfl
  | cons n l ih =>
    have e : rowsN (n :: l) = [.int .i64 (n : Int)] :: rowsN l := rfl
    rw [e, List.flatten_cons, ih]
    rfl
theorem rowsN_app (a b : List Nat) : rowsN (a ++ b) = rowsN a ++ rowsN b := by simp [rowsN]
theorem rowsN_one (a : List Nat) : ∀ r ∈ rowsN a, ∀ u ∈ r, u.oneCell' = true := fun r hr u hu => by
  simp only [rowsN, List.mem_map] at hr
  obtain ⟨n, _, rfl⟩ := hr
  rw [List.mem_singleton.1 hu]
  rfl
theorem TrsO.cell {w : World} {B : Nat} {o : Option Nat} {T : List RT} (h : TrsO w B o T) (b j : Nat) (u : Value) {vs : List Value} (hb : Blk w b 116 vs) : TrsO (w.setCell ⟨b, j, none⟩ u) B o T := h.grown (grown_setCell w ⟨b, j, none⟩ u) (fun t ht e => by
  have e' : b = t.g := Option.some.inj e
  obtain ⟨⟨rest, h1⟩, _⟩ := h t ht
  rw [← e'] at h1
  unfold Blk at hb h1
  rw [hb] at h1
  simp at h1) (.inl rfl)
/-- depths are handed back -/
def DepRet (L : List Nat) (w : World) (e : Ending) (w' : World) : Prop := ∃ v, e = .returned v ∧ OwnR w' w.heap.size 3 1 v (rowsN L) ∧ Below w.heap.size w w'
end Go.Proofs.Ytpjihjbgihionaa
namespace Go.Proofs.Ytpjihjbgihionaa
open Go.RowKit
set_option linter.unusedVariables false

set_option maxRecDepth 100000 in
set_option maxHeartbeats 4000000 in
theorem r_depths (fr : List Nat) (p : Option Addr) (cap : Nat) (w : World) (hl : fr.length ≤ 300) (hf : ∀ i, fr.getD i 0 ≤ 1048576) (hS : Sl w 1 (.slice p fr.length cap) (rowsN fr)) :
    Calls Try.prog 39 #[.slice p fr.length cap] w (DepRet (depthsF fr) w) := by
  obtain ⟨i0, hi0, hz0, hz1, hz2⟩ := info_parts2 info_int
  obtain ⟨i1, hi1, hy0, hy1, hy2⟩ := info_parts2 info_tree
  have HS := Lib.hid hS
  have HF := Lib.hid hf
  obtain ⟨w1, hw1⟩ : ∃ w1, (w.alloc (.cells #[] 3)).alloc (.cells #[] 116) = w1 := ⟨_, rfl⟩
  have k3 : OwnR w1 w.heap.size 3 1 (.slice (some ⟨w.heap.size, 0, none⟩) 0 0) (rowsN (zerN 0)) := by rw [← hw1]; exact (OwnR.empty w w.heap.size 3 1 (Nat.le_refl _)).alloc _
  have k4 : OwnR w1 w.heap.size 116 2 (.slice (some ⟨w.heap.size + 1, 0, none⟩) 0 0) (rowsT []) := by
    rw [← hw1]
    have := OwnR.empty (w.alloc (.cells #[] 3)) w.heap.size 116 2 (by simp)
    simpa [rowsT] using this
  have kb : Below w.heap.size w w1 := by rw [← hw1]; exact ((Below.refl _ _).alloc (Nat.le_refl _) _).alloc (by simp) _
  have K3 := Lib.hid k3
  have K4 := Lib.hid k4
  have KB := Lib.hid kb
  have HW1 := Lib.hid hw1
  clear hS hf k3 k4 kb hw1
  go_enter Try.func39, Try.ntmps39
  go_wp2
  rw [HW1.out]
  go_loopw [3, 4, 5] (fun o u i wr => ∃ (j : Nat) (T : List RT), j ≤ fr.length ∧ i = .int .i64 (j : Int) ∧ T.map RT.key = (symsF fr j).map (fun s => (fr.getD s 0, s)) ∧ (∀ t ∈ T, t.syms = [t.tag]) ∧ TrsO wr w.heap.size o.ownBlock T ∧ OwnR wr w.heap.size 3 1 o (rowsN (zerN j)) ∧ OwnR wr w.heap.size 116 2 u (rowsT T) ∧ Below w.heap.size w wr) (fun _ _ i _ => fr.length - (intOf i).toNat)
  case atStart => exact ⟨0, [], by omega, rfl, rfl, (fun t h => by cases h), TrsO.nil _ _ _, K3.out, K4.out, KB.out⟩
  case round =>
    obtain ⟨j, T, hj, rfl, hTk, hTs, gT, g3, g4, gb⟩ := hrel
    clear K3 K4 KB HW1
    by_cases hlt : j < fr.length
    · have d1 : (j : Int) < (fr.length : Int) := by omega
      obtain ⟨a, rfl, hc⟩ := SlN.cell (HS.out.below gb) hlt
      have hq20 := HF.out j
      have hzs : rowsN (zerN (j + 1)) = rowsN (zerN j) ++ [[.int .i64 0]] := by rw [zerN_snoc, rowsN_snoc]; rfl
      have hrl : (rowsN (zerN j)).length = j := by rw [rowsN_len, zerN_len]
      have hTl : T.length ≤ j := by
        have h1 := congrArg List.length hTk
        rw [List.length_map, List.length_map] at h1
        have h2 : (symsF fr j).length ≤ j := by unfold symsF; exact Nat.le_trans (List.length_filter_le _ _) (by rw [List.length_range]; exact Nat.le_refl _)
        omega
      have hsy := fun h => symsF_yes (fr := fr) (j := j) h
      have hsn := fun h => symsF_no (fr := fr) (j := j) h
      obtain ⟨q, hq⟩ : ∃ q, fr.getD j 0 = q := ⟨_, rfl⟩
      rw [hq] at hc hq20
      have hnb := Blk.new' wr 3 (c := #[.int .i64 0]) [.int .i64 0] rfl
      have hnews := sl_one hnb
      have hown := g3.alloc (.cells #[.int .i64 0] 3)
      have hua := g4.alloc (.cells #[.int .i64 0] 3)
      have hta := gT.alloc (.cells #[.int .i64 0] 3)
      have hap := hua.apart hown (by decide)
      have hlo := g3.lt
      have hlu := g4.lt
      have hgb := gb.alloc gb.size (.cells #[.int .i64 0] 3)
      have hbase : w.heap.size ≤ (wr.alloc (.cells #[.int .i64 0] 3)).heap.size := hgb.size
      have hone : ∀ r ∈ [[Value.int .i64 0]], ∀ u ∈ r, u.oneCell' = true := by simp [Value.oneCell']
      have hlen : (rowsN (zerN j)).length + [[Value.int .i64 0]].length ≤ maxLen := by rw [hrl, List.length_singleton]; unfold maxLen; omega
      have hby : ((rowsN (zerN j)).length + [[Value.int .i64 0]].length) * 8 ≤ 140737488355328 := by rw [hrl, List.length_singleton]; omega
      have HONE := Lib.hid hone
      have HLEN := Lib.hid hlen
      have HBY := Lib.hid hby
      have HOW := Lib.hid hown
      have HNW := Lib.hid hnews
      have HLO := Lib.hid hlo
      have HLU := Lib.hid hlu
      have HGB := Lib.hid hgb
      have HBA := Lib.hid hbase
      have HUA := Lib.hid hua
      have HTA := Lib.hid hta
      have HAP := Lib.hid hap
      have HQ := Lib.hid hq
      have HZS := Lib.hid hzs
      have HTK := Lib.hid hTk
      have HTS := Lib.hid hTs
      have HTL := Lib.hid hTl
      have HSY := Lib.hid hsy
      have HSN := Lib.hid hsn
      clear hone hlen hby hnb hnews hown hlo hlu hgb hbase hua hta hap hq hzs hTk hTs hTl hsy hsn g3 g4 gT gb hrl
      by_cases hq0 : 0 < q
      · have e0 : (0 : Int) < (q : Int) := by omega
        have hone2 : ∀ b, ∀ r ∈ [[Value.int .i64 (q : Int), .slice (some ⟨b, 0, none⟩) 1 1]], ∀ u ∈ r, u.oneCell' = true := fun b => by simp [Value.oneCell']
        have hlen2 : ∀ b, (rowsT T).length + [[Value.int .i64 (q : Int), .slice (some ⟨b, 0, none⟩) 1 1]].length ≤ maxLen := fun b => by rw [rowsT_len, List.length_singleton]; unfold maxLen; have := HTL.out; omega
        have hby2 : ∀ b, ((rowsT T).length + [[Value.int .i64 (q : Int), .slice (some ⟨b, 0, none⟩) 1 1]].length) * 32 ≤ 140737488355328 := fun b => by rw [rowsT_len, List.length_singleton]; have := HTL.out; omega
        have HONE2 := Lib.hid hone2
        have HLEN2 := Lib.hid hlen2
        have HBY2 := Lib.hid hby2
        clear hone2 hlen2 hby2
        go_wp2_with (first | (refine wpList_append_rows rfl _ _ 35 rfl w.heap.size 3 i0 (.int .i64 0) 1 8 Try.underlying35 hi0 hz0 hz1 hz2 rfl (by decide) _ (rowsN (zerN j)) rfl HOW.out (.slice (some ⟨wr.heap.size, 0, none⟩) 1 1) [[.int .i64 0]] rfl HNW.out HONE.out HLEN.out HBY.out HBA.out (.inr ⟨_, _, _, rfl⟩) ?_; intro v' w5 ho5 hg5 hv5; have gb5 := HGB.out.grown hg5 HBA.out (fun k e => (HLO.out k e).1); obtain ⟨a', ha', hc5⟩ := SlN.cell (HS.out.below gb5) hlt; cases ha'; rw [HQ.out] at hc5; have GT5 := Lib.hid (HTA.out.grown hg5 (fun t ht => (HTA.out t ht).2.2) hv5); have G45 := Lib.hid (HUA.out.grownO hg5 HAP.out); have hlo5 := ho5.lt; have HLO5 := Lib.hid hlo5; clear hlo5; have GB5 := Lib.hid gb5; have HO5 := Lib.hid ho5; clear hg5 ho5 gb5 hv5; obtain ⟨wb, hwb⟩ : ∃ wb, (w5.alloc (.cells #[.int .i64 (j : Int)] 3)).alloc (.cells #[.int .i64 (q : Int), .slice (some ⟨w5.heap.size, 0, none⟩) 1 1] 116) = wb := ⟨_, rfl⟩; obtain ⟨lf1, lf2, lf3, lf4⟩ := leaf_new j q G45.out GT5.out GB5.out.size (fun b hb => (HLO5.out b hb).2) wb hwb; have LF1 := Lib.hid lf1; have LF2 := Lib.hid lf2; have LF3 := Lib.hid lf3; have LB := Lib.hid (GB5.out.trans (lf4.mono GB5.out.size)); have LBS := Lib.hid LB.out.size; have LO := Lib.hid (HO5.out.keep lf4); have LAP := Lib.hid (LO.out.apart lf1 (by decide)); have HWB := Lib.hid hwb; clear lf1 lf2 lf3 lf4 hwb) | (rw [HWB.out]; refine wpList_append_rows rfl _ _ 114 rfl w.heap.size 116 i1 (.agg #[.int .i64 0, .slice none 0 0]) 2 32 Try.underlying114 hi1 hy0 hy1 hy2 rfl (by decide) _ (rowsT T) rfl LF1.out (.slice (some ⟨w5.heap.size + 1, 0, none⟩) 1 1) [[.int .i64 (q : Int), .slice (some ⟨w5.heap.size, 0, none⟩) 1 1]] rfl LF3.out (HONE2.out _) (HLEN2.out _) (HBY2.out _) LBS.out (.inr ⟨_, _, _, rfl⟩) ?_; intro v8 w8 ho8 hg8 hv8; have gb8 := Lib.hid (LB.out.grown hg8 LBS.out (fun k e => (LF1.out.lt k e).1)); have gT8 := Lib.hid (LF2.out.grown hg8 (LF2.out.own LF1.out) (.inl rfl)); have g38 := Lib.hid (LO.out.grownO hg8 LAP.out); have HO8 := Lib.hid ho8; clear hg8 ho8 hv8))
        go_roundw
        case rel => exact ⟨j + 1, T ++ [⟨q, j, [j], w5.heap.size, 1⟩], by omega, by go_num, by rw [HSY.out (by rw [HQ.out]; exact hq0), List.map_append, List.map_append, HTK.out]; show _ ++ [(q, j)] = _ ++ [(fr.getD j 0, j)]; rw [HQ.out], (fun t ht => by rcases List.mem_append.1 ht with ht | ht; exact HTS.out t ht; rw [List.mem_singleton.1 ht]), gT8.out, by rw [HZS.out]; exact g38.out, by rw [show rowsT (T ++ [⟨q, j, [j], w5.heap.size, 1⟩]) = rowsT T ++ [[.int .i64 (q : Int), .slice (some ⟨w5.heap.size, 0, none⟩) 1 1]] by simp [rowsT, RT.row, RT.v]]; exact HO8.out, gb8.out⟩
        case measure => simp [intOf]; omega
      · have e0 : ¬ (0 : Int) < (q : Int) := by omega
        go_wp2_with (first | (refine wpList_append_rows rfl _ _ 35 rfl w.heap.size 3 i0 (.int .i64 0) 1 8 Try.underlying35 hi0 hz0 hz1 hz2 rfl (by decide) _ (rowsN (zerN j)) rfl HOW.out (.slice (some ⟨wr.heap.size, 0, none⟩) 1 1) [[.int .i64 0]] rfl HNW.out HONE.out HLEN.out HBY.out HBA.out (.inr ⟨_, _, _, rfl⟩) ?_; intro v' w5 ho5 hg5 hv5; have gb5 := HGB.out.grown hg5 HBA.out (fun k e => (HLO.out k e).1); obtain ⟨a', ha', hc5⟩ := SlN.cell (HS.out.below gb5) hlt; cases ha'; rw [HQ.out] at hc5; have GT5 := Lib.hid (HTA.out.grown hg5 (fun t ht => (HTA.out t ht).2.2) hv5); have G45 := Lib.hid (HUA.out.grownO hg5 HAP.out); have hlo5 := ho5.lt; have HLO5 := Lib.hid hlo5; clear hlo5; have GB5 := Lib.hid gb5; have HO5 := Lib.hid ho5; clear hg5 ho5 gb5 hv5))
        go_roundw
        case rel => exact ⟨j + 1, T, by omega, by go_num, by rw [HSN.out (by rw [HQ.out]; exact hq0)]; exact HTK.out, HTS.out, GT5.out, by rw [HZS.out]; exact HO5.out, G45.out, GB5.out⟩
        case measure => simp [intOf]; omega
    · obtain rfl : j = fr.length := by omega
      have hTl : T.length = (treesF fr).length := by
        have := congrArg List.length hTk
        rw [List.length_map, List.length_map] at this
        rw [this, treesF_symsL]
      have hsl : (symsF fr fr.length).length = T.length := by rw [hTl, treesF_symsL]
      obtain ⟨p4, c4, e4⟩ := g4.isSlice
      rw [rowsT_len] at e4
      subst e4
      obtain ⟨p3, c3, e3⟩ := g3.isSlice
      rw [rowsN_len, zerN_len] at e3
      subst e3
      have HTK := Lib.hid hTk
      have HTS := Lib.hid hTs
      have HTL := Lib.hid hTl
      have HSL := Lib.hid hsl
      have GT := Lib.hid gT
      have G3 := Lib.hid g3
      have G4 := Lib.hid g4
      have GB := Lib.hid gb
      have hz : (rowsN (zerN fr.length)).length = fr.length := by rw [rowsN_len, zerN_len]
      clear hTk hTs hTl hsl gT g3 g4 gb hlt
      rcases Nat.lt_trichotomy T.length 1 with hT | hT | hT
      · have h0 : T.length = 0 := by omega
        have hdn := deps_none (fr := fr) (by rw [HSL.out]; exact h0)
        have HDN := Lib.hid hdn
        rw [h0]
        clear hdn hT
        go_wp2
        go_loop [4] (fun u => u = .slice p4 0 c4) (fun _ => 0)
        case atStart => rfl
        case round =>
          subst hrel
          go_wp2
          go_ret
          exact ⟨_, rfl, by rw [← HDN.out]; exact G3.out, GB.out⟩
      · obtain ⟨t, hTt⟩ : ∃ t, T = [t] := List.length_eq_one_iff.1 hT
        subst hTt
        have hsf : symsF fr fr.length = [t.tag] := by
          have h1 := congrArg (List.map Prod.snd) HTK.out
          simp only [List.map_map, List.map_cons, List.map_nil] at h1
          have h2 : (List.map (Prod.snd ∘ fun s => (fr.getD s 0, s)) (symsF fr fr.length)) = symsF fr fr.length := List.map_id' _
          rw [h2] at h1
          exact h1.symm
        have hd1 := deps_one hsf
        have htl := symsF_pos.1 (show t.tag ∈ symsF fr fr.length by rw [hsf]; simp)
        obtain ⟨g, cg, rest, hv, hgw, hgl, hG, hback⟩ := G3.out.blkN (by rw [zerN_len]; omega)
        rw [zerN_len] at hv
        cases hv
        obtain ⟨⟨rs, hB⟩, _, _⟩ := GT.out t (by simp)
        have hts := HTS.out t (by simp)
        rw [hts] at hB
        obtain ⟨b4, c4', r4, hv4, _, hB4⟩ := G4.out.blkR (by rw [rowsT_len]; exact Nat.one_pos)
        rw [rowsT_len] at hv4
        cases hv4
        have hrv : t.row = [.int .i64 (t.wt : Int), .slice (some ⟨t.g, 0, none⟩) 1 t.cap] := by unfold RT.row RT.v; rw [hts]; rfl
        have hfl : (rowsT [t]).flatten = [.int .i64 (t.wt : Int), .slice (some ⟨t.g, 0, none⟩) 1 t.cap] := by unfold rowsT; rw [List.map_cons, List.map_nil, hrv]; rfl
        rw [hfl] at hB4
        have c1 : wr.cell? ⟨b4, 1, none⟩ = some (.slice (some ⟨t.g, 0, none⟩) 1 t.cap) := hB4.cell 1
        have c2 : wr.cell? ⟨t.g, 0, none⟩ = some (.int .i64 (t.tag : Int)) := hB.cell 0
        have c3 : wr.cell? ⟨g, t.tag, none⟩ = some (.int .i64 0) := by
          rw [hG.cell, List.getElem?_append_left (by rw [ints_length, nn_length, zerN_len]; exact htl.1)]
          unfold ints nn zerN
          simp [htl.1]
        have f3 := hG.free t.tag
        have hs1 := hG.set t.tag (.int .i64 1)
        rw [List.set_append_left _ _ (by rw [ints_length, nn_length, zerN_len]; exact htl.1), ints_set, show (1 : Int) = ((1 : Nat) : Int) from rfl, nn_set] at hs1
        have ho := hback _ _ (by rw [List.length_set]) hs1
        rw [hd1] at ho
        have hbb := GB.out.setCell (p := ⟨g, t.tag, none⟩) hgw (.int .i64 ((1 : Nat) : Int))
        have HO := Lib.hid ho
        have HBB := Lib.hid hbb
        have itl : (t.tag : Int) < (fr.length : Int) := by omega
        have hT1 : ([t] : List RT).length = 1 := rfl
        rw [hT1]
        clear hsf hd1 hG hback hB hts hrv hfl hB4 hs1 ho hbb hT
        go_wp2
        go_loop [4] (fun u => u = .slice (some ⟨b4, 0, none⟩) 1 c4) (fun _ => 0)
        case atStart => rfl
        case round =>
          subst hrel
          go_wp2
          go_ret
          exact ⟨_, rfl, HO.out, HBB.out⟩
      · have h2 : 2 ≤ (treesF fr).length := by rw [← HTL.out]; omega
        have hd1n : decide (T.length = 1) = false := by simp; omega
        have hd1 : ((T.length : Int) == 1) = false := by rw [beq_eq_false_iff_ne]; omega
        have hfl := treesF_len fr
        have hpos : 0 < fr.length := by omega
        obtain ⟨g, cg, rest, hv, hgw, hgl, hG, hback⟩ := G3.out.blkN (by rw [zerN_len]; exact hpos)
        rw [zerN_len] at hv
        cases hv
        have htk : T.map RT.key = treesF fr := by rw [HTK.out]; rfl
        have hsT : ∀ (T' : List RT), (∀ t ∈ T', t.syms = [t.tag]) → T'.flatMap RT.syms = (T'.map RT.key).map Prod.snd := fun T' => by
          induction T' with
          | nil => intro _; rfl
          | cons t T' ih =>
            intro h
            rw [List.flatMap_cons, h t (by simp), ih (fun u hu => h u (by simp [hu]))]
            rfl
        have hRS : RS (fun s => deepT fr.length fr.length (treesF fr) s) (symsF fr fr.length) fr.length fr.length fr.length T (zerN fr.length) := by
          refine ⟨by rw [htk]; exact treesF_ok fr, by have := HTL.out; omega, fun t ht s hs => ?_, ?_, ?_, fun s hs => (symsF_pos.1 hs).1, zerN_len _, fun s _ => zerN_getD _ _⟩
          · rw [HTS.out t ht, List.mem_singleton] at hs
            rw [hs, zerN_getD, Nat.zero_add, htk]
          · rw [hsT T HTS.out, htk, treesF_syms]
          · unfold symsF
            exact List.nodup_range.filter _
        have hsum : (T.map RT.wt).sum ≤ 300 * 1048576 := by
          have h1 : T.map RT.wt = (treesF fr).map (·.1) := by rw [← htk, List.map_map]; rfl
          have h3 := treesF_sum HF.out
          rw [h1]
          exact Nat.le_trans h3 (Nat.mul_le_mul_right _ hl)
        have HH2 := Lib.hid h2
        have HBK := Lib.hid hback
        have HRS := Lib.hid hRS
        have HSUM := Lib.hid hsum
        have HG := Lib.hid hG
        have hT300 : T.length ≤ 300 := by have := HTL.out; omega
        clear hback hRS hsum hG hsT htk hfl h2
        go_wp2
        go_loopg [4, 6, 7, 8, 9, 10, 11] T.length (fun gm u _ _ _ _ _ _ wr => ∃ (T : List RT) (out : List Nat) (f c : Nat), gm = T.length ∧ 1 ≤ T.length ∧ T.length ≤ 300 ∧ (∀ t ∈ T, 0 < t.syms.length) ∧ RS (fun s => deepT fr.length fr.length (treesF fr) s) (symsF fr fr.length) fr.length f c T out ∧ (T.map RT.wt).sum ≤ 300 * 1048576 ∧ OwnR wr w.heap.size 116 2 u (rowsT T) ∧ TrsO wr w.heap.size (some g) T ∧ Blk wr g 3 (ints .i64 (nn out) ++ rest) ∧ Below w.heap.size w wr)
        case atStart => exact ⟨T, _, _, _, rfl, by omega, by omega, (fun t ht => by rw [HTS.out t ht]; exact Nat.one_pos), HRS.out, HSUM.out, G4.out, GT.out, HG.out, GB.out⟩
        case round =>
          obtain ⟨T', out, f, c, hgm, hT1, hT3, hne', gRS, gsum, g4, gT, gG, gb⟩ := hrel
          clear HG HRS HSUM GT
          by_cases h2 : 2 ≤ T'.length
          · obtain ⟨⟨xa, ta, sa, ga, ca⟩, ⟨xb, tb, sb, gb', cb⟩, ha, hb, hA, hE, hB, hM⟩ := gRS.pick h2
            obtain ⟨i, hi⟩ : ∃ i, lgt (T'.map RT.key) T'.length = i := ⟨_, rfl⟩
            rw [hi] at ha hb hE hM
            obtain ⟨T1, hT1'⟩ : ∃ T1, T'.eraseIdx i = T1 := ⟨_, rfl⟩
            have hil : i < T'.length := (List.getElem?_eq_some_iff.1 ha).1
            have hl1 : T1.length = T'.length - 1 := by rw [← hT1', List.length_eraseIdx, if_pos hil]
            have HL1 := Lib.hid hl1
            have hbE := hb
            clear hl1
            rw [hT1'] at hb hE hM
            obtain ⟨j, hj⟩ : ∃ j, lgt (T1.map RT.key) T1.length = j := ⟨_, rfl⟩
            rw [hT1', hj] at hbE
            rw [hj] at hb hM
            obtain ⟨T2, hT2⟩ : ∃ T2, T1.eraseIdx j = T2 := ⟨_, rfl⟩
            rw [hT2] at hM
            have hlT : T'.length ≤ 1000 := by omega
            obtain ⟨f', rfl⟩ : ∃ f', f = f' + 1 := ⟨f - 1, by have := gRS.fu; omega⟩
            have hstep := fun g cap => gRS.step (g := g) (cap := cap) h2 ha (by rw [hT1']; exact hb) (by rw [hT1', hT2]) hA hB hM
            obtain ⟨p5, c5, e5⟩ := g4.isSlice
            rw [rowsT_len] at e5
            subst e5
            have hLt := r_lightest T' p5 c5 wr (by omega) (by have := g4.sl; exact this) (by omega)
            rw [hi] at hLt
            have hTa := fun wx (h : Below wr.heap.size wr wx) => r_take T' i _ p5 c5 wx hlT (g4.sl.below h) ha
            have HLt := Lib.hid hLt
            have HTa := Lib.hid hTa
            have GT := Lib.hid gT
            have GG := Lib.hid gG
            have HST := Lib.hid hstep
            have d1 : (1 : Int) < (T'.length : Int) := by omega
            have GBB0 := Lib.hid gb
            clear hLt hTa gT gG gb hstep g4 G4 GB
            go_wp2_with fail
            (with_reducible refine HLt.out.mono ?_)
            rintro e w4 ⟨rfl, nq, rfl⟩
            have b4 : Below wr.heap.size wr (wr.drewN nq) := below_drewN (Below.refl _ _) nq
            have hTa4 := Lib.hid (HTa.out _ b4)
            clear HLt HTa
            go_wp2_with fail
            (with_reducible refine hTa4.out.mono ?_)
            rintro e w5 ⟨v1, rfl, ho1, hb5⟩
            rw [hT1'] at ho1
            obtain ⟨p6, c6, e6⟩ := ho1.isSlice
            rw [rowsT_len] at e6
            subst e6
            have b5 : Below wr.heap.size wr w5 := b4.trans hb5
            have kz := Blk.new' w5 116 (c := #[.int .i64 0, .slice none 0 0]) [.int .i64 0, .slice none 0 0] rfl
            have ka := kz.row [.int .i64 (xa : Int), .slice (some ⟨ga, 0, none⟩) sa.length ca] rfl
            have o1 := (ho1.alloc (.cells #[.int .i64 0, .slice none 0 0] 116)).rowOther w5.heap.size [.int .i64 (xa : Int), .slice (some ⟨ga, 0, none⟩) sa.length ca].toArray (fun b hb => by have := (ho1.lt b hb).2; omega)
            have b6 := below_setRow (b5.alloc b5.size (.cells #[.int .i64 0, .slice none 0 0] 116)) b5.size [.int .i64 (xa : Int), .slice (some ⟨ga, 0, none⟩) sa.length ca].toArray
            have hAge : wr.heap.size ≤ w5.heap.size := b5.size
            have KZ := Lib.hid kz
            clear b4 b5 hb5 ho1 hTa4 kz
            go_wp2_with (refine wpList_store_blk rfl 116 _ _ rfl w5.heap.size [.int .i64 (xa : Int), .slice (some ⟨ga, 0, none⟩) sa.length ca] rfl rfl KZ.out (by rw [size_rtree]; rfl) rfl (by simp [Value.oneCell']) ?_)
            clear KZ
            generalize World.setRow (World.alloc w5 _) _ _ = w6 at *
            generalize w5.heap.size = A at *
            have hLt2 := r_lightest T1 p6 c6 w6 (by have := HL1.out; omega) o1.sl (by have := HL1.out; omega)
            rw [hj] at hLt2
            have hTa2 := fun wx (h : Below w6.heap.size w6 wx) => r_take T1 j _ p6 c6 wx (by have := HL1.out; omega) (o1.sl.below h) hb
            have HLt2 := Lib.hid hLt2
            have HTa2 := Lib.hid hTa2
            have KA := Lib.hid ka
            have B6 := Lib.hid b6
            clear hLt2 hTa2 ka b6 o1
            (with_reducible refine HLt2.out.mono ?_)
            rintro e w4 ⟨rfl, nq2, rfl⟩
            have b7 : Below w6.heap.size w6 (w6.drewN nq2) := below_drewN (Below.refl _ _) nq2
            have hTa4 := Lib.hid (HTa2.out _ b7)
            clear HLt2 HTa2
            go_wp2_with fail
            (with_reducible refine hTa4.out.mono ?_)
            rintro e w7 ⟨v2, rfl, ho2, hb7⟩
            rw [hT2] at ho2
            obtain ⟨p7, c7, e7⟩ := ho2.isSlice
            rw [rowsT_len] at e7
            subst e7
            have b8 : Below w6.heap.size w6 w7 := b7.trans hb7
            have ka7 := KA.out.below b8 KA.out.lt
            have b87 : Below wr.heap.size wr w7 := B6.out.trans (b8.mono B6.out.size)
            have hw6 : w.heap.size ≤ (w6.drewN nq2).heap.size := Nat.le_trans GBB0.out.size B6.out.size
            have KA6 := Lib.hid KA.out
            clear b7 hb7 hTa4 b8 KA B6
            have kz := Blk.new' w7 116 (c := #[.int .i64 0, .slice none 0 0]) [.int .i64 0, .slice none 0 0] rfl
            have kb := kz.row [.int .i64 (xb : Int), .slice (some ⟨gb', 0, none⟩) sb.length cb] rfl
            have ka8 := (ka7.alloc (.cells #[.int .i64 0, .slice none 0 0] 116)).rowOther (g := w7.heap.size) (by have := ka7.lt; omega) [.int .i64 (xb : Int), .slice (some ⟨gb', 0, none⟩) sb.length cb].toArray
            have o2 := ((ho2.base (base' := w.heap.size) hw6).alloc (.cells #[.int .i64 0, .slice none 0 0] 116)).rowOther w7.heap.size [.int .i64 (xb : Int), .slice (some ⟨gb', 0, none⟩) sb.length cb].toArray (fun b hb => by have := (ho2.lt b hb).2; omega)
            have b8 := below_setRow (b87.alloc b87.size (.cells #[.int .i64 0, .slice none 0 0] 116)) b87.size [.int .i64 (xb : Int), .slice (some ⟨gb', 0, none⟩) sb.length cb].toArray
            have hBge : A < w7.heap.size := ka7.lt
            obtain ⟨w8, hw8⟩ : ∃ w8, (w7.alloc (.cells #[.int .i64 0, .slice none 0 0] 116)).setRow w7.heap.size [.int .i64 (xb : Int), .slice (some ⟨gb', 0, none⟩) sb.length cb].toArray = w8 := ⟨_, rfl⟩
            obtain ⟨Bn, hBn⟩ : ∃ Bn, w7.heap.size = Bn := ⟨_, rfl⟩
            rw [hw8] at kb ka8 o2 b8
            rw [hBn] at kb hBge
            have c1 := ka8.cell 0
            have c2 := kb.cell 0
            simp only [List.getElem?_cons_zero] at c1 c2
            have ho2lt := o2.lt
            have kz2 := Blk.new' w8 116 (c := #[.int .i64 0, .slice none 0 0]) [.int .i64 0, .slice none 0 0] rfl
            have kc := kz2.row [.int .i64 ((xa : Int) + (xb : Int)), .slice none 0 0] rfl
            have ka9 := (ka8.alloc (.cells #[.int .i64 0, .slice none 0 0] 116)).rowOther (g := w8.heap.size) (by have := ka8.lt; omega) [.int .i64 ((xa : Int) + (xb : Int)), .slice none 0 0].toArray
            have kb9 := (kb.alloc (.cells #[.int .i64 0, .slice none 0 0] 116)).rowOther (g := w8.heap.size) (by have := kb.lt; omega) [.int .i64 ((xa : Int) + (xb : Int)), .slice none 0 0].toArray
            have o9 := (o2.alloc (.cells #[.int .i64 0, .slice none 0 0] 116)).rowOther w8.heap.size [.int .i64 ((xa : Int) + (xb : Int)), .slice none 0 0].toArray (fun b hb => by have := (o2.lt b hb).2; omega)
            have b9 := below_setRow (b8.alloc b8.size (.cells #[.int .i64 0, .slice none 0 0] 116)) b8.size [.int .i64 ((xa : Int) + (xb : Int)), .slice none 0 0].toArray
            have hBC : Bn < w8.heap.size := kb.lt
            obtain ⟨w9, hw9⟩ : ∃ w9, (w8.alloc (.cells #[.int .i64 0, .slice none 0 0] 116)).setRow w8.heap.size [.int .i64 ((xa : Int) + (xb : Int)), .slice none 0 0].toArray = w9 := ⟨_, rfl⟩
            obtain ⟨Cn, hCn⟩ : ∃ Cn, w8.heap.size = Cn := ⟨_, rfl⟩
            rw [hw9] at kc ka9 kb9 o9 b9
            rw [hCn] at kc hBC
            have hp1 := (erase_perm ha).map RT.wt
            rw [hT1'] at hp1
            have hp2 := (erase_perm hb).map RT.wt
            rw [hT2] at hp2
            have hsm : (T'.map RT.wt).sum = xa + (xb + (T2.map RT.wt).sum) := by
              rw [hp1.sum_nat, List.map_cons, List.sum_cons, hp2.sum_nat, List.map_cons, List.sum_cons]
            have iab : (xa : Int) + (xb : Int) ≤ 314572800 := by omega
            have HO2LT : Hid (∀ b, (Value.slice p7 T2.length c7).ownBlock = some b → b < Cn) := Lib.hid (fun b hb => by have := (ho2lt b hb).2; omega)
            have HCB := Lib.hid (show w.heap.size ≤ Cn by have := GBB0.out.size; omega)
            clear ho2lt
            have KZ := Lib.hid kz
            have KZ2 := Lib.hid kz2
            have HW8 := Lib.hid hw8
            have HW9 := Lib.hid hw9
            have HBN := Lib.hid hBn
            have HCN := Lib.hid hCn
            have HSM := Lib.hid hsm
            have KA9 := Lib.hid ka9
            have KB9 := Lib.hid kb9
            have KC9 := Lib.hid kc
            have O9 := Lib.hid o9
            have B9 := Lib.hid b9
            have c3 := ka9.cell 1
            have c4 := kc.cell 1
            simp only [List.getElem?_cons_zero, List.getElem?_cons_succ] at c3 c4
            clear ka7 b87 ho2 kz ka8 kb o2 b8 kz2 kc ka9 kb9 o9 b9 hw8 hw9 hBn hCn hp1 hp2 hsm
            obtain ⟨sy, hsy⟩ : ∃ sy, sa ++ sb = sy := ⟨_, rfl⟩
            have HSY := Lib.hid hsy
            clear hsy
            have hq1 := ((erase_perm ha).flatMap_right RT.syms).length_eq
            have hq2 := ((erase_perm hb).flatMap_right RT.syms).length_eq
            rw [hT1'] at hq1
            rw [hT2] at hq2
            simp only [List.flatMap_cons, List.length_append] at hq1 hq2
            have hq3 := gRS.perm.length_eq
            have hq4 : (symsF fr fr.length).length ≤ fr.length := by unfold symsF; exact Nat.le_trans (List.length_filter_le _ _) (by rw [List.length_range]; exact Nat.le_refl _)
            have hab : sa.length + sb.length ≤ 300 := by omega
            have T9 := GT.out.below B9.out
            have G9 := GG.out.below B9.out GG.out.lt
            have GB9 := GBB0.out.trans (B9.out.mono GBB0.out.size)
            have hma : (⟨xa, ta, sa, ga, ca⟩ : RT) ∈ T' := List.mem_of_getElem? ha
            have hmb : (⟨xb, tb, sb, gb', cb⟩ : RT) ∈ T' := List.mem_of_mem_eraseIdx (by rw [hT1']; exact List.mem_of_getElem? hb)
            obtain ⟨⟨ra, hka⟩, _, _⟩ := T9 _ hma
            have hsa := hka.slNS ca
            have hn10 : (w9 : World).heap.size ≥ w.heap.size := GB9.size
            have HSA := Lib.hid hsa
            have HON9 := Lib.hid (OwnR.nil w9 w.heap.size 3 1)
            have HT9 := Lib.hid T9
            have HG9 := Lib.hid G9
            have HGB9 := Lib.hid GB9
            have HMB := Lib.hid hmb
            have HMA := Lib.hid hma
            have HN1A := Lib.hid (rowsN_one sa)
            have HL1A : Hid (([] : List (List Value)).length + (rowsN sa).length ≤ maxLen) := Lib.hid (by rw [rowsN_len]; unfold maxLen; simp; omega)
            have HB1A : Hid ((([] : List (List Value)).length + (rowsN sa).length) * 8 ≤ 140737488355328) := Lib.hid (by rw [rowsN_len]; simp; omega)
            have HNW9 := Lib.hid hn10
            have HN1B := Lib.hid (rowsN_one sb)
            have HL1B : Hid ((rowsN sa).length + (rowsN sb).length ≤ maxLen) := Lib.hid (by rw [rowsN_len, rowsN_len]; unfold maxLen; omega)
            have HB1B : Hid (((rowsN sa).length + (rowsN sb).length) * 8 ≤ 140737488355328) := Lib.hid (by rw [rowsN_len, rowsN_len]; omega)
            have HBC := Lib.hid (show Bn ≠ Cn by omega)
            have hsl300 : sy.length ≤ 300 := by rw [← HSY.out, List.length_append]; exact hab
            have HSY0 : Hid (0 < sy.length) := Lib.hid (by have := hne' _ hma; rw [← HSY.out, List.length_append]; have h9 : 0 < sa.length := this; omega)
            have HT2L : Hid (T2.length = T1.length - 1) := Lib.hid (by rw [← hT2, List.length_eraseIdx, if_pos (List.getElem?_eq_some_iff.1 hb).1])
            have HT2M : Hid (∀ t ∈ T2, t ∈ T') := Lib.hid (fun t ht => by rw [← hT2] at ht; exact List.mem_of_mem_eraseIdx (by rw [hT1']; exact List.mem_of_mem_eraseIdx ht))
            have HNE := Lib.hid hne'
            clear hq1 hq2 hq3 hq4 T9 G9 GB9 hma hmb hka hsa hn10 GT GG
            go_wp2_with (first | (refine wpList_store_blk rfl 116 _ _ rfl w7.heap.size [.int .i64 (xb : Int), .slice (some ⟨gb', 0, none⟩) sb.length cb] rfl rfl KZ.out (by rw [size_rtree]; rfl) rfl (by simp [Value.oneCell']) ?_; rw [HW8.out, HBN.out]) | (refine wpList_store_blk rfl 116 _ _ rfl w8.heap.size [.int .i64 ((xa : Int) + (xb : Int)), .slice none 0 0] rfl rfl KZ2.out (by rw [size_rtree]; rfl) rfl (by simp [Value.oneCell']) ?_; rw [HW9.out, HCN.out]) | (refine wpList_append_rows rfl _ _ 35 rfl w.heap.size 3 i0 (.int .i64 0) 1 8 Try.underlying35 hi0 hz0 hz1 hz2 rfl (by decide) _ [] rfl HON9.out (.slice (some ⟨ga, 0, none⟩) sa.length ca) (rowsN sa) rfl HSA.out HN1A.out HL1A.out HB1A.out HNW9.out (.inr ⟨_, _, _, rfl⟩) ?_; intro v10 w10 ho10 hg10 hv10; rw [List.nil_append] at ho10; obtain ⟨p10, c10, e10⟩ := ho10.isSlice; rw [rowsN_len] at e10; subst e10; have kc10 := KC9.out.grownP hg10 (by intro e; cases e); have cc := kc10.cell 1; have fc := kc10.free 1; have kb10 := KB9.out.grownP hg10 (by intro e; cases e); have kb11 := kb10.other (a := ⟨Cn, 1, none⟩) (show Cn ≠ Bn from fun e => HBC.out e.symm) (.slice p10 sa.length c10); have kc11 := kc10.set 1 (.slice p10 sa.length c10); have c5' := kb11.cell 1; have c6' := kc11.cell 1; simp only [List.set_cons_succ, List.set_cons_zero, List.getElem?_cons_zero, List.getElem?_cons_succ] at cc c5' c6'; have o11 := ho10.cellOther kc10 (by decide) 1 (.slice p10 sa.length c10); have T10 := HT9.out.grown (o' := some g) hg10 (fun t ht e => by cases e) (.inl rfl); have T11 := T10.cell Cn 1 (.slice p10 sa.length c10) kc10; have hsb : Sl (w10.setCell ⟨Cn, 1, none⟩ (.slice p10 sa.length c10)) 1 (.slice (some ⟨gb', 0, none⟩) sb.length cb) (rowsN sb) := by {obtain ⟨⟨rb, hkb⟩, _, _⟩ := T11 _ HMB.out; exact hkb.slNS cb}; have HSB := Lib.hid hsb; have HO11 := Lib.hid o11; have HT11 := Lib.hid T11; have KC11 := Lib.hid kc11; have HNC := Lib.hid (o11.ne kc11 (by decide)); have HN11 := Lib.hid (show w.heap.size ≤ (w10.setCell ⟨Cn, 1, none⟩ (.slice p10 sa.length c10)).heap.size from Nat.le_trans HNW9.out (Nat.le_trans hg10.size (grown_setCell w10 ⟨Cn, 1, none⟩ _).size)); have HG10 := Lib.hid hg10; have HV10 := Lib.hid hv10; clear kc10 kb10 kb11 kc11 o11 T10 T11 hsb hg10 hv10 ho10) | (refine wpList_append_rows rfl _ _ 35 rfl w.heap.size 3 i0 (.int .i64 0) 1 8 Try.underlying35 hi0 hz0 hz1 hz2 rfl (by decide) _ (rowsN sa) rfl HO11.out (.slice (some ⟨gb', 0, none⟩) sb.length cb) (rowsN sb) rfl HSB.out HN1B.out HL1B.out HB1B.out HN11.out (.inr ⟨_, _, _, rfl⟩) ?_; intro v12 w12 ho12 hg12 hv12; rw [← rowsN_app, HSY.out] at ho12; obtain ⟨p12, c12, e12⟩ := ho12.isSlice; rw [rowsN_len] at e12; subst e12; have kc12 := KC11.out.grownP hg12 (fun e => HNC.out _ e rfl); have cc12 := kc12.cell 1; have fc12 := kc12.free 1; simp only [List.set_cons_succ, List.set_cons_zero, List.getElem?_cons_zero, List.getElem?_cons_succ] at cc12))
            have hgC : Cn ≠ g := fun e => by
              have h1 := HG9.out
              have h2' := KC9.out
              rw [e] at h2'
              unfold Blk at h1 h2'
              rw [h1] at h2'
              simp at h2'
            have hnew : ∀ b, b < w9.heap.size → (Value.slice p10 sa.length c10).ownBlock ≠ some b := fun b hb e => by
              rcases HV10.out with e' | e'
              · rw [e'] at e; cases e
              · rw [e'] at e
                have : w9.heap.size = b := Option.some.inj e
                omega
            have kc13 := kc12.set 1 (.slice p12 sy.length c12)
            simp only [List.set_cons_succ, List.set_cons_zero] at kc13
            have o13 := ho12.cellOther kc12 (by decide) 1 (.slice p12 sy.length c12)
            have u10 := O9.out.grownO HG10.out (fun b hb e => by cases e)
            have u11 := u10.grownO (grown_setCell w10 ⟨Cn, 1, none⟩ (.slice p10 sa.length c10)) (fun b hb e => by have h1 := HO2LT.out b hb; have h3 : b = Cn := Option.some.inj e; omega)
            have u12 := u11.grownO hg12 (fun b hb => u11.apart HO11.out (by decide) b hb)
            have u13 := u12.grownO (grown_setCell w12 ⟨Cn, 1, none⟩ (.slice p12 sy.length c12)) (fun b hb e => by have h1 := HO2LT.out b hb; have h3 : b = Cn := Option.some.inj e; omega)
            have T12 := HT11.out.grown (o' := some g) hg12 (fun t ht e => by obtain ⟨⟨_, h1⟩, _⟩ := HT9.out t ht; exact hnew t.g h1.lt e) (.inl rfl)
            have T13 := T12.cell Cn 1 (.slice p12 sy.length c12) kc12
            have G11 := (HG9.out.grownP HG10.out (by intro e; cases e)).other (a := ⟨Cn, 1, none⟩) (show Cn ≠ g from hgC) (.slice p10 sa.length c10)
            have G13 := (G11.grownP hg12 (fun e => hnew g HG9.out.lt e)).other (a := ⟨Cn, 1, none⟩) (show Cn ≠ g from hgC) (.slice p12 sy.length c12)
            have B11 := (HGB9.out.grown HG10.out HGB9.out.size (fun k e => by cases e)).setCell (p := ⟨Cn, 1, none⟩) HCB.out (.slice p10 sa.length c10)
            have B13 := (B11.grown hg12 B11.size (fun k e => (HO11.out.lt k e).1)).setCell (p := ⟨Cn, 1, none⟩) HCB.out (.slice p12 sy.length c12)
            have h12g : ∀ b, (Value.slice p12 sy.length c12).ownBlock = some b → b ≠ g := fun b hb e => by
              subst e
              rcases hv12 with e' | e'
              · rw [e'] at hb; exact hnew _ HG9.out.lt hb
              · rw [e'] at hb
                have h3 := Option.some.inj hb
                have := G11.lt
                omega
            have KC := Lib.hid kc13
            have OM := Lib.hid o13
            have OV := Lib.hid u13
            have TT := Lib.hid T13
            have GG := Lib.hid G13
            have BB := Lib.hid B13
            have H12G := Lib.hid h12g
            have HCG := Lib.hid hgC
            obtain ⟨hrs1, hrs2, hrs3⟩ := HST.out 0 0
            have HNDS : Hid sy.Nodup := Lib.hid (by rw [← HSY.out]; exact hrs2)
            have HLTS : Hid (∀ s ∈ sy, s < fr.length) := Lib.hid (by rw [← HSY.out]; exact hrs3)
            have hob : ∀ s ∈ sy, out.getD s 0 ≤ 300 := fun s hs => by
              rw [← HSY.out] at hs
              have hU : s ∈ T'.flatMap RT.syms := by
                rcases List.mem_append.1 hs with h | h
                · exact List.mem_flatMap.2 ⟨_, HMA.out, h⟩
                · exact List.mem_flatMap.2 ⟨_, HMB.out, h⟩
              obtain ⟨t, ht, hst⟩ := List.mem_flatMap.1 hU
              have h1 : out.getD s 0 + deepT (f' + 1) c (T'.map RT.key) t.tag = deepT fr.length fr.length (treesF fr) s := gRS.deep t ht s hst
              have h3 := deepT_le fr.length fr.length (treesF fr) s
              omega
            have HOB := Lib.hid hob
            have HOL := Lib.hid gRS.len
            clear hgC hnew kc13 o13 u10 u11 u12 u13 T12 T13 G11 G13 B11 B13 h12g kc12 ho12 hg12 hv12 cc12 fc12 hrs1 hrs2 hrs3 hob HG10 HV10 HO11 HT11 KC11 HNC HN11 HSB HG9 HT9 HGB9 KC9 O9 KB9 KA9
            go_loopw [11] (fun i wr => ∃ k : Nat, k ≤ sy.length ∧ i = .int .i64 (k : Int) ∧ Blk wr g 3 (ints .i64 (nn (bumpL out (sy.take k))) ++ rest) ∧ Blk wr Cn 116 [.int .i64 ((xa : Int) + (xb : Int)), .slice p12 sy.length c12] ∧ OwnR wr w.heap.size 3 1 (.slice p12 sy.length c12) (rowsN sy) ∧ OwnR wr w.heap.size 116 2 (.slice p7 T2.length c7) (rowsT T2) ∧ TrsO wr w.heap.size (some g) T' ∧ Below w.heap.size w wr) (fun i _ => sy.length - (intOf i).toNat)
            case atStart => exact ⟨0, by omega, rfl, GG.out, KC.out, OM.out, OV.out, TT.out, BB.out⟩
            case round =>
              obtain ⟨k, hk, rfl, gG, gC, gM, gV, gT3, gb⟩ := hrel
              clear GG KC OM OV TT BB
              by_cases hlk : k < sy.length
              · have d2 : (k : Int) < (sy.length : Int) := by omega
                obtain ⟨am, rfl, cs⟩ := SlN.cell gM.sl hlk
                have cC := gC.cell 1
                simp only [List.getElem?_cons_zero, List.getElem?_cons_succ] at cC
                have hmem := getD_mem sy k hlk
                have hslt := HLTS.out _ hmem
                have hbl : (bumpL out (sy.take k)).length = fr.length := by rw [bumpL_len, HOL.out]
                have hbs := bumpL_snoc out (sy.take k) (sy.getD k 0)
                rw [← take_snoc sy k hlk] at hbs
                have hbd := bumpL_getD (sy.getD k 0) (sy.take k) out (HNDS.out.sublist (List.take_sublist _ _)) (fun s hs => by rw [HOL.out]; exact HLTS.out s (List.mem_of_mem_take hs))
                have hob := HOB.out _ hmem
                obtain ⟨s, hs⟩ : ∃ s, sy.getD k 0 = s := ⟨_, rfl⟩
                rw [hs] at cs hslt hbs hbd hob
                obtain ⟨Lb, hLb⟩ : ∃ Lb, bumpL out (sy.take k) = Lb := ⟨_, rfl⟩
                rw [hLb] at gG hbl hbs hbd
                have c7 := gG.natS (j := s) (by rw [hbl]; exact hslt)
                have f7 := gG.free s
                obtain ⟨o, ho⟩ : ∃ o, Lb.getD s 0 = o := ⟨_, rfl⟩
                rw [ho] at c7 hbs hbd
                have io : (o : Int) ≤ 1000 := by split at hbd <;> omega
                have is' : (s : Int) < (fr.length : Int) := by omega
                have hG' := gG.setS (j := s) (by rw [hbl]; exact hslt) (o + 1)
                rw [← hbs] at hG'
                have eo : ((o + 1 : Nat) : Int) = (o : Int) + 1 := by simp
                rw [eo] at hG'
                have gC' := gC.other (a := ⟨g, s, none⟩) (show g ≠ Cn from fun e => HCG.out e.symm) (.int .i64 ((o : Int) + 1))
                have gM' := gM.grownO (grown_setCell wr ⟨g, s, none⟩ (.int .i64 ((o : Int) + 1))) (fun b hb e => H12G.out b hb (Option.some.inj e))
                have gV' := gV.cellOther gG (by decide) s (.int .i64 ((o : Int) + 1))
                have gT' := gT3.grown (o' := some g) (grown_setCell wr ⟨g, s, none⟩ (.int .i64 ((o : Int) + 1))) (fun t ht e => (gT3 t ht).2.2 e) (.inl rfl)
                have gb' := gb.setCell (p := ⟨g, s, none⟩) hgw (.int .i64 ((o : Int) + 1))
                have GG := Lib.hid (hG'.drewN 1)
                have KC := Lib.hid (gC'.drewN 1)
                have OM := Lib.hid (gM'.keep (below_drewN (Below.refl _ _) 1))
                have OV := Lib.hid (gV'.keep (below_drewN (Below.refl _ _) 1))
                have TT := Lib.hid (gT'.below (below_drewN (Below.refl _ _) 1))
                have BB := Lib.hid (below_drewN gb' 1)
                clear hG' gC' gM' gV' gT' gb' gG gC gM gV gT3 gb hbd hob hbs hbl hslt hmem hs hLb ho eo
                go_wp2_with fail
                go_big_region
                all_goals go_wp2
                go_roundw
                case rel => exact ⟨k + 1, by omega, by go_num, GG.out, KC.out, OM.out, OV.out, TT.out, BB.out⟩
                case measure => simp [intOf]; omega
              · obtain rfl : k = sy.length := by omega
                rw [List.take_length] at gG
                obtain ⟨gm, cm, rm, hvm, hgm1, hBm⟩ := gM.blkR (by rw [rowsN_len]; exact HSY0.out)
                rw [rowsN_len] at hvm
                cases hvm
                rw [rowsN_flat] at hBm
                have hmg : some g ≠ some gm := fun e => H12G.out gm rfl (Option.some.inj e).symm
                have hst := (HST.out gm c12).1
                rw [show (⟨xa + xb, c, sa ++ sb, gm, c12⟩ : RT) = ⟨xa + xb, c, sy, gm, c12⟩ by rw [HSY.out], show ((⟨xa, ta, sa, ga, ca⟩ : RT).syms ++ (⟨xb, tb, sb, gb', cb⟩ : RT).syms) = sy from HSY.out] at hst
                have hnb := Blk.new' wr 116 (c := #[.int .i64 ((xa : Int) + (xb : Int)), .slice (some ⟨gm, 0, none⟩) sy.length c12]) [.int .i64 ((xa : Int) + (xb : Int)), .slice (some ⟨gm, 0, none⟩) sy.length c12] rfl
                have hnews := sl_one hnb
                have hown := gV.alloc (.cells #[.int .i64 ((xa : Int) + (xb : Int)), .slice (some ⟨gm, 0, none⟩) sy.length c12] 116)
                have hta := ((gT3.alloc (.cells #[.int .i64 ((xa : Int) + (xb : Int)), .slice (some ⟨gm, 0, none⟩) sy.length c12] 116)).sub HT2M.out).add (t := ⟨xa + xb, c, sy, gm, c12⟩) ⟨⟨rm, hBm.alloc (.cells #[.int .i64 ((xa : Int) + (xb : Int)), .slice (some ⟨gm, 0, none⟩) sy.length c12] 116)⟩, hgm1, hmg⟩
                have htb := (gT3.alloc (.cells #[.int .i64 ((xa : Int) + (xb : Int)), .slice (some ⟨gm, 0, none⟩) sy.length c12] 116)).own hown
                have hga := gG.alloc (.cells #[.int .i64 ((xa : Int) + (xb : Int)), .slice (some ⟨gm, 0, none⟩) sy.length c12] 116)
                have hgb := gb.alloc gb.size (.cells #[.int .i64 ((xa : Int) + (xb : Int)), .slice (some ⟨gm, 0, none⟩) sy.length c12] 116)
                have hbase : w.heap.size ≤ (wr.alloc (.cells #[.int .i64 ((xa : Int) + (xb : Int)), .slice (some ⟨gm, 0, none⟩) sy.length c12] 116)).heap.size := hgb.size
                have hone : ∀ r ∈ [[Value.int .i64 ((xa : Int) + (xb : Int)), .slice (some ⟨gm, 0, none⟩) sy.length c12]], ∀ u ∈ r, u.oneCell' = true := by simp [Value.oneCell']
                have h2l : T2.length ≤ 300 := by have := HT2L.out; have := HL1.out; omega
                have hlen : (rowsT T2).length + [[Value.int .i64 ((xa : Int) + (xb : Int)), .slice (some ⟨gm, 0, none⟩) sy.length c12]].length ≤ maxLen := by rw [rowsT_len, List.length_singleton]; unfold maxLen; omega
                have hby : ((rowsT T2).length + [[Value.int .i64 ((xa : Int) + (xb : Int)), .slice (some ⟨gm, 0, none⟩) sy.length c12]].length) * 32 ≤ 140737488355328 := by rw [rowsT_len, List.length_singleton]; omega
                have hrow : rowsT (T2 ++ [⟨xa + xb, c, sy, gm, c12⟩]) = rowsT T2 ++ [[Value.int .i64 ((xa : Int) + (xb : Int)), .slice (some ⟨gm, 0, none⟩) sy.length c12]] := by simp [rowsT, RT.row, RT.v]
                have hnl : (T2 ++ [(⟨xa + xb, c, sy, gm, c12⟩ : RT)]).length = T'.length - 1 := by rw [List.length_append, List.length_singleton]; have := HT2L.out; have := HL1.out; omega
                have hns : ((T2 ++ [(⟨xa + xb, c, sy, gm, c12⟩ : RT)]).map RT.wt).sum ≤ 300 * 1048576 := by
                  rw [List.map_append, List.sum_append]
                  have := HSM.out
                  simp
                  omega
                have hnn : ∀ t ∈ T2 ++ [(⟨xa + xb, c, sy, gm, c12⟩ : RT)], 0 < t.syms.length := fun t ht => by
                  rcases List.mem_append.1 ht with h | h
                  · exact HNE.out t (HT2M.out t h)
                  · rw [List.mem_singleton.1 h]; exact HSY0.out
                have HNEWS := Lib.hid hnews
                have HOWN := Lib.hid hown
                have HTA := Lib.hid hta
                have HTB := Lib.hid (fun t ht => hown.ne (t := 3) (b := RT.g t) ((hta t ht).1.choose_spec) (by decide))
                have HGA := Lib.hid hga
                have HGB := Lib.hid hgb
                have HBASE := Lib.hid hbase
                have HONE := Lib.hid hone
                have HLEN := Lib.hid hlen
                have HBY := Lib.hid hby
                have HROW := Lib.hid hrow
                have HNL := Lib.hid hnl
                have HNS := Lib.hid hns
                have HNN := Lib.hid hnn
                have HST2 := Lib.hid hst
                have GC := Lib.hid gC
                have cC := gC.cell 1
                simp only [List.getElem?_cons_zero, List.getElem?_cons_succ] at cC
                clear hnb hnews hown hta htb hga hgb hbase hone hlen hby hrow hnl hns hnn hst gG gC gM gV gT3 gb hBm hmg hlk
                go_wp2_with (first | (refine wpList_load_blk rfl 116 _ rfl Cn rfl GC.out Try.underlying116 rfl (by rw [size_rtree]; rfl) ?_) | (refine wpList_append_rows rfl _ _ 114 rfl w.heap.size 116 i1 (.agg #[.int .i64 0, .slice none 0 0]) 2 32 Try.underlying114 hi1 hy0 hy1 hy2 rfl (by decide) _ (rowsT T2) rfl HOWN.out (.slice (some ⟨wr.heap.size, 0, none⟩) 1 1) [[.int .i64 ((xa : Int) + (xb : Int)), .slice (some ⟨gm, 0, none⟩) sy.length c12]] rfl HNEWS.out HONE.out HLEN.out HBY.out HBASE.out (.inr ⟨_, _, _, rfl⟩) ?_; intro v20 w20 ho20 hg20 hv20; have T20 := Lib.hid (HTA.out.grown (o' := some g) hg20 (fun t ht e => HTB.out t ht _ e rfl) (.inl rfl)); have G20 := Lib.hid (HGA.out.grownP hg20 (fun e => HOWN.out.ne HGA.out (by decide) _ e rfl)); have B20 := Lib.hid (HGB.out.grown hg20 HBASE.out (fun k e => (HOWN.out.lt k e).1)); rw [← HROW.out] at ho20; have HO20 := Lib.hid ho20; clear hg20 ho20 hv20))
                go_roundg (T'.length - 1)
                case rel => exact ⟨_, _, _, _, HNL.out.symm, by rw [HNL.out]; omega, by rw [HNL.out]; omega, HNN.out, HST2.out, HNS.out, HO20.out, T20.out, G20.out, B20.out⟩
                case measure => omega
          · have hT1' : T'.length = 1 := by omega
            have hd := gRS.done (by omega) HH2.out
            have ho := HBK.out wr out (by rw [gRS.len, zerN_len]) gG
            rw [hd] at ho
            obtain ⟨p5, c5, e5⟩ := g4.isSlice
            rw [rowsT_len, hT1'] at e5
            subst e5
            have HO := Lib.hid ho
            have GBB := Lib.hid gb
            clear ho gb hd gRS g4 gT gG gsum hT1 hT1' h2 hgm HBK
            go_wp2
            go_ret
            exact ⟨_, rfl, HO.out, GBB.out⟩
end Go.Proofs.Ytpjihjbgihionaa
namespace Go.Proofs.Ytpjihjbgihionaa
open Go.RowKit
set_option linter.unusedVariables false

/-- the deepest of the first k -/
def mxL (L : List Nat) : Nat → Nat
  | 0 => 0
  | k + 1 => if mxL L k < L.getD k 0 then L.getD k 0 else mxL L k
theorem mxL_le (L : List Nat) (lim : Nat) : ∀ k, k ≤ L.length → (mxL L k ≤ lim ↔ ∀ i, i < k → L.getD i 0 ≤ lim)
  | 0, _ => ⟨fun _ i h => by omega, fun _ => Nat.zero_le _⟩
  | k + 1, h => by
    have ih := mxL_le L lim k (by omega)
    unfold mxL
    split
    · rename_i hlt
      constructor
      · intro h1 i hi
        rcases Nat.lt_or_ge i k with h' | h'
        · exact ih.1 (by omega) i h'
        · obtain rfl : i = k := by omega
          exact h1
      · intro h1; exact h1 k (by omega)
    · rename_i hlt
      constructor
      · intro h1 i hi
        rcases Nat.lt_or_ge i k with h' | h'
        · exact ih.1 h1 i h'
        · obtain rfl : i = k := by omega
          omega
      · intro h1; exact ih.2 (fun i hi => h1 i (by omega))
theorem mxL_fits (fr : List Nat) (lim : Nat) : mxL (depthsF fr) fr.length ≤ lim ↔ fitsF fr lim = true := by
  rw [mxL_le _ _ _ (by rw [depthsF_len]; exact Nat.le_refl _)]
  unfold fitsF
  rw [decide_eq_true_eq]
  constructor
  · intro h d hd
    obtain ⟨i, hi, rfl⟩ := mem_getD hd
    exact h i (by rw [depthsF_len] at hi; exact hi)
  · intro h i hi
    exact h _ (getD_mem _ _ (by rw [depthsF_len]; exact hi))
theorem halfF_skip (fr : List Nat) (j : Nat) (hj : j < fr.length) (h0 : fr.getD j 0 = 0) : halfF fr j = halfF fr (j + 1) := by
  refine getD_ext fr.length (halfF_len _ _) (halfF_len _ _) fun i hi => ?_
  rw [halfF_getD _ _ _ (by omega), halfF_getD _ _ _ (by omega)]
  by_cases e : i = j
  · subst e
    rw [if_neg (by omega), if_pos (by omega), h0]
  · by_cases h : i < j
    · rw [if_pos h, if_pos (by omega)]
    · rw [if_neg h, if_neg (by omega)]
/-- may these come, in so many bits? -/
def OkL (l : List Int) (x : Int) : Prop := 1 ≤ x ∧ x ≤ 15 ∧ MayC l x.toNat
/-- lengths, or an error -/
def LRet (l : List Int) (x : Int) (w : World) (e : Ending) (w' : World) : Prop :=
  (¬ OkL l x ∧ e = .returned (.tuple #[.slice none 0 0, .int .i64 1]) ∧ Below w.heap.size w w') ∨
  (OkL l x ∧ ∃ v, e = .returned (.tuple #[v, .int .i64 0]) ∧ OwnR w' w.heap.size 3 1 v (rowsN (lensF x.toNat 20 (l.map Int.toNat))) ∧ Below w.heap.size w w')
set_option maxRecDepth 100000 in
set_option maxHeartbeats 2000000 in
theorem r_Lengths_arg (l : List Int) (x : Int) (p : Option Addr) (cap : Nat) (w : World) (hno : 300 < l.length ∨ x < 1 ∨ 15 < x) :
    Calls Try.prog 19 #[.slice p l.length cap, .int .i64 x] w (LRet l x w) := by
  have hn : ¬ OkL l x := fun ⟨a, b, c⟩ => by
    have := c.1
    omega
  by_cases h1 : 300 < l.length
  · have t1 : (300 : Int) < (l.length : Int) := by omega
    have HN := Lib.hid hn
    clear hno hn
    go_enter Try.func19, Try.ntmps19
    go_wp2
    go_ret2
    exact .inl ⟨HN.out, rfl, Below.refl _ _⟩
  · have t1 : decide ((300 : Int) < (l.length : Int)) = false := decide_eq_false (by omega)
    have t1n : decide (300 < l.length) = false := decide_eq_false h1
    by_cases h2 : x < 1
    · have HN := Lib.hid hn
      clear hno hn
      go_enter Try.func19, Try.ntmps19
      go_wp2
      go_ret2
      exact .inl ⟨HN.out, rfl, Below.refl _ _⟩
    · have t2 : decide (x < 1) = false := decide_eq_false h2
      have h3 : 15 < x := by omega
      have HN := Lib.hid hn
      clear hno hn
      go_enter Try.func19, Try.ntmps19
      go_wp2
      go_ret2
      exact .inl ⟨HN.out, rfl, Below.refl _ _⟩
set_option maxRecDepth 100000 in
set_option maxHeartbeats 4000000 in
theorem r_Lengths_in (l : List Int) (lim : Nat) (p : Option Addr) (cap : Nat) (w : World) (hl : l.length ≤ 300) (x1 : 1 ≤ lim) (x15 : lim ≤ 15) (hS : Sl w 1 (.slice p l.length cap) (rowsI l)) :
    Calls Try.prog 19 #[.slice p l.length cap, .int .i64 (lim : Int)] w (LRet l (lim : Int) w) := by
  have hok : OkL l (lim : Int) ↔ ((∀ y ∈ l, Comes y) ∧ usedI l ≤ 2 ^ lim) := by
    constructor
    · rintro ⟨_, _, c⟩; exact ⟨c.2.1, c.2.2⟩
    · intro h; exact ⟨by omega, by omega, hl, h.1, h.2⟩
  obtain ⟨i0, hi0, hz0, hz1, hz2⟩ := info_parts2 info_int
  have HOK := Lib.hid hok
  have HS := Lib.hid hS
  have k0 := Lib.hid (OwnR.empty w w.heap.size 3 1 (Nat.le_refl _))
  have kb := Lib.hid ((Below.refl w.heap.size w).alloc (Nat.le_refl _) (.cells #[] 3))
  have t1 : ((l.length : Int) ≤ 300) := by omega
  have t1b : decide ((300 : Int) < (l.length : Int)) = false := decide_eq_false (by omega)
  have t1n : decide (300 < l.length) = false := decide_eq_false (by omega)
  have t2 : decide ((lim : Int) < 1) = false := decide_eq_false (by omega)
  have t3 : decide ((15 : Int) < (lim : Int)) = false := decide_eq_false (by omega)
  clear hok hS
  go_enter Try.func19, Try.ntmps19
  go_wp2
  go_loopw [6, 7, 8] (fun n u i wr => ∃ j : Nat, j ≤ l.length ∧ i = .int .i64 (j : Int) ∧ n = .int .i64 (usedI (l.take j) : Int) ∧ (∀ y ∈ l.take j, Comes y) ∧ OwnR wr w.heap.size 3 1 u (rowsN ((l.take j).map Int.toNat)) ∧ Below w.heap.size w wr) (fun _ _ i _ => l.length - (intOf i).toNat)
  case atStart => exact ⟨0, by omega, rfl, rfl, (fun y h => by simp at h), k0.out, kb.out⟩
  case round =>
    obtain ⟨j, hj, rfl, rfl, gn, go, gb⟩ := hrel
    clear k0 kb
    by_cases hlt : j < l.length
    · have d1 : (j : Int) < (l.length : Int) := by omega
      obtain ⟨a, rfl, hc⟩ := SlI.cell (HS.out.below gb) hlt
      have hsn := take_snocN l j hlt
      have hus := usedI_snoc (l.take j) (l.getD j 0)
      rw [← hsn] at hus
      have hmem := getD_memI l j hlt
      have hle := usedI_le (l.take j)
      have hle2 : (l.take j).length ≤ j := by simp; omega
      have hrl : (rowsN ((l.take j).map Int.toNat)).length = j := by rw [rowsN_len, List.length_map, List.length_take]; omega
      obtain ⟨y, hy⟩ : ∃ y, l.getD j 0 = y := ⟨_, rfl⟩
      rw [hy] at hc hsn hus hmem
      have HY := Lib.hid hy
      obtain ⟨U, hU⟩ : ∃ U, usedI (l.take j) = U := ⟨_, rfl⟩
      rw [hU] at hus hle ⊢
      have iU : (U : Int) ≤ 310 := by omega
      by_cases hcm : Comes y
      · obtain ⟨q, rfl⟩ : ∃ q : Nat, y = (q : Int) := ⟨y.toNat, by have := hcm.1; omega⟩
        have s1 : decide ((q : Int) < 0) = false := decide_eq_false (by omega)
        have s2 : decide ((1048576 : Int) < (q : Int)) = false := decide_eq_false (by have := hcm.2; omega)
        have hnew : ∀ z ∈ l.take (j + 1), Comes z := fun z hz => by
          rw [hsn] at hz
          rcases List.mem_append.1 hz with h | h
          · exact gn z h
          · rw [List.mem_singleton.1 h]; exact hcm
        have hrow : rowsN ((l.take (j + 1)).map Int.toNat) = rowsN ((l.take j).map Int.toNat) ++ [[.int .i64 (q : Int)]] := by
          rw [hsn, List.map_append, rowsN_app]
          rfl
        have HNEW := Lib.hid hnew
        have HROW := Lib.hid hrow
        have HUS := Lib.hid hus
        have HRL := Lib.hid hrl
        clear hsn hrow hnew hmem hle hle2 hU hy gn hcm hus hrl
        generalize rowsN ((l.take j).map Int.toNat) = rows at *
        have hnb := Blk.new' wr 3 (c := #[.int .i64 (q : Int)]) [.int .i64 (q : Int)] rfl
        have hnews := sl_one hnb
        have hown := go.alloc (.cells #[.int .i64 (q : Int)] 3)
        have hlo := go.lt
        have hgb := gb.alloc gb.size (.cells #[.int .i64 (q : Int)] 3)
        have hbase : w.heap.size ≤ (wr.alloc (.cells #[.int .i64 (q : Int)] 3)).heap.size := hgb.size
        have hone : ∀ r ∈ [[Value.int .i64 (q : Int)]], ∀ u ∈ r, u.oneCell' = true := by simp [Value.oneCell']
        have hlen : rows.length + [[Value.int .i64 (q : Int)]].length ≤ maxLen := by rw [HRL.out, List.length_singleton]; unfold maxLen; omega
        have hby : (rows.length + [[Value.int .i64 (q : Int)]].length) * 8 ≤ 140737488355328 := by rw [HRL.out, List.length_singleton]; omega
        have HONE := Lib.hid hone
        have HLEN := Lib.hid hlen
        have HBY := Lib.hid hby
        have HOW := Lib.hid hown
        have HNW := Lib.hid hnews
        have HLO := Lib.hid hlo
        have HGB := Lib.hid hgb
        have HBA := Lib.hid hbase
        clear hone hlen hby hnb hnews hown hlo hgb hbase go gb
        by_cases hq0 : 0 < q
        · have e0 : (0 : Int) < (q : Int) := by omega
          go_wp2_with (first | (refine wpList_append_rows rfl _ _ 35 rfl w.heap.size 3 i0 (.int .i64 0) 1 8 Try.underlying35 hi0 hz0 hz1 hz2 rfl (by decide) _ rows rfl HOW.out (.slice (some ⟨wr.heap.size, 0, none⟩) 1 1) [[.int .i64 (q : Int)]] rfl HNW.out HONE.out HLEN.out HBY.out HBA.out (.inr ⟨_, _, _, rfl⟩) ?_; intro v' w5 ho5 hg5 hv5; have gb5 := HGB.out.grown hg5 HBA.out (fun k e => (HLO.out k e).1)))
          go_roundw
          case rel => exact ⟨j + 1, by omega, by go_num, by rw [HUS.out, if_pos e0]; go_num, HNEW.out, by rw [HROW.out]; exact ho5, gb5⟩
          case measure => simp [intOf]; omega
        · have e0 : ¬ (0 : Int) < (q : Int) := by omega
          go_wp2_with (first | (refine wpList_append_rows rfl _ _ 35 rfl w.heap.size 3 i0 (.int .i64 0) 1 8 Try.underlying35 hi0 hz0 hz1 hz2 rfl (by decide) _ rows rfl HOW.out (.slice (some ⟨wr.heap.size, 0, none⟩) 1 1) [[.int .i64 (q : Int)]] rfl HNW.out HONE.out HLEN.out HBY.out HBA.out (.inr ⟨_, _, _, rfl⟩) ?_; intro v' w5 ho5 hg5 hv5; have gb5 := HGB.out.grown hg5 HBA.out (fun k e => (HLO.out k e).1)))
          go_roundw
          case rel => exact ⟨j + 1, by omega, by go_num, by rw [HUS.out, if_neg e0]; rfl, HNEW.out, by rw [HROW.out]; exact ho5, gb5⟩
          case measure => simp [intOf]; omega
      · have hno : ¬ OkL l (lim : Int) := fun h => hcm ((HOK.out.1 h).1 y hmem)
        have HNO := Lib.hid hno
        have GB := Lib.hid gb
        by_cases h0 : y < 0
        · clear hno gb go gn hus hsn hmem hcm hrl
          go_wp2
          go_ret2
          exact .inl ⟨HNO.out, rfl, GB.out⟩
        · have s1 : decide (y < 0) = false := decide_eq_false h0
          have s2 : (1048576 : Int) < y := by unfold Comes at hcm; omega
          clear hno gb go gn hus hsn hmem hcm hrl h0
          go_wp2
          go_ret2
          exact .inl ⟨HNO.out, rfl, GB.out⟩
    · obtain rfl : j = l.length := by omega
      rw [List.take_length] at gn go ⊢
      obtain ⟨Q, hQ⟩ : ∃ Q, 2 ^ lim = Q := ⟨_, rfl⟩
      have hp2 : (2 : Int) ^ lim = (Q : Int) := by rw [← hQ]; simp
      have hpl : 2 ^ lim ≤ 2 ^ 15 := Nat.pow_le_pow_right (by decide) x15
      have i2 : (lim : Int).toNat = lim := by omega
      have i3 : (0 : Int) ≤ (lim : Int) := by omega
      have i5 : (Q : Int) ≤ 32768 := by omega
      have hw64 : wrap64 (Q : Int) = (Q : Int) := Go.IntWalk.wrap64_in _ ⟨by omega, by omega⟩
      have hul := usedI_le l
      obtain ⟨U, hU⟩ : ∃ U, usedI l = U := ⟨_, rfl⟩
      have hok2 := HOK.out
      rw [hU, hQ] at hok2
      rw [hU] at hul ⊢
      by_cases hcnt : Q < U
      · have e0 : (Q : Int) < (U : Int) := by omega
        have HNO : Hid (¬ OkL l (lim : Int)) := Lib.hid (fun h => by have := (hok2.1 h).2; omega)
        have GB := Lib.hid gb
        clear hok2 gn go gb hU hQ hlt hpl
        go_wp2
        go_ret2
        exact .inl ⟨HNO.out, rfl, GB.out⟩
      · have e0 : decide ((Q : Int) < (U : Int)) = false := decide_eq_false (by omega)
        have e0n : decide (Q < U) = false := decide_eq_false hcnt
        have HYES : Hid (OkL l (lim : Int)) := Lib.hid (hok2.2 ⟨gn, by omega⟩)
        obtain ⟨fr, hfr⟩ : ∃ fr, l.map Int.toNat = fr := ⟨_, rfl⟩
        rw [hfr] at go
        have hnf : nn fr = l := by
          rw [← hfr]
          unfold nn
          rw [List.map_map]
          conv => rhs; rw [← List.map_id l]
          refine List.map_congr_left fun y hy => ?_
          have := (gn y hy).1
          show ((y.toNat : Nat) : Int) = y
          omega
        have hfl : fr.length = l.length := by rw [← hfr, List.length_map]
        have htr : (treesF fr).length ≤ 2 ^ lim := by rw [← usedI_nn, hnf, hU, hQ]; omega
        have hfb : ∀ i, fr.getD i 0 ≤ 2 ^ 20 := fun i => comes_nn (by rw [hnf]; exact gn) i
        obtain ⟨p7, c7, e7⟩ := go.isSlice
        rw [rowsN_len, hfl] at e7
        subst e7
        have HFR := Lib.hid hfr
        have HFL := Lib.hid hfl
        have HTR := Lib.hid htr
        have HFB := Lib.hid hfb
        have GO := Lib.hid go
        have GB := Lib.hid gb
        clear hok2 gn go gb hU hQ hlt hpl hnf hfr hfl htr hfb
        go_wp2
        go_loopg [9, 10, 11, 12] 20 (fun gk _ _ _ _ wr => ∃ fr' : List Nat, lensF lim gk fr' = lensF lim 20 fr ∧ fr'.length = l.length ∧ (treesF fr').length ≤ 2 ^ lim ∧ (∀ i, fr'.getD i 0 ≤ 2 ^ gk) ∧ gk ≤ 20 ∧ OwnR wr w.heap.size 3 1 (.slice p7 l.length c7) (rowsN fr') ∧ Below w.heap.size w wr)
        case atStart => exact ⟨fr, rfl, HFL.out, HTR.out, HFB.out, Nat.le_refl _, GO.out, GB.out⟩
        case round =>
          obtain ⟨fr', hR, hln, ht, hf, hgk, ho, hb⟩ := hrel
          clear GO GB
          have hp20 : 2 ^ gk ≤ 2 ^ 20 := Nat.pow_le_pow_right (by decide) hgk
          have hD := r_depths fr' p7 c7 wr (by omega) (fun i => by have := hf i; have e : (2 : Nat) ^ 20 = 1048576 := rfl; omega) (by rw [hln]; exact ho.sl)
          rw [hln] at hD
          have HD := Lib.hid hD
          have HO := Lib.hid ho
          have HB := Lib.hid hb
          have HR := Lib.hid hR
          have HT := Lib.hid ht
          have HF := Lib.hid hf
          have hdl := depthsF_len fr'
          clear hD ho hb hR ht hf hp20
          go_wp2_with fail
          (with_reducible refine HD.out.mono ?_)
          rintro e w3 ⟨v3, rfl, ho3, hb3⟩
          obtain ⟨p3, c3, e3⟩ := ho3.isSlice
          rw [rowsN_len, hdl, hln] at e3
          subst e3
          have HO3 := Lib.hid ho3
          have HO7 := Lib.hid (HO.out.keep hb3)
          have HB3 := Lib.hid (HB.out.trans (hb3.mono HB.out.size))
          have HWS := Lib.hid HB.out.size
          clear ho3 hb3 HD HO HB
          have hmx0 : mxL (depthsF fr') 0 = 0 := rfl
          have hmst : ∀ k, mxL (depthsF fr') (k + 1) = if mxL (depthsF fr') k < (depthsF fr').getD k 0 then (depthsF fr').getD k 0 else mxL (depthsF fr') k := fun k => rfl
          have hmf := mxL_fits fr' lim
          rw [hln] at hmf
          have HMST := Lib.hid hmst
          have HMF := Lib.hid hmf
          have HDL := Lib.hid (hdl.trans hln)
          clear hmst hmf hdl
          go_wp2
          go_loop [10, 11] (fun d i => ∃ k : Nat, k ≤ l.length ∧ i = .int .i64 (k : Int) ∧ d = .int .i64 ((mxL (depthsF fr') k : Nat) : Int)) (fun _ i => l.length - (intOf i).toNat)
          case atStart => exact ⟨0, by omega, rfl, by rw [hmx0]; rfl⟩
          case round =>
            obtain ⟨k, hk, rfl, rfl⟩ := hrel
            clear hmx0
            by_cases hlk : k < l.length
            · have d2 : (k : Int) < (l.length : Int) := by omega
              obtain ⟨a3, rfl, cs⟩ := SlN.cell HO3.out.sl (j := k) (by rw [HDL.out]; exact hlk)
              have hst := HMST.out k
              obtain ⟨y, hy⟩ : ∃ y, (depthsF fr').getD k 0 = y := ⟨_, rfl⟩
              obtain ⟨M, hM⟩ : ∃ M, mxL (depthsF fr') k = M := ⟨_, rfl⟩
              rw [hy] at cs hst
              rw [hM] at hst ⊢
              have HST := Lib.hid hst
              clear hst hy hM
              by_cases hmy : M < y
              · have e1 : (M : Int) < (y : Int) := by omega
                have e2 : max (M : Int) (y : Int) = (y : Int) := by omega
                go_wp2
                go_round
                case rel => exact ⟨k + 1, by omega, by go_num, by rw [HST.out, if_pos hmy]⟩
                case measure => simp [intOf]; omega
              · have e1 : ¬ (M : Int) < (y : Int) := by omega
                have e2 : max (M : Int) (y : Int) = (M : Int) := by omega
                go_wp2
                go_round
                case rel => exact ⟨k + 1, by omega, by go_num, by rw [HST.out, if_neg hmy]⟩
                case measure => simp [intOf]; omega
            · obtain rfl : k = l.length := by omega
              have hmf := HMF.out
              obtain ⟨M, hM⟩ : ∃ M, mxL (depthsF fr') l.length = M := ⟨_, rfl⟩
              rw [hM] at hmf ⊢
              clear hM hlk
              by_cases hfit : M ≤ lim
              · have e1 : (M : Int) ≤ (lim : Int) := by omega
                have hRR := lensF_first (k := gk) (hmf.1 hfit)
                rw [HR.out] at hRR
                have hfin : LRet l (lim : Int) w (.returned (.tuple #[.slice p3 l.length c3, .int .i64 0])) w3 := .inr ⟨HYES.out, _, rfl, by rw [HFR.out, Int.toNat_natCast, hRR]; exact HO3.out.base HWS.out, HB3.out⟩
                have HFIN := Lib.hid hfin
                clear hRR hfin hmf hfit
                go_wp2
                go_ret2
                exact HFIN.out
              · have e1 : decide ((M : Int) ≤ (lim : Int)) = false := decide_eq_false (by omega)
                have e1n : decide (M ≤ lim) = false := decide_eq_false hfit
                have hnf : ¬ fitsF fr' lim = true := fun h => hfit (hmf.2 h)
                have hk0 : gk ≠ 0 := fun e => hnf (by
                  subst e
                  exact fits_ones x1 HT.out (fun i => HF.out i))
                obtain ⟨gp, rfl⟩ : ∃ gp, gk = gp + 1 := ⟨gk - 1, by omega⟩
                have hRn : lensF lim gp (halveF fr') = lensF lim 20 fr := by
                  rw [← HR.out]
                  exact (if_neg hnf).symm
                have hn0 : 0 < fr'.length := by
                  rcases Nat.eq_zero_or_pos fr'.length with h | h
                  · refine absurd (decide_eq_true (fun d hd => ?_)) hnf
                    rw [List.eq_nil_of_length_eq_zero (show (depthsF fr').length = 0 by rw [depthsF_len]; exact h)] at hd
                    cases hd
                  · exact h
                obtain ⟨g, cg, rest, hv, hg, hgl, hB, hback⟩ := HO7.out.blkN hn0
                rw [hln] at hv
                cases hv
                have hz : halfF fr' 0 = fr' := halfF_zero fr'
                have HZ : Hid (Blk w3 g 3 (ints .i64 (nn (halfF fr' 0)) ++ rest)) := Lib.hid (by rw [hz]; exact hB)
                have HBK := Lib.hid hback
                have HRN := Lib.hid hRn
                have HLN := Lib.hid hln
                clear hmf hfit hnf hk0 hRn hn0 hB hback hz hln
                go_wp2
                go_loopw [12] (fun i wr => ∃ k : Nat, k ≤ l.length ∧ i = .int .i64 (k : Int) ∧ Blk wr g 3 (ints .i64 (nn (halfF fr' k)) ++ rest) ∧ Below w.heap.size w wr) (fun i _ => l.length - (intOf i).toNat)
                case atStart => exact ⟨0, by omega, rfl, HZ.out, HB3.out⟩
                case round =>
                  obtain ⟨k, hk, rfl, gG, gb⟩ := hrel
                  clear HZ HB3
                  by_cases hlk : k < l.length
                  · have d2 : (k : Int) < (l.length : Int) := by omega
                    have hkf : k < fr'.length := by rw [HLN.out]; exact hlk
                    have c1 := gG.natS (j := k) (by rw [halfF_len]; exact hkf)
                    rw [halfF_getD _ _ _ (by omega), if_neg (by omega)] at c1
                    have f1 := gG.free k
                    have hst := halfF_step fr' k hkf
                    have hsk := halfF_skip fr' k hkf
                    have hfk := HF.out k
                    have hp20 : 2 ^ (gp + 1) ≤ 2 ^ 20 := Nat.pow_le_pow_right (by decide) hgk
                    obtain ⟨y, hy⟩ : ∃ y, fr'.getD k 0 = y := ⟨_, rfl⟩
                    rw [hy] at c1 hst hsk hfk
                    have iy : (y : Int) ≤ 1048576 := by omega
                    by_cases hy0 : 0 < y
                    · have e2 : (0 : Int) < (y : Int) := by omega
                      obtain ⟨z, hzz⟩ : ∃ z, (y + 1) / 2 = z := ⟨_, rfl⟩
                      rw [hzz] at hst
                      have e3 : ((y : Int) + 1) / 2 = (z : Int) := by omega
                      have e4 : (0 : Int) ≤ (y : Int) + 1 := by omega
                      have hG' := gG.setS (j := k) (by rw [halfF_len]; exact hkf) z
                      rw [hst] at hG'
                      have gb' := gb.setCell (p := ⟨g, k, none⟩) hg (.int .i64 (z : Int))
                      have HG' := Lib.hid hG'
                      have HB' := Lib.hid gb'
                      clear hst hsk hfk hp20 hy hzz hG' gb' gG gb hkf
                      go_wp2
                      go_roundw
                      case rel => exact ⟨k + 1, by omega, by go_num, HG'.out, HB'.out⟩
                      case measure => simp [intOf]; omega
                    · have e2 : ¬ (0 : Int) < (y : Int) := by omega
                      have hs2 := hsk (by omega)
                      rw [hs2] at gG
                      have HG' := Lib.hid gG
                      have HB' := Lib.hid gb
                      clear hst hsk hfk hp20 hy hs2 gG gb hkf
                      go_wp2
                      go_roundw
                      case rel => exact ⟨k + 1, by omega, by go_num, HG'.out, HB'.out⟩
                      case measure => simp [intOf]; omega
                  · obtain rfl : k = l.length := by omega
                    rw [← HLN.out, halfF_all] at gG
                    have ho := HBK.out wr (halveF fr') (halveF_len fr') gG
                    have hln2 : (halveF fr').length = l.length := by rw [halveF_len]; exact HLN.out
                    have ht2 : (treesF (halveF fr')).length ≤ 2 ^ lim := by rw [treesF_halve_len]; exact HT.out
                    have hf2 : ∀ i, (halveF fr').getD i 0 ≤ 2 ^ gp := fun i => by
                      have := HF.out i
                      rw [halveF_getD]
                      rw [Nat.pow_succ] at this
                      omega
                    have HO2 := Lib.hid ho
                    have HLN2 := Lib.hid hln2
                    have HT2 := Lib.hid ht2
                    have HF2 := Lib.hid hf2
                    have GB2 := Lib.hid gb
                    clear ho hln2 ht2 hf2 gb gG hlk
                    go_wp2
                    go_roundg gp
                    case rel => exact ⟨halveF fr', HRN.out, HLN2.out, HT2.out, HF2.out, by omega, HO2.out, GB2.out⟩
                    case measure => omega
end Go.Proofs.Ytpjihjbgihionaa
