/- What an area's frames are, told one by one; sectors written by their places (stage 14, the program's). -/
import Derived.Test.YtccplgicfbfjiaaYNum
import Derived.Test.YtccplgicfbfjiaaKB
import Derived.Test.YtccplgicfbfjiaaG1
import Derived.Test.YtccplgicfbfjiaaJ1
import Derived.IntWalk
import Derived.Test.YtccplgicfbfjiaaZA
import Derived.BigQuiet
import Derived.Test.YtccplgicfbfjiaaZB
import Derived.Test.YtccplgicfbfjiaaFC
import Derived.Test.YtccplgicfbfjiaaG4
import Derived.Maps.OwnIn
namespace Go.Proofs.Ytccplgicfbfjiaa
open Go.RowKit
set_option linter.unusedVariables false

/-- the frames from sector t on: what is in each, and how many sectors are taken with it -/
def frJF (s : List Nat) : Nat → Nat → List (List Nat × Nat)
  | 0, _ => []
  | f + 1, t => if (firstK (s.drop (32 * t))).2.2 ≠ 0 then [] else
      ((firstK (s.drop (32 * t))).1, t + secK (firstK (s.drop (32 * t))).1.length) :: frJF s f (t + secK (firstK (s.drop (32 * t))).1.length)
def frJ (s : List Nat) (t : Nat) : List (List Nat × Nat) := frJF s (s.length + 1) t
theorem frJF_fuel (s : List Nat) : ∀ (f g t : Nat), s.length - 32 * t < f → s.length - 32 * t < g → frJF s f t = frJF s g t
  | 0, _, t, h, _ => by omega
  | _, 0, t, _, h => by omega
  | f + 1, g + 1, t, hf, hg => by
    rw [frJF, frJF]
    split
    · rfl
    · rename_i h
      have h0 : (firstK (s.drop (32 * t))).2.2 = 0 := by simpa using h
      have hi := (first_is (t := s.drop (32 * t)) (x := (firstK (s.drop (32 * t))).1) (r := (firstK (s.drop (32 * t))).2.1) (by rw [← h0])).1
      rw [List.length_drop] at hi
      have hp := secK_pos (firstK (s.drop (32 * t))).1.length
      rw [frJF_fuel s f g _ (by omega) (by omega)]
theorem frJ_step {s x r : List Nat} {t : Nat} (h : firstK (s.drop (32 * t)) = (x, r, 0)) : frJ s t = (x, t + secK x.length) :: frJ s (t + secK x.length) := by
  have hi := (first_is h).1
  rw [List.length_drop] at hi
  have hp := secK_pos x.length
  unfold frJ
  rw [frJF, h]
  simp only [ne_eq, not_true_eq_false, if_false]
  rw [frJF_fuel s s.length (s.length + 1) _ (by omega) (by omega)]
theorem frJ_stop {s : List Nat} {t : Nat} (h : (firstK (s.drop (32 * t))).2.2 ≠ 0) : frJ s t = [] := by unfold frJ; rw [frJF, if_pos h]
/-- how many sectors are taken -/
def lastJ (t : Nat) (l : List (List Nat × Nat)) : Nat := match l.getLast? with | none => t | some x => x.2
theorem lastJ_cons (t : Nat) (x : List Nat × Nat) (l : List (List Nat × Nat)) : lastJ t (x :: l) = lastJ x.2 l := by
  unfold lastJ
  rw [List.getLast?_cons]
  cases l.getLast? <;> rfl
theorem lastJ_snoc (t : Nat) (l : List (List Nat × Nat)) (x : List Nat × Nat) : lastJ t (l ++ [x]) = x.2 := by
  unfold lastJ
  rw [List.getLast?_concat]
theorem frJ_all : ∀ (m : Nat) (s : List Nat) (t : Nat), s.length - 32 * t ≤ m → (frJ s t).map (·.1) = (scanK (s.drop (32 * t))).1 ∧ lastJ t (frJ s t) = t + (scanK (s.drop (32 * t))).2
  | m, s, t, hm => by
    by_cases h : (firstK (s.drop (32 * t))).2.2 = 0
    · obtain ⟨x, r, hf⟩ : ∃ x r, firstK (s.drop (32 * t)) = (x, r, 0) := ⟨(firstK (s.drop (32 * t))).1, (firstK (s.drop (32 * t))).2.1, by rw [← h]⟩
      have hi := (first_is hf).1
      rw [List.length_drop] at hi
      have hp := secK_pos x.length
      have hd : (s.drop (32 * t)).drop (32 * secK x.length) = s.drop (32 * (t + secK x.length)) := by rw [List.drop_drop]; congr 1; omega
      match m, hm with
      | 0, hm => omega
      | m + 1, hm =>
        have ih := frJ_all m s (t + secK x.length) (by omega)
        rw [frJ_step hf, scan_step hf, hd]
        refine ⟨by rw [List.map_cons, ih.1], ?_⟩
        rw [lastJ_cons, ih.2]
        show _ = t + (_ + _)
        exact Nat.add_assoc _ _ _
    · rw [frJ_stop h, scan_stop h]
      exact ⟨rfl, rfl⟩
theorem frJ_scan (s : List Nat) : (frJ s 0).map (·.1) = (scanK s).1 ∧ lastJ 0 (frJ s 0) = (scanK s).2 := by
  have h := frJ_all s.length s 0 (by omega)
  rw [Nat.mul_zero, List.drop_zero, Nat.zero_add] at h
  exact h
/-! ### sectors by their places -/
def pcJ (p : List Nat) (i : Nat) : List Nat := (p.drop (32 * i)).take 32
theorem chunks_map : ∀ (k : Nat) (l : List Nat), chunksK k l = (List.range k).map (pcJ l)
  | 0, _ => rfl
  | k + 1, l => by
    rw [chunksK, chunks_map k, List.range_succ_eq_map, List.map_cons, List.map_map]
    congr 1
    refine List.map_congr_left fun i _ => ?_
    show ((l.drop 32).drop (32 * i)).take 32 = (l.drop (32 * (i + 1))).take 32
    rw [List.drop_drop, show 32 + 32 * i = 32 * (i + 1) by omega]
theorem writes_snoc : ∀ (l : List (List Nat)) (d : DiskM) (a : Nat) (x : List Nat), writesD d a (l ++ [x]) = writeD (writesD d a l) (a + l.length) x
  | [], d, a, x => rfl
  | s :: l, d, a, x => by
    rw [List.cons_append, writesD, writes_snoc l, List.length_cons, writesD, show a + 1 + l.length = a + (l.length + 1) by omega]
def wrsJ (d : DiskM) (a : Nat) (p : List Nat) (is : List Nat) : DiskM := is.foldl (fun d i => writeD d (a + i) (pcJ p i)) d
theorem wrsJ_snoc (d : DiskM) (a : Nat) (p : List Nat) (is : List Nat) (i : Nat) : wrsJ d a p (is ++ [i]) = writeD (wrsJ d a p is) (a + i) (pcJ p i) := by
  unfold wrsJ; rw [List.foldl_append]; rfl
theorem wrsJ_all (d : DiskM) (a : Nat) (p : List Nat) : ∀ n, wrsJ d a p (List.range n) = writesD d a (chunksK n p)
  | 0 => rfl
  | n + 1 => by
    rw [List.range_succ, wrsJ_snoc, wrsJ_all d a p n, chunks_map (n + 1), List.range_succ, List.map_append, ← chunks_map, List.map_singleton, writes_snoc, chunks_len]
theorem wrsJ_sec (a : Nat) (p : List Nat) : ∀ (is : List Nat) (d : DiskM), (wrsJ d a p is).sec = d.sec ∧ (wrsJ d a p is).cut = d.cut
  | [], d => ⟨rfl, rfl⟩
  | i :: is, d => by
    have := wrsJ_sec a p is (writeD d (a + i) (pcJ p i))
    exact this
theorem pc_len {p : List Nat} {n i : Nat} (hp : p.length = 32 * n) (hi : i < n) : (pcJ p i).length = 32 := by
  unfold pcJ; rw [List.length_take, List.length_drop]; omega
theorem pc_bys {p : List Nat} (h : Bys p) (i : Nat) : Bys (pcJ p i) := (h.drop _).take _
theorem dkn_wrs {a n : Nat} {p : List Nat} (hp : p.length = 32 * n) (hb : Bys p) : ∀ (is : List Nat) {d : DiskM} {k : Nat}, DkN d k → a + n ≤ d.sec.length → (∀ i ∈ is, i < n) → DkN (wrsJ d a p is) (k + is.length)
  | [], d, k, h, _, _ => h
  | i :: is, d, k, h, hs, hi => by
    have h0 := hi i (by simp)
    have := dkn_wrs hp hb is (dkn_write1 h (i := a + i) (by omega) (pc_len hp h0) (pc_bys hb i)) (by rw [safe_write]; exact hs) fun j hj => hi j (by simp [hj])
    rw [List.length_cons, show k + (is.length + 1) = k + 1 + is.length by omega]
    exact this
/-- a text, filled up to whole sectors -/
def fillJ (l : List Nat) (n : Nat) : List Nat := l ++ zerN (32 * n - l.length)
theorem fill_len {l : List Nat} {n : Nat} (h : l.length ≤ 32 * n) : (fillJ l n).length = 32 * n := by
  unfold fillJ; rw [List.length_append, zerN_len]; omega
theorem fill_bys {l : List Nat} (h : Bys l) (n : Nat) : Bys (fillJ l n) := h.app (zer_bys _)
/-- what put makes of a disk -/
def putD (d : DiskM) (a n : Nat) (l : List Nat) : DiskM := syncD (writesD d a (chunksK n (fillJ l n)))
end Go.Proofs.Ytccplgicfbfjiaa
namespace Go.Proofs.Ytccplgicfbfjiaa
open Go.RowKit Go.Shelf
set_option linter.unusedVariables false

attribute [local go_sem] Oper.semAt_some

end Go.Proofs.Ytccplgicfbfjiaa
namespace Go.Proofs.Ytccplgicfbfjiaa
open Go.RowKit
set_option linter.unusedVariables false

/-- an area, a journal in memory -/
def arV (D fr to : Nat) : List Value := [ptD D, .int .i64 (fr : Int), .int .i64 (to : Int)]
def juV (D : Nat) (m : JurM) : List Value := [ptD D, .int .i64 (m.fr : Int), .int .i64 (m.to : Int), .int .i64 (m.nx : Int)]
theorem Turn.then {base : Nat} {w w1 w2 : World} {F F1 F2 : Nat → Prop} (t : Turn base w w1 F F1) (hb : Below w.heap.size w1 w2) (hw : base ≤ w.heap.size) (hF : ∀ i, F2 i → F1 i ∨ w.heap.size ≤ i) : Turn base w w2 F F2 :=
  ⟨t.b.trans (hb.mono hw), fun i hi hn => (hb.block i hi).trans (t.out i hi hn), fun i hi => (hF i hi).elim (t.new i) .inr⟩
end Go.Proofs.Ytccplgicfbfjiaa
namespace Go.Proofs.Ytccplgicfbfjiaa
open Go.RowKit
set_option linter.unusedVariables false

theorem OwnB.same {w w' : World} {base : Nat} {e : TypeId} {v : Value} {l : List Int} (h : OwnB w base e v l) (hs : ∀ i, base ≤ i → i < w.heap.size → w'.heap[i]? = w.heap[i]?) : OwnB w' base e v l := by
  obtain ⟨h1, h2⟩ := h
  refine ⟨h1, ?_⟩
  rcases h2 with h2 | ⟨g, cap, cur, hv, hg, hh, r⟩
  · exact .inl h2
  · exact .inr ⟨g, cap, cur, hv, hg, (hs g hg (Array.getElem?_eq_some_iff.1 hh).1).trans hh, r⟩
theorem Bld.same {w w' : World} {base b : Nat} {l : List Nat} (h : Bld w base b l) (hs : ∀ i, base ≤ i → i < w.heap.size → w'.heap[i]? = w.heap[i]?) : Bld w' base b l := by
  obtain ⟨h1, p, v, h2, h3, h4, h5⟩ := h
  exact ⟨h1, p, v, h2, (hs b h1 h3.lt).trans h3, h4.same hs, h5⟩
theorem area_snocD (d : DiskM) (a n : Nat) : areaD d a (n + 1) = areaD d a n ++ readD d (a + n) := by
  rw [area_split]
  congr 1
  unfold areaD
  simp [List.range_succ]
theorem areaD_bys {d : DiskM} (hb : (∀ s ∈ d.sec, Bys s) ∧ ∀ p ∈ d.pen, Bys p.2) (a n : Nat) : Bys (areaD d a n) := by
  induction n with
  | zero => exact Bys.of fun x hx => by cases hx
  | succ n ih => rw [area_snocD]; exact ih.app (read_bys hb _)
end Go.Proofs.Ytccplgicfbfjiaa
namespace Go.Proofs.Ytccplgicfbfjiaa
open Go.RowKit Go.Shelf
set_option linter.unusedVariables false

attribute [local go_sem] Oper.semAt_some

end Go.Proofs.Ytccplgicfbfjiaa
