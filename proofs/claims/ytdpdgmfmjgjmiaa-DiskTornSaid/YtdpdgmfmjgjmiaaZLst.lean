/- Walks of the program's disk: what was written to a sector last; what is read, what is safe. -/
import Derived.Test.YtdpdgmfmjgjmiaaZSec
namespace Go.Proofs.Ytdpdgmfmjgjmiaa
open Go.RowKit
set_option linter.unusedVariables false

theorem row_at {l : List (List Nat)} {j : Nat} (h : j < l.length) {w : World} {b n c : Nat} (hs : Sl w 32 (.slice (some ⟨b, 0, none⟩) n c) (rowsB l)) : ∀ m v, (rowB (l.getD j []))[m]? = some v → w.cell? (Addr.add ⟨b, j * 32, none⟩ m) = some v := by
  obtain ⟨a, e, hc⟩ := hs.row (rowsB_at h)
  cases e
  intro m v hv
  have := hc m v hv
  rw [Addr.add_mid, Nat.zero_add] at this
  exact this
set_option maxRecDepth 100000 in
theorem d_last {w : World} {base D S M k : Nat} {E : DataW Unit} {V : Nat → Value} {q : Option (Nat × Int)} {d : DiskM} (h : DkW w base D S M k E V q d) (hb : DkB d) (i : Nat) (hi : i < d.sec.length) (s : List Nat) (hs : readD d i = s) :
    Calls Try.prog 32 #[ptD D, .int .i64 (i : Int)] w fun e w' => e = .returned (.agg (rowB s).toArray) ∧ Below w.heap.size w w' := by
  have hsl : s.length = 32 := by rw [← hs]; exact read_len hb.ok hi
  obtain ⟨R, hR⟩ : ∃ R, rowB s = R := ⟨_, rfl⟩
  obtain ⟨Z, hZ⟩ : ∃ Z, rowB (zerN 32) = Z := ⟨_, rfl⟩
  have hRl : R.length = 32 := by rw [← hR, rowB_len, hsl]
  have hZl : Z.length = 32 := by rw [← hZ, rowB_len, zerN_len]
  have h1 : R.toArray.all (·.oneCell') = true := by rw [← hR]; exact rowB_one _
  have hsec := hb.sec
  have hi2 : i ≤ 100000 := by omega
  obtain ⟨w1, hw1⟩ : ∃ w1, w.alloc (.cells Z.toArray 54) = w1 := ⟨_, rfl⟩
  have hb1 : Below w.heap.size w w1 := by rw [← hw1]; exact (Below.refl w.heap.size w).alloc (Nat.le_refl _) _
  have h' := h.below hb1
  have k0 : Blk w1 w.heap.size 54 Z := by rw [← hw1]; exact Blk.new w _ Z
  have hal : ∀ w', (Instr.alloc 54 true (.tuple #[])).run Try.prog w' = .ok (.pointer (some ⟨w'.heap.size, 0, none⟩)) (w'.alloc (.cells Z.toArray 54)) := fun w' => by rw [← hZ]; exact alloc_sec w'
  have hL := h'.pen.look hi2
  have c0 := h'.c0
  have c1 := h'.c1
  have kb := below_setRow hb1 (b := w.heap.size) (Nat.le_refl _) R.toArray
  have k2 := k0.row R (by rw [hRl, hZl])
  have hp := hb.pen
  have hpl : (penD d.pen i).length ≤ 100000 := Nat.le_trans (List.length_filterMap_le _ _) hp
  have hin : (i : Int) < (d.sec.length : Int) := by omega
  rw [hR]
  unfold ptD
  rcases h.pen.shape i with ⟨he, hv⟩ | ⟨hne, b, c, hv⟩
  · rw [hv] at hL
    have hrow : ∀ m v, R[m]? = some v → w1.cell? (Addr.add ⟨S, i * 32, none⟩ m) = some v := by
      have := row_at hi (h'.slS hb.ok)
      have e : d.sec.getD i [] = s := by rw [← hs]; unfold readD; rw [he]; rfl
      rw [e, hR] at this
      exact this
    have HROW := Lib.hid hrow
    have HAL := Lib.hid hal
    have K0 := Lib.hid k0
    have K2 := Lib.hid k2
    have KB := Lib.hid kb
    have HRl := Lib.hid hRl
    have HZl := Lib.hid hZl
    have H1 := Lib.hid h1
    clear hrow hal k0 k2 kb hRl hZl h1 h h' hb hb1 hs hsl hR hZ he hv hp hpl hi2 hsec hi
    generalize d.sec.length = n at *
    subst hw1
    go_enter Try.func32, Try.ntmps32
    go_wp2_with (first | (refine wpList_alloc_n rfl 54 rfl w.heap.size rfl _ (HAL.out _) ?_) | (refine wpList_load_addr rfl 54 _ rfl _ rfl R HROW.out Try.underlying54 rfl (by rw [size_sec, HRl.out]) ?_) | (refine wpList_store_blk rfl 54 _ _ rfl w.heap.size R rfl rfl K0.out (by rw [size_sec, HRl.out]) (by rw [HRl.out, HZl.out]) H1.out ?_))
    refine bodyPost_ret (v := .agg R.toArray) (results_cell_blk rfl _ _ _ rfl K2.out Try.underlying54 rfl (by rw [size_sec, HRl.out])) rfl ⟨rfl, KB.out⟩
  · rw [hv] at hL
    have hpos : 0 < (penD d.pen i).length := List.length_pos_iff.2 hne
    have hrow : ∀ m v, R[m]? = some v → w1.cell? (Addr.add ⟨b, ((penD d.pen i).length - 1) * 32, none⟩ m) = some v := by
      have ho := (h'.own i).sl
      rw [hv] at ho
      have hl : (penD d.pen i).length - 1 < (penD d.pen i).length := by omega
      have := row_at hl ho
      have e : (penD d.pen i).getD ((penD d.pen i).length - 1) [] = s := by
        rw [← hs]
        unfold readD lastD
        rw [List.getLast?_eq_getElem?, List.getD_eq_getElem?_getD, List.getElem?_eq_getElem hl]
        rfl
      rw [e, hR] at this
      exact this
    obtain ⟨m, hm⟩ : ∃ m, (penD d.pen i).length = m := ⟨_, rfl⟩
    rw [hm] at hrow hL hpos hpl
    obtain ⟨u, rfl⟩ : ∃ u, m = u + 1 := ⟨m - 1, by omega⟩
    rw [Nat.add_sub_cancel] at hrow
    have e1 : (((u + 1 : Nat) : Int) - 1).toNat = u := by omega
    have e2 : ((u + 1 : Nat) : Int) - 1 = (u : Int) := by omega
    have g1 : (0 : Int) < ((u + 1 : Nat) : Int) := by omega
    have g2 : (u : Int) < ((u + 1 : Nat) : Int) := by omega
    have HROW := Lib.hid hrow
    have HAL := Lib.hid hal
    have K0 := Lib.hid k0
    have K2 := Lib.hid k2
    have KB := Lib.hid kb
    have HRl := Lib.hid hRl
    have HZl := Lib.hid hZl
    have H1 := Lib.hid h1
    clear hrow hal k0 k2 kb hRl hZl h1 h h' hb hb1 hs hsl hR hZ hne hv hp hi2 hsec hi hm
    generalize d.sec.length = n at *
    subst hw1
    go_enter Try.func32, Try.ntmps32
    go_wp2_with (first | (refine wpList_alloc_n rfl 54 rfl w.heap.size rfl _ (HAL.out _) ?_) | (refine wpList_load_addr rfl 54 _ rfl ⟨b, u * 32, none⟩ rfl R HROW.out Try.underlying54 rfl (by rw [size_sec, HRl.out]) ?_) | (refine wpList_store_blk rfl 54 _ _ rfl w.heap.size R rfl rfl K0.out (by rw [size_sec, HRl.out]) (by rw [HRl.out, HZl.out]) H1.out ?_))

    refine bodyPost_ret (v := .agg R.toArray) (results_cell_blk rfl _ _ _ rfl K2.out Try.underlying54 rfl (by rw [size_sec, HRl.out])) rfl ⟨rfl, KB.out⟩
end Go.Proofs.Ytdpdgmfmjgjmiaa
