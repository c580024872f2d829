/- Walk of the depths of all symbols. -/
import Derived.Test.YtpjdlkbpnodcdaaPLeaf
import Derived.Test.YtpjdlkbpnodcdaaPGrow
namespace Go.Proofs.Ytpjdlkbpnodcdaa
open Go.RowKit
set_option linter.unusedVariables false

theorem info_int : (Try.prog.info? 3).map (fun i => (i.zero, i.size, i.bytes)) = some (some (.int .i64 0), 1, 8) := by kernel_rfl
theorem make_ints (n : Nat) (h : n ≤ 1000000000) (w : World) : (Instr.makeSlice 22 (.int .i64 (n : Int)) (.int .i64 (n : Int))).run Try.prog w = .ok (.slice (some ⟨w.heap.size, 0, none⟩) n n) (w.alloc (.cells (ints .i64 (nn (zerN n))).toArray 3)) := by
  obtain ⟨i0, hi0, hz0, hz1, hz2⟩ := info_parts2 info_int
  have hr := run_make (P := Try.prog) w 22 3 i0 (.int .i64 0) Try.underlying22 hi0 hz0 .i64 .i64 n n (by omega) (Int.le_refl _) (by rw [hz2]; omega) (by omega)
  simp only [Int.toNat_natCast, hz1, Nat.mul_one] at hr
  have e : madeCells (Value.int .i64 0).cells n = (ints .i64 (nn (zerN n))).toArray := by
    apply Array.ext'
    rw [show (Value.int .i64 0).cells = #[.int .i64 0] from rfl, toList_madeCells_one]
    simp [ints, nn, zerN]
  rw [hr, e]
theorem QS.mono {w : World} {base base' : Nat} {e : TypeId} {v : Value} {xs : List Value} (h : QS w base e v xs) (hb : base' ≤ base) : QS w base' e v xs := by
  obtain ⟨A, cap, rfl, ⟨rfl, h2⟩ | ⟨g, off, pre, rest, rfl, hg, r⟩⟩ := h
  · exact ⟨_, _, rfl, .inl ⟨rfl, h2⟩⟩
  · exact ⟨_, _, rfl, .inr ⟨g, off, pre, rest, rfl, by omega, r⟩⟩
theorem treesF_syms (fr : List Nat) : (treesF fr).map (·.2) = symsF fr fr.length := by
  unfold treesF symsF
  rw [List.map_map]
  exact List.map_id' _
theorem treesF_symsL (fr : List Nat) : (treesF fr).length = (symsF fr fr.length).length := by rw [← treesF_syms, List.length_map]
theorem symsF_pos {fr : List Nat} {j i : Nat} : i ∈ symsF fr j ↔ i < j ∧ 0 < fr.getD i 0 := by
  unfold symsF
  rw [List.mem_filter, List.mem_range]
  simp
theorem deps_none {fr : List Nat} (h : (symsF fr fr.length).length = 0) : zerN fr.length = depthsF fr := by
  refine getD_ext fr.length (zerN_len _) (depthsF_len fr) fun j hj => ?_
  rw [depthsF_getD hj]
  have h0 : fr.getD j 0 = 0 := by
    rcases Nat.eq_zero_or_pos (fr.getD j 0) with e | e
    · exact e
    · have := List.length_pos_of_mem (symsF_pos.2 ⟨hj, e⟩); omega
  unfold depF
  rw [if_pos h0]
  unfold zerN
  rw [List.getD_eq_getElem?_getD, List.getElem?_replicate]
  split <;> rfl
theorem zerN_getD (n j : Nat) : (zerN n).getD j 0 = 0 := by
  unfold zerN
  rw [List.getD_eq_getElem?_getD, List.getElem?_replicate]
  split <;> rfl
theorem deps_one {fr : List Nat} {s : Nat} (h : symsF fr fr.length = [s]) : (zerN fr.length).set s 1 = depthsF fr := by
  have hs := symsF_pos.1 (show s ∈ symsF fr fr.length by rw [h]; simp)
  refine getD_ext fr.length (by rw [List.length_set, zerN_len]) (depthsF_len fr) fun j hj => ?_
  rw [depthsF_getD hj, getD_set _ _ _ _ (by rw [zerN_len]; exact hs.1), zerN_getD]
  unfold depF
  by_cases e : s = j
  · subst e
    rw [if_pos rfl, if_neg (by omega), if_pos (by rw [treesF_symsL, h]; rfl)]
  · rw [if_neg e, if_pos]
    rcases Nat.eq_zero_or_pos (fr.getD j 0) with e0 | e0
    · exact e0
    · have := symsF_pos.2 ⟨hj, e0⟩
      rw [h, List.mem_singleton] at this
      exact absurd this.symm e
theorem deps_more {fr : List Nat} {t : HT} (h : 2 ≤ (symsF fr fr.length).length) (hp : t.syms.Perm (symsF fr fr.length)) (hd : ∀ s ∈ t.syms, t.dep s = deepT fr.length fr.length (treesF fr) s) : t.write 0 (zerN fr.length) = depthsF fr := by
  refine getD_ext fr.length (by rw [HT.write_len, zerN_len]) (depthsF_len fr) fun j hj => ?_
  rw [depthsF_getD hj, HT.write_getD _ _ _ _ (fun s hs => by rw [zerN_len]; exact symsF_lt (hp.subset hs)), zerN_getD]
  unfold depF
  by_cases e : j ∈ t.syms
  · have h0 := (symsF_pos.1 (hp.subset e)).2
    rw [if_pos e, if_neg (by omega), if_neg (by rw [treesF_symsL]; omega), hd j e, Nat.zero_add]
  · rw [if_neg e, if_pos]
    rcases Nat.eq_zero_or_pos (fr.getD j 0) with e0 | e0
    · exact e0
    · exact absurd (hp.symm.subset (symsF_pos.2 ⟨hj, e0⟩)) e
theorem sum_le_all {l : List Nat} {b : Nat} (h : ∀ x ∈ l, x ≤ b) : l.sum ≤ l.length * b := by
  induction l with
  | nil => simp
  | cons x l ih =>
    have h1 := h x (by simp)
    have h2 := ih (fun y hy => h y (by simp [hy]))
    rw [List.sum_cons, List.length_cons, Nat.add_mul]
    omega
/-- a row of numbers is handed back -/
def IntsRet (l : List Nat) (w : World) (e : Ending) (w' : World) : Prop := ∃ g, e = .returned (.slice (some ⟨g, 0, none⟩) l.length l.length) ∧ Blk w' g 3 (ints .i64 (nn l)) ∧ w.heap.size ≤ g ∧ Below w.heap.size w w'
set_option maxRecDepth 100000 in
set_option maxHeartbeats 2000000 in
theorem p_depths (fr : List Nat) (p : Option Addr) (cap : Nat) (w : World) (hl : fr.length ≤ 300) (hf : ∀ i, fr.getD i 0 ≤ 1048576) (hS : Sl w 1 (.slice p fr.length cap) (rowsN fr)) :
    Calls Try.prog 28 #[.slice p fr.length cap] w (IntsRet (depthsF fr) w) := by
  have hmk := fun w => make_ints fr.length (by omega) w
  obtain ⟨w1, hw1⟩ : ∃ w1, w.alloc (.cells (ints .i64 (nn (zerN fr.length))).toArray 3) = w1 := ⟨_, rfl⟩
  have hb1 : Below w.heap.size w w1 := by rw [← hw1]; exact (Below.refl _ _).alloc (Nat.le_refl _) _
  have hB1 : Blk w1 w.heap.size 3 (ints .i64 (nn (zerN fr.length))) := by rw [← hw1]; exact Blk.new' w _ _ rfl
  have hz1 : w1.heap.size = w.heap.size + 1 := by rw [← hw1]; simp
  have hC := p_leaves fr p cap w1 hl hf (hS.below hb1)
  have hdl := depthsF_len fr
  have HDL := Lib.hid hdl
  have hzl := zerN_len fr.length
  have HC := Lib.hid hC
  have HB := Lib.hid hb1
  have HBK := Lib.hid hB1
  have HZ1 := Lib.hid hz1
  have HW1 := Lib.hid hw1
  have HF := Lib.hid hf
  have hfr : fr.length = fr.length := rfl
  obtain ⟨n, hn⟩ : ∃ n, fr.length = n := ⟨_, rfl⟩
  have HN := Lib.hid hn
  rw [hn] at hmk hl hw1
  rw [hn]
  have HC' : Hid (Calls Try.prog 45 #[.slice p n cap] w1 (LeafRet fr w1)) := Lib.hid (by rw [← HN.out]; exact HC.out)
  clear hC hdl hb1 hB1 hz1 hf hS hfr hn HC hzl
  go_enter Try.func28, Try.ntmps28
  go_wp2_with fail
  clear hw1 HW1 hmk
  (with_reducible refine HC'.out.mono ?_)
  rintro e w2 ⟨N, S, v, rfl, hown, hN, hlo, hper, hsrt, hb2⟩
  have hB2 := HBK.out.below hb2 HBK.out.lt
  have hb02 := HB.out.trans (hb2.mono HB.out.size)
  have hlen := hper.length_eq
  have hSl : S.length ≤ 300 := by rw [hlen]; have := symsF_len fr fr.length; have := HN.out; omega
  by_cases h2 : 2 ≤ S.length
  · obtain ⟨g, cap2, rest, rfl, hg1, hg2, hBg, _⟩ := hown.blk (by omega)
    obtain ⟨Ss, hSs⟩ : ∃ Ss : List (HT × Nat), Ss = S.map fun s => (HT.lf (fr.getD s 0) s, N s) := ⟨_, rfl⟩
    have e1 : Ss.map bptr = (prow N S).flatten := by rw [hSs, List.map_map, prow_flat]; rfl
    have e2 : Ss.map (fun (q : HT × Nat) => q.1) = S.map fun s => HT.lf (fr.getD s 0) s := by rw [hSs, List.map_map]; rfl
    have e3 : (S.map fun s => HT.lf (fr.getD s 0) s).flatMap HT.syms = S := by rw [List.flatMap_map]; simp [HT.syms]
    have hq := (QS.ofOwn hown).mono (Nat.zero_le _)
    rw [← e1] at hq
    have hG := Gr.first (by rw [treesF_syms]; exact hper) hsrt
    rw [← e2] at hG
    have hsum : (Ss.map fun q => q.1.wt).sum ≤ 400000000 := by
      have := sum_le_all (l := Ss.map fun q => q.1.wt) (b := 1048576) (fun x hx => by
        obtain ⟨q, hq, rfl⟩ := List.mem_map.1 hx
        rw [hSs] at hq
        obtain ⟨s, _, rfl⟩ := List.mem_map.1 hq
        exact HF.out s)
      rw [List.length_map, hSs, List.length_map] at this
      rw [hSs]
      omega
    have hC := p_grown _ _ _ _ _ Ss _ w2 hq (fun q hq => by
      rw [hSs] at hq
      obtain ⟨s, hs, rfl⟩ := List.mem_map.1 hq
      exact hN s hs) hG (by rw [hSs, List.length_map]; omega) rfl (fun b hb => by cases hb; exact hg2) hsum (by rw [hSs, List.length_map]; exact hSl)
    rw [e2, e3] at hC
    have i1 : ((S.length : Int) == 0) = false := by rw [beq_eq_false_iff_ne]; omega
    have i2 : ((S.length : Int) == 1) = false := by rw [beq_eq_false_iff_ne]; omega
    have j1 : decide (S.length = 0) = false := decide_eq_false (by omega)
    have j2 : decide (S.length = 1) = false := decide_eq_false (by omega)
    have HC := Lib.hid hC
    have HB2 := Lib.hid hB2
    have HB02 := Lib.hid hb02
    have HPER := Lib.hid hper
    have HL2 := Lib.hid (show 2 ≤ (symsF fr fr.length).length by rw [← hlen]; exact h2)
    have hz := HZ1.out
    have HZ : Hid (w1.heap.size = w.heap.size + 1) := HZ1
    clear hC hown hN hlo hper hsrt hb2 hB2 hb02 hlen hBg hq hG hsum hSs e1 e2 e3 HC' hz h2
    go_wp2_with fail
    (with_reducible refine HC.out.mono ?_)
    rintro e w3 ⟨q, rfl, htr, hdep, hp, hb3⟩
    have hB3 := HB2.out.below hb3 HB2.out.lt
    have hps := hp.trans HPER.out
    have hdm := deps_more HL2.out hps hdep
    have hT := p_tell w.heap.size n n q.1 q.2 0 (zerN fr.length) w3 htr hB3 (by rw [zerN_len]; exact HN.out) (fun s hs => by have := symsF_lt (hps.subset hs); have := HN.out; omega) (by have := hp.length_eq; omega) (by omega)
    rw [hdm] at hT
    have e0 : ((0 : Nat) : Int) = 0 := rfl
    rw [e0] at hT
    have HT' := Lib.hid hT
    have hb03 := HB02.out.trans (hb3.mono HB02.out.size)
    clear hT hdm hdep hp hps hb3 htr hB3 HC e0
    unfold bptr
    go_wp2_with fail
    (with_reducible refine HT'.out.mono ?_)
    rintro e w4 ⟨rfl, ht4⟩
    have hb04 := ht4.below hb03 hb03.size (Nat.le_refl _)
    go_wp2
    go_ret
    exact ⟨w.heap.size, by rw [HDL.out, HN.out]; rfl, ht4.2, Nat.le_refl _, hb04⟩
  · by_cases h1 : S.length = 1
    · match S, h1 with
      | [s], _ =>
        obtain ⟨g, cap2, rest, rfl, hg1, hg2, hBg, _⟩ := hown.blk (by simp)
        have c1 := hBg.ptr (j := 0) (by simp)
        have hNs := hN s (by simp)
        have c2 := hNs.cell 1
        simp only [leafN, node, List.getElem?_cons_zero, List.getElem?_cons_succ] at c2
        have hs1 : symsF fr fr.length = [s] := List.perm_singleton.1 hper.symm
        have hd1 := deps_one hs1
        have hsn : s < n := by have := symsF_lt (show s ∈ symsF fr fr.length by rw [hs1]; simp); have := HN.out; omega
        have c3 := hB2.nat (j := s) (by rw [zerN_len]; have := HN.out; omega)
        have f3 := hB2.free s
        have hfin : Blk (w2.setCell ⟨w.heap.size, s, none⟩ (.int .i64 1)) w.heap.size 3 (ints .i64 (nn (depthsF fr))) := by rw [← hd1]; exact hB2.setNat s 1
        have hbf : Below w.heap.size w (w2.setCell ⟨w.heap.size, s, none⟩ (.int .i64 1)) := hb02.setCell (p := ⟨w.heap.size, s, none⟩) (Nat.le_refl _) _
        have i1 : (s : Int) < (n : Int) := by omega
        simp only [pv, List.getD_cons_zero] at c1
        have HFIN := Lib.hid hfin
        have HBF := Lib.hid hbf
        clear hown hN hlo hper hsrt hb2 hB2 hb02 hlen hBg hNs hs1 hd1 hfin hbf HC' h2 hsn
        simp only [List.length_cons, List.length_nil]
        go_wp2
        go_ret
        exact ⟨w.heap.size, by rw [HDL.out, HN.out]; rfl, HFIN.out, Nat.le_refl _, HBF.out⟩
    · have h0 : S.length = 0 := by omega
      have hS0 : S = [] := List.eq_nil_of_length_eq_zero h0
      subst hS0
      have hd0 := deps_none (fr := fr) (by rw [← hlen]; rfl)
      rw [hd0] at hB2
      obtain ⟨p3, cap3, rfl⟩ := hown.sl.isSlice
      have HB2 := Lib.hid hB2
      have HB02 := Lib.hid hb02
      have er : (prow N []).length = 0 := rfl
      rw [er]
      clear hown hN hlo hper hsrt hb2 hB2 hb02 hlen hd0 HC' h0 h1 h2 er
      go_wp2
      go_ret
      exact ⟨w.heap.size, by rw [HDL.out, HN.out]; rfl, HB2.out, Nat.le_refl _, HB02.out⟩
end Go.Proofs.Ytpjdlkbpnodcdaa
