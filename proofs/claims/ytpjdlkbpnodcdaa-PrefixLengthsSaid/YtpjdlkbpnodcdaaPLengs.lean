/- Walk of the program's Lengths. -/
import Derived.Test.YtpjdlkbpnodcdaaPLens
import Derived.Deep.LoopGhost
namespace Go.Proofs.Ytpjdlkbpnodcdaa
open Go.RowKit
set_option linter.unusedVariables false

theorem usedI_nn (fr : List Nat) : usedI (nn fr) = (treesF fr).length := by
  have e : fr = (List.range fr.length).map fun i => fr.getD i 0 := getD_ext fr.length rfl (by simp) fun j hj => by rw [map_range_getD _ _ _ hj]
  unfold usedI treesF nn
  rw [List.length_map]
  conv => lhs; rw [e]
  rw [List.map_map, List.filter_map, List.length_map]
  congr 1
  refine List.filter_congr fun i _ => ?_
  simp
theorem comes_nn {fr : List Nat} (h : ∀ x ∈ nn fr, Comes x) (i : Nat) : fr.getD i 0 ≤ 1048576 := by
  rcases Nat.lt_or_ge i fr.length with hi | hi
  · have h1 := h ((fr.getD i 0 : Nat) : Int) (List.mem_map.2 ⟨_, getD_mem _ _ hi, rfl⟩)
    have := h1.2
    omega
  · rw [List.getD_eq_getElem?_getD, List.getElem?_eq_none (by omega)]
    exact Nat.zero_le _
theorem Blk.slN {w : World} {g : Nat} {t : TypeId} {l : List Nat} (h : Blk w g t (ints .i64 (nn l))) (cap : Nat) : Sl w 1 (.slice (some ⟨g, 0, none⟩) l.length cap) (rowsN l) := by
  refine ⟨fun r hr => ?_, some ⟨g, 0, none⟩, cap, by rw [rowsN_len], fun i r hr => ⟨_, rfl, h.lt, fun j x hx => ?_⟩⟩
  · simp only [rowsN, List.mem_map] at hr
    obtain ⟨n, _, rfl⟩ := hr
    rfl
  · have hi : i < l.length := by have := (List.getElem?_eq_some_iff.1 hr).1; rwa [rowsN_len] at this
    rw [rowsN_at hi] at hr
    cases hr
    match j, hx with
    | 0, hx =>
      cases hx
      rw [Addr.add_mid, Nat.mul_one, Nat.zero_add, Nat.add_zero]
      exact h.nat hi
/-- a row of numbers and an error -/
def IntsRet2 (l : List Nat) (w : World) (e : Ending) (w' : World) : Prop := ∃ g, e = .returned (.tuple #[.slice (some ⟨g, 0, none⟩) l.length l.length, .int .i64 0]) ∧ Blk w' g 3 (ints .i64 (nn l)) ∧ w.heap.size ≤ g ∧ Below w.heap.size w w'
set_option maxRecDepth 100000 in
set_option maxHeartbeats 1000000 in
theorem p_Lengths_no (l : List Int) (x : Int) (p : Option Addr) (cap : Nat) (w : World) (hl : l.length ≤ 1000000) (hS : Sl w 1 (.slice p l.length cap) (rowsI l)) (hno : ¬ (1 ≤ x ∧ x ≤ 15 ∧ MayC l x.toNat)) :
    Calls Try.prog 11 #[.slice p l.length cap, .int .i64 x] w fun e w' => e = .returned (.tuple #[.slice none 0 0, .int .i64 1]) ∧ Below w.heap.size w w' := by
  have hb1 := (Below.refl w.heap.size w).alloc (Nat.le_refl _) (.cells #[.int .i64 x] 3)
  have HB := Lib.hid hb1
  by_cases h1 : x < 1
  · have d1 : decide (x < 1) = true := decide_eq_true h1
    clear hno hS hb1
    go_enter Try.func11, Try.ntmps11
    go_wp2
    go_ret2
    exact ⟨rfl, HB.out⟩
  · have d1 : decide (x < 1) = false := decide_eq_false h1
    by_cases h2 : 15 < x
    · have d2 : decide (15 < x) = true := decide_eq_true h2
      clear hno hS hb1
      go_enter Try.func11, Try.ntmps11
      go_wp2
      go_ret2
      exact ⟨rfl, HB.out⟩
    · have d2 : decide (15 < x) = false := decide_eq_false h2
      obtain ⟨lim, rfl⟩ : ∃ lim : Nat, x = (lim : Int) := ⟨x.toNat, by omega⟩
      have hM := p_mayCome l lim p cap _ hl (by omega) (by omega) (hS.below hb1) false (.inr ⟨rfl, fun h => hno ⟨by omega, by omega, h⟩⟩)
      have HM := Lib.hid hM
      clear hno hS hb1 hM
      go_enter Try.func11, Try.ntmps11
      go_wp2_with fail
      (with_reducible refine HM.out.mono ?_)
      rintro e w9 ⟨rfl, rfl⟩
      go_wp2
      go_ret2
      exact ⟨rfl, HB.out⟩
/-- how far it is -/
def LensAt (w : World) (lim n base LB : Nat) (R : List Nat) (gk : Nat) (u : Value) (wr : World) : Prop := ∃ fr, lensF lim gk fr = R ∧ fr.length = n ∧ (treesF fr).length ≤ 2 ^ lim ∧ (∀ i, fr.getD i 0 ≤ 2 ^ gk) ∧ gk ≤ 20 ∧ OwnR wr base 3 1 u (rowsN fr) ∧ Blk wr LB 3 [.int .i64 (lim : Int)] ∧ Below w.heap.size w wr
set_option maxRecDepth 100000 in
set_option maxHeartbeats 2000000 in
theorem p_Lengths_yes (fr : List Nat) (lim : Nat) (v : Value) (w : World) (h1 : 1 ≤ lim) (h2 : lim ≤ 15) (hM : MayC (nn fr) lim) (hS : Sl w 1 v (rowsN fr)) (hnil : v = .slice none 0 0 ∨ ∃ ad n c, v = .slice (some ad) n c) :
    Calls Try.prog 11 #[v, .int .i64 (lim : Int)] w (IntsRet2 (lensF lim 20 fr) w) := by
  have hfl : fr.length ≤ 300 := by have := hM.1; rwa [nn_length] at this
  obtain ⟨w1, hw1⟩ : ∃ w1, w.alloc (.cells #[.int .i64 (lim : Int)] 3) = w1 := ⟨_, rfl⟩
  have hb1 : Below w.heap.size w w1 := by rw [← hw1]; exact (Below.refl _ _).alloc (Nat.le_refl _) _
  have hLB : Blk w1 w.heap.size 3 [.int .i64 (lim : Int)] := by rw [← hw1]; exact Blk.new' w _ _ rfl
  have hz1 : w1.heap.size = w.heap.size + 1 := by rw [← hw1]; simp
  have hC := p_Clone fr v w1 (by omega) (hS.below hb1) hnil
  have hMC := p_mayCome (nn fr) lim
  obtain ⟨p, cap, rfl⟩ := hS.isSlice
  rw [rowsN_len] at *
  have hM1 := hMC p cap w1 (by rw [nn_length]; omega) h1 h2 (by rw [nn_length, rowsI_nn]; exact hS.below hb1) true (.inl ⟨rfl, hM⟩)
  rw [nn_length] at hM1
  have d1 : decide ((lim : Int) < 1) = false := decide_eq_false (by omega)
  have d2 : decide ((15 : Int) < (lim : Int)) = false := decide_eq_false (by omega)
  have hmf := mkf
  have hat : ∀ w2 v', OwnR w2 w1.heap.size 3 1 v' (rowsN fr) → Below w1.heap.size w1 w2 → LensAt w lim fr.length w1.heap.size w.heap.size (lensF lim 20 fr) 20 v' w2 := fun w2 v' ho hb => ⟨fr, rfl, rfl, by rw [← usedI_nn]; exact hM.2.2, fun i => comes_nn hM.2.1 i, Nat.le_refl _, ho, hLB.below hb hLB.lt, hb1.trans (hb.mono hb1.size)⟩
  have HAT := Lib.hid hat
  have HC := Lib.hid hC
  have HM1 := Lib.hid hM1
  have HZ1 := Lib.hid hz1
  have HRL := Lib.hid (lensF_len lim 20 fr)
  have c1 := hLB.cell 0
  simp only [List.getElem?_cons_zero] at c1
  have HW1 := Lib.hid hw1
  generalize lensF lim 20 fr = R at *
  obtain ⟨n, hn⟩ : ∃ n, fr.length = n := ⟨_, rfl⟩
  have HNN := Lib.hid hn
  rw [hn] at hfl HAT HC HM1 HRL ⊢
  have hlim : lim ≤ 15 := h2
  clear hS hM hC hM1 hMC hat hLB hb1 hz1 hnil hn h2
  go_enter Try.func11, Try.ntmps11
  go_wp2_with fail
  (with_reducible refine HM1.out.mono ?_)
  rintro e w9 ⟨rfl, rfl⟩
  go_wp2_with fail
  (with_reducible refine HC.out.mono ?_)
  rintro e w2 ⟨v', rfl, ho2, hb2⟩
  have hat2 := HAT.out w2 v' ho2 hb2
  obtain ⟨p', cap', hv'⟩ := ho2.sl.isSlice
  rw [rowsN_len, HNN.out] at hv'
  subst hv'
  have HAT2 := Lib.hid hat2
  clear ho2 hb2 hat2 HAT HC HM1 c1 hw1 HW1
  generalize w1.heap.size = B at *
  go_wp2_with fail
  go_loopg [7] 20 (fun gk _ wr => LensAt w lim n B w.heap.size R gk (.slice p' n cap') wr)
  case atStart => exact HAT2.out
  case round =>
    obtain ⟨fr', hR, hln, ht, hf, hgk, ho, hLB, hb⟩ := hrel
    clear HAT2
    have hp20 : 2 ^ gk ≤ 2 ^ 20 := Nat.pow_le_pow_right (by decide) hgk
    have hS3 := ho.sl
    rw [← hln] at hS3
    have hD := p_depths fr' p' cap' wr (by omega) (fun i => by have := hf i; have e : (2 : Nat) ^ 20 = 1048576 := rfl; omega) hS3
    have hH := fun w3 (hb3 : Below wr.heap.size wr w3) => p_halve B fr' (.slice p' n cap') w3 (by omega) (fun i => by have := hf i; have e : (2 : Nat) ^ 20 = 1048576 := rfl; omega) (ho.keep hb3)
    have hkeep := fun w3 (hb3 : Below wr.heap.size wr w3) => (show Blk w3 w.heap.size _ _ from hLB.below hb3 hLB.lt)
    have hlt := ho.lt
    have hdl := depthsF_len fr'
    have HDL := Lib.hid hdl
    have HD := Lib.hid hD
    have HH := Lib.hid hH
    have HK := Lib.hid hkeep
    have HR := Lib.hid hR
    have HB := Lib.hid hb
    have HT := Lib.hid ht
    have HF := Lib.hid hf
    have HLT := Lib.hid hlt
    have HLN := Lib.hid hln
    rw [hln] at HD hdl
    clear hS3 hD hH hkeep hR hb ht hf hlt ho hLB hp20
    go_wp2_with fail
    (with_reducible refine HD.out.mono ?_)
    rintro e w3 ⟨g, rfl, hG, hg, hb3⟩
    rw [hdl]
    have hlb3 := HK.out w3 hb3
    have hsl := hG.slN n
    rw [hdl] at hsl
    have hgk2 : gk ≤ 20 := hgk
    by_cases hfit : fitsF fr' lim = true
    · have hall : ∀ d ∈ depthsF fr', d ≤ lim := of_decide_eq_true hfit
      have hH2 := pl_Has (nn (depthsF fr')) (some ⟨g, 0, none⟩) n w3 w.heap.size (lim : Int) hlb3 (by rw [nn_length]; omega) (by rw [nn_length, rowsI_nn, hdl]; exact hsl) false (.inr ⟨rfl, fun x hx => by
        obtain ⟨d, hd, rfl⟩ := List.mem_map.1 hx
        have := hall d hd
        unfold Lng
        omega⟩)
      rw [nn_length, hdl] at hH2
      have hRR := lensF_first (k := gk) hfit
      rw [HR.out] at hRR
      rw [← hRR] at hG
      have HH2 := Lib.hid hH2
      have HG := Lib.hid hG
      have hbf := HB.out.trans (hb3.mono HB.out.size)
      have HBF := Lib.hid hbf
      have hgf : w.heap.size ≤ g := Nat.le_trans HB.out.size hg
      clear hH2 hG hsl hlb3 hRR hall hbf hb3 HD HH HK HT HF HLT
      go_wp2_with fail
      (with_reducible refine HH2.out.mono ?_)
      rintro e w9 ⟨rfl, rfl⟩
      go_wp2
      go_ret2
      exact ⟨g, by rw [HRL.out]; rfl, HG.out, hgf, HBF.out⟩
    · have hk0 : gk ≠ 0 := fun e => hfit (by
        subst e
        exact fits_ones h1 HT.out (fun i => HF.out i))
      obtain ⟨gp, rfl⟩ : ∃ gp, gk = gp + 1 := ⟨gk - 1, by omega⟩
      have hex : ∃ x ∈ nn (depthsF fr'), Lng (lim : Int) x := by
        have hno : ¬ ∀ d ∈ depthsF fr', d ≤ lim := fun h => hfit (decide_eq_true h)
        obtain ⟨d, hd⟩ := Classical.not_forall.1 hno
        obtain ⟨hd1, hd2⟩ := Classical.not_imp.1 hd
        exact ⟨(d : Int), List.mem_map.2 ⟨d, hd1, rfl⟩, by unfold Lng; omega⟩
      have hH2 := pl_Has (nn (depthsF fr')) (some ⟨g, 0, none⟩) n w3 w.heap.size (lim : Int) hlb3 (by rw [nn_length]; omega) (by rw [nn_length, rowsI_nn, hdl]; exact hsl) true (.inl ⟨rfl, hex⟩)
      rw [nn_length, hdl] at hH2
      have HH2 := Lib.hid hH2
      have hhv := HH.out w3 hb3
      have HHV := Lib.hid hhv
      have HLB3 := Lib.hid hlb3
      have HB3 := Lib.hid hb3
      have hbf := HB.out.trans (hb3.mono HB.out.size)
      have HBF := Lib.hid hbf
      clear hH2 hG hsl hlb3 hex hbf hb3 hhv HD HH HK hk0
      go_wp2_with fail
      (with_reducible refine HH2.out.mono ?_)
      rintro e w9 ⟨rfl, rfl⟩
      go_wp2_with fail
      (with_reducible refine HHV.out.mono ?_)
      rintro e w4 ⟨rfl, ho4, hg4⟩
      have hRn : lensF lim gp (halveF fr') = R := by
        rw [← HR.out]
        exact (if_neg hfit).symm
      have hlb4 := HLB3.out.grownO hg4 (fun i hi => by have := (HLT.out i hi).1; have := HZ1.out; omega)
      have hb4 := HBF.out.grown hg4 HBF.out.size (fun i hi => by have := (HLT.out i hi).1; have := HZ1.out; omega)
      have ht4 : (treesF (halveF fr')).length ≤ 2 ^ lim := by rw [treesF_halve_len]; exact HT.out
      have hf4 : ∀ i, (halveF fr').getD i 0 ≤ 2 ^ gp := fun i => by
        have := HF.out i
        rw [halveF_getD]
        rw [Nat.pow_succ] at this
        omega
      have hfin : LensAt w lim n B w.heap.size R gp (.slice p' n cap') w4 := ⟨halveF fr', hRn, by rw [halveF_len]; exact HLN.out, ht4, hf4, by omega, ho4, hlb4, hb4⟩
      have HFIN := Lib.hid hfin
      clear hRn hlb4 hb4 ht4 hf4 hfin ho4 hg4 hfit
      go_wp2
      go_roundg gp
      case measure => omega
      case rel => exact HFIN.out
end Go.Proofs.Ytpjdlkbpnodcdaa
