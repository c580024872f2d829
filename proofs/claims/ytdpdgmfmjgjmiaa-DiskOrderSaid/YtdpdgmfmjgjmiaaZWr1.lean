/- Walk of the program's disk: the closure that makes one more pending. -/
import Derived.Test.YtdpdgmfmjgjmiaaZWri
namespace Go.Proofs.Ytdpdgmfmjgjmiaa
open Go.RowKit
set_option linter.unusedVariables false

variable {w : World} {base D S M k : Nat} {E : DataW Unit} {V : Nat → Value} {q : Option (Nat × Int)} {d : DiskM}
set_option maxRecDepth 100000 in
set_option maxHeartbeats 2000000 in
theorem d_Write1 (h : DkW w base D S M k E V q d) (hb : DkB d) (i : Nat) (hi : i < d.sec.length) (s : ByteArray) (hs : s.size = 32) (B0 B1 B2 : Nat)
    (b0 : Blk w B0 25 [ptD D]) (b1 : Blk w B1 3 [.int .i64 (i : Int)]) (b2 : Blk w B2 9 [.string s]) :
    Calls Try.prog 21 #[.pointer (some ⟨B0, 0, none⟩), .pointer (some ⟨B1, 0, none⟩), .pointer (some ⟨B2, 0, none⟩)] w fun e w' => e = .returned (.tuple #[]) ∧
      ∃ k' E' V', DkW w' base D S M k' E' V' q (penA d i (sl s)) ∧ Turn base w w' (foot D S M V q) (foot D S M V' q) := by
  obtain ⟨i0, hi0, hz0, hz1, hz2⟩ := info_sec2
  have hsec := hb.sec
  have hpen := hb.pen
  have hi2 : i ≤ 100000 := by omega
  have hpl : (penD d.pen i).length ≤ 100000 := Nat.le_trans (List.length_filterMap_le _ _) hpen
  obtain ⟨pv, hpv⟩ : ∃ pv, pwV q = pv := ⟨_, rfl⟩
  obtain ⟨R, hR⟩ : ∃ R, rowB (sl s) = R := ⟨_, rfl⟩
  have hRl : R.length = 32 := by rw [← hR, rowB_len, sl_len, hs]
  have hSO := fun wx => d_sectorOf s hs wx
  rw [hR] at hSO
  have hR1 : ∀ r ∈ [R], ∀ z ∈ r, z.oneCell' = true := fun r hr z hz => by
    rw [List.mem_singleton.1 hr, ← hR] at hz
    have := rowB_one (sl s)
    rw [Array.all_eq_true_iff_forall_mem] at this
    exact this z (by simpa using hz)
  have hk : k ≤ 100000 := by rw [h.len]; exact hpen
  have hblk := h.blk
  rw [hpv] at hblk
  have hlo := (h.own i).lt
  have hn0 := (h.own i).ne b0 (by decide)
  have hn1 := (h.own i).ne b1 (by decide)
  have hn2 := (h.own i).ne b2 (by decide)
  have hnD := (h.own i).ne h.blk (by decide)
  have hnM : ∀ b, (V i).ownBlock = some b → b ≠ M := fun b e => h.neVM e
  have hbase : base ≤ w.heap.size := by have := h.blk.lt; have := h.hD; omega
  have hrl : (rowsB (penD d.pen i)).length = (penD d.pen i).length := rowsB_len _
  have hC0 : wrC w base D S M k B0 B1 B2 E V pv d i s false w := ⟨b0, b1, b2, hblk, h.pen, ⟨rfl, rfl, rfl, Nat.le_refl _, fun _ _ _ => rfl⟩, fun _ => h.own i⟩
  have hC0' : wrC w base D S M k B0 B1 B2 E V pv d i s false w.drew := wrC_new hC0 (Below.refl _ _).drew
  have H := Lib.hid h
  have HC0 := Lib.hid hC0'
  have HSO := Lib.hid hSO
  have HR1 := Lib.hid hR1
  have HRl := Lib.hid hRl
  have HLO := Lib.hid hlo
  have HN0 := Lib.hid hn0
  have HN1 := Lib.hid hn1
  have HN2 := Lib.hid hn2
  have HND := Lib.hid hnD
  have HNM := Lib.hid hnM
  have HBA := Lib.hid hbase
  have HRW := Lib.hid hrl
  have HPL := Lib.hid hpl
  have HRE := Lib.hid hR
  have HK := Lib.hid hk
  have HI2 := Lib.hid hi2
  have HI := Lib.hid hi
  have c0 := b0.cell 0
  have c1 := b1.cell 0
  have c2 := b2.cell 0
  simp only [List.getElem?_cons_zero] at c0 c1 c2
  clear h hb hs hsec hpen hi2 hpl hSO hR1 hRl hlo hn0 hn1 hn2 hnD hnM hbase hrl hC0 hC0' hR hk hi hblk b0 b1 b2 hpv c0 c1 c2
  go_enter Try.func21, Try.ntmps21
  refine region_mix 14 15 (by decide) mixed (by kernel_rfl) (by kernel_rfl) (fun u => #[_, _, _, u 0, u 1, u 2, u 3, u 4, u 5, u 6, u 7, u 8, u 9, u 10, u 11, u 12, u 13, u 14]) [] (fun _ => undef) rfl
        (wrC w base D S M k B0 B1 B2 E V pv d i s) HC0.out (wrK (V i)) (wrS w base D M (V i) i s R (rowsB (penD d.pen i))) ?mono ?step ?one ?last
  case mono => exact wrS_mono fun b e => (HLO.out b e).2
  case step =>
    intro b u W j o hj hjk _ ho hC hd
    have hr : wrK (V i) b W W := by cases b <;> exact ⟨rfl, rfl, rfl, Nat.le_refl _, fun _ _ _ => rfl⟩
    have c0 := hC.1.cell 0
    have c1 := hC.2.1.cell 0
    have c2 := hC.2.2.1.cell 0
    have cD := hC.2.2.2.1.cell 1
    have hL := hC.2.2.2.2.1.look HI2.out
    simp only [List.getElem?_cons_zero, List.getElem?_cons_succ] at c0 c1 c2 cD
    unfold ptD at c0
    have HC := Lib.hid hC
    have HR := Lib.hid hr
    clear hC hr
    rcases j with _ | _ | _ | _ | _ | _ | _ | _ | _ | _ | _ | _ | _ | _ | _ | _ | j
    all_goals try (simp only [List.getElem?_cons_zero, List.getElem?_cons_succ, Option.some.injEq] at ho; subst ho)
    · go_wp2_with fail
      exact ⟨_, rfl, rfl, HC.out, HR.out⟩
    · have h1 : u 0 = .pointer (some ⟨D, 0, none⟩) := hd ⟨0, .data⟩ (by simp) rfl
      rw [h1]; go_wp2_with fail
      exact ⟨_, by simp [upd, h1], rfl, HC.out, HR.out⟩
    · have h1 : u 1 = .pointer (some ⟨D, 0, none⟩) := hd ⟨1, .data⟩ (by simp) rfl
      rw [h1]; go_wp2_with fail
      exact ⟨_, by simp [upd, h1], rfl, HC.out, HR.out⟩
    · have h1 : u 2 = .pointer (some ⟨D, 1, none⟩) := hd ⟨2, .data⟩ (by simp) rfl
      rw [h1]; go_wp2_with fail
      exact ⟨_, by simp [upd, h1], rfl, HC.out, HR.out⟩
    · go_wp2_with fail
      exact ⟨_, rfl, rfl, HC.out, HR.out⟩
    · go_wp2_with fail
      exact ⟨_, rfl, rfl, HC.out, HR.out⟩
    · have h1 : u 5 = .pointer (some ⟨D, 0, none⟩) := hd ⟨5, .data⟩ (by simp) rfl
      rw [h1]; go_wp2_with fail
      exact ⟨_, by simp [upd, h1], rfl, HC.out, HR.out⟩
    · have h1 : u 6 = .pointer (some ⟨D, 0, none⟩) := hd ⟨6, .data⟩ (by simp) rfl
      rw [h1]; go_wp2_with fail
      exact ⟨_, by simp [upd, h1], rfl, HC.out, HR.out⟩
    · have h1 : u 7 = .pointer (some ⟨D, 1, none⟩) := hd ⟨7, .data⟩ (by simp) rfl
      rw [h1]; go_wp2_with fail
      exact ⟨_, by simp [upd, h1], rfl, HC.out, HR.out⟩
    · go_wp2_with fail
      exact ⟨_, rfl, rfl, HC.out, HR.out⟩
    · have h1 : u 8 = .map (some M) := hd ⟨8, .data⟩ (by simp) rfl
      have h2 : u 9 = .int .i64 (i : Int) := hd ⟨9, .data⟩ (by simp) rfl
      rw [h1, h2]; go_wp2_with fail
      exact ⟨_, by simp [upd, h1, h2], rfl, HC.out, HR.out⟩
    · go_wp2_with fail
      exact ⟨_, rfl, rfl, HC.out, HR.out⟩
    · have h1 : u 11 = .string s := hd ⟨11, .data⟩ (by simp) rfl
      rw [h1]; go_wp2_with fail
      (with_reducible refine (HSO.out W).mono ?_)
      rintro e w3 ⟨rfl, hb3⟩
      go_wp2_with fail
      exact ⟨_, by simp [upd, h1], rfl, wrC_new HC.out hb3, wrK_new hb3⟩
    · have h1 : u 12 = .agg R.toArray := hd ⟨12, .data⟩ (by simp) rfl
      have hz := HC.out.2.2.2.2.2.1.size
      have hbl := (Below.refl W.heap.size W).alloc (Nat.le_refl _) (.cells R.toArray 54)
      have K1 := Lib.hid (wrC_new HC.out hbl)
      have K2 : Hid (wrK (V i) b W (W.alloc (.cells R.toArray 54))) := Lib.hid (wrK_new hbl)
      have K3 := Lib.hid (Blk.new W 54 R)
      clear hbl
      rw [h1]; go_wp2_with (refine wpList_buildRow rfl 45 54 _ rfl R i0 (.agg (rowB (zerN 32)).toArray) W.heap.size rfl Try.underlying45 hi0 hz0 (by rw [hz1, HRl.out]) (by rw [HRl.out]; decide) (by rw [HRl.out]; decide) (by simp only [List.map_toArray, List.map_cons, List.map_nil]; rfl) ?_)
      exact ⟨_, by simp [upd, h1], ⟨W.heap.size, hz, rfl, K3.out⟩, K1.out, K2.out⟩
    · omega
    · omega
    · omega
  case one =>
    intro u W o ho hC hd
    simp only [List.getElem?_cons_zero, List.getElem?_cons_succ, Option.some.injEq] at ho
    subst ho
    have h4 : u 10 = V i := hd ⟨10, .data⟩ (by simp) rfl
    obtain ⟨y, hy, h8, hY⟩ : ∃ y, w.heap.size ≤ y ∧ u 13 = .slice (some ⟨y, 0, none⟩) 1 1 ∧ Blk W y 54 R := hd ⟨13, .data⟩ (by simp) rfl
    have hO := hC.2.2.2.2.2.2 rfl
    have hnw := sl_one hY
    rw [HRl.out] at hnw
    have hlen : (rowsB (penD d.pen i)).length + [R].length ≤ maxLen := by rw [HRW.out, List.length_singleton]; have := HPL.out; unfold maxLen; omega
    have hby : ((rowsB (penD d.pen i)).length + [R].length) * 32 ≤ 140737488355328 := by rw [HRW.out, List.length_singleton]; have := HPL.out; omega
    have hbase : base ≤ W.heap.size := Nat.le_trans HBA.out hC.2.2.2.2.2.1.size
    have hfin : ∀ v' w5, OwnR w5 base 54 32 v' (rowsB (penD d.pen i) ++ [R]) → W.grownBy w5 (V i).ownBlock → (v'.ownBlock = (V i).ownBlock ∨ v'.ownBlock = some W.heap.size) → wrS w base D M (V i) i s R (rowsB (penD d.pen i)) 14 v' w5 ∧ wrC w base D S M k B0 B1 B2 E V pv d i s true w5 ∧ wrK (V i) false W w5 := fun v' w5 q1 q2 q3 =>
      ⟨⟨q1, q3.imp id (fun e => ⟨_, e, hC.2.2.2.2.2.1.size⟩)⟩, ⟨hC.1.grownP q2 (fun e => HN0.out B0 e rfl), hC.2.1.grownP q2 (fun e => HN1.out B1 e rfl), hC.2.2.1.grownP q2 (fun e => HN2.out B2 e rfl), hC.2.2.2.1.grownP q2 (fun e => HND.out D e rfl),
        hC.2.2.2.2.1.kept q2 (fun e => HNM.out M e.symm rfl), hC.2.2.2.2.2.1.trans q2, fun e => by cases e⟩, q2⟩
    have HFIN := Lib.hid hfin
    have HO := Lib.hid hO
    have HNW := Lib.hid hnw
    have HLEN := Lib.hid hlen
    have HBY := Lib.hid hby
    have HBW := Lib.hid hbase
    clear hO hnw hlen hby hbase hY hC hd hfin
    rw [h4, h8]
    go_wp2_with (first | (refine wpList_append_rows rfl _ _ 45 rfl base 54 i0 (.agg (rowB (zerN 32)).toArray) 32 32 Try.underlying45 hi0 hz0 hz1 hz2 zsec_cells (by decide) (V i) (rowsB (penD d.pen i)) rfl HO.out (.slice (some ⟨y, 0, none⟩) 1 1) [R] rfl HNW.out HR1.out HLEN.out HBY.out HBW.out (.inr ⟨_, _, _, rfl⟩) ?_; intro v' w5 ho5 hg5 hv5))
    obtain ⟨q1, q2, q3⟩ := HFIN.out v' w5 ho5 hg5 hv5
    exact ⟨v', by simp [upd, h4, h8]; rfl, q1, q2, q3⟩
  case last =>
    intro u W o ho hC hS
    simp only [List.getElem?_cons_zero, List.getElem?_cons_succ, Option.some.injEq] at ho
    subst ho
    have h3 : u 3 = .map (some M) := hS 3 (by decide)
    have h4 : u 4 = .int .i64 (i : Int) := hS 4 (by decide)
    obtain ⟨h14, hv14⟩ : OwnR W base 54 32 (u 14) (rowsB (penD d.pen i) ++ [R]) ∧ ((u 14).ownBlock = (V i).ownBlock ∨ ∃ g, (u 14).ownBlock = some g ∧ w.heap.size ≤ g) := hS 14 (by decide)
    obtain ⟨g, c, rest, hv, hg, _⟩ := h14.blkR (by rw [List.length_append]; simp)
    rw [List.length_append, HRW.out, List.length_singleton] at hv
    rw [hv] at h14 hv14
    have hgl : (V i).ownBlock = some g ∨ w.heap.size ≤ g := by
      rcases hv14 with e | ⟨g', e, hg'⟩
      · exact .inl e.symm
      · cases e; exact .inr hg'
    have hfin := fun W' hm hg' => H.out.pended HI.out (s := sl s) (W' := W') hC.2.2.2.2.2.1 (by rw [HRE.out]; exact h14) hgl hm hg'
    have HFIN := Lib.hid hfin
    have HM := Lib.hid hC.2.2.2.2.1.map
    have hkm : k < maxLen := by have := HK.out; unfold maxLen; omega
    have hkey := Lib.hid (key_at HI2.out)
    clear hS hC h14 hv14 hgl hfin
    rw [h3, h4, hv]
    go_wp2_with (first | (at_mapUpdate; refine wpList_mapUpdate_own _ rfl _ _ _ 46 rfl 3 45 law_int Try.underlying46 hdrR M k _ rfl HM.out hkm _ _ _ rfl rfl hkey.out _ [] (hdr_slice g ((penD d.pen i).length + 1) c) ?_; intro w8 hown8 hg8))
    go_end0
    obtain ⟨f1, f2⟩ := HFIN.out w8 hown8 hg8
    exact ⟨rfl, _, _, _, f1, f2⟩
end Go.Proofs.Ytdpdgmfmjgjmiaa
