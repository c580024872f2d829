/- Walk of the program's disk: Crash, sector by sector. -/
import Derived.Test.YtdpdgmfmjgjmiaaZCra
import Derived.Test.YtdpdgmfmjgjmiaaJ1
namespace Go.Proofs.Ytdpdgmfmjgjmiaa
open Go.RowKit
set_option linter.unusedVariables false

variable {w : World} {base D S M k : Nat} {E : DataW Unit} {V : Nat → Value} {q : Option (Nat × Int)} {d : DiskM}
def crS (D S M n i j kb : Nat) (A R : List Value) (vi vk : Value) (o : Nat) (v : Value) (_ : World) : Prop :=
  match o with
  | 0 | 1 | 5 | 6 | 12 | 13 => v = .pointer (some ⟨D, 0, none⟩)
  | 2 | 7 => v = .pointer (some ⟨D, 0, none⟩)
  | 14 => v = .pointer (some ⟨D, 1, none⟩)
  | 3 | 8 => v = .slice (some ⟨S, 0, none⟩) n n
  | 4 | 9 | 16 => v = .int .i64 (i : Int)
  | 10 | 22 => v = .pointer (some ⟨S, i * 32, none⟩)
  | 11 => v = .agg A.toArray
  | 15 => v = .map (some M)
  | 17 => v = vi
  | 18 => v = vk
  | 19 => v = .int .i64 (j : Int)
  | 20 => v = .int .u8 (kb : Int)
  | 21 => v = .agg R.toArray
  | _ => True
set_option maxRecDepth 100000 in
set_option maxHeartbeats 4000000 in
theorem d_Crash (h : DkW w base D S M k E V q d) (hb : DkB d) (keep : List Nat) (p : Option Addr) (c : Nat) (hk : keep.length ≤ 1000) (hy : Bys keep) (hS : Sl w 1 (.slice p keep.length c) (rowsU .u8 keep))
    (hka : 0 < keep.length → ∀ a, p = some a → ¬ foot D S M V q a.block) (d' : DiskM) (hd : crashD d keep = d') :
    Calls Try.prog 13 #[ptD D, .slice p keep.length c] w fun x w' => x = .returned (.tuple #[]) ∧ ∃ k' E' V' q', DkW w' base D S M k' E' V' q' d' ∧ Turn base w w' (foot D S M V q) (foot D S M V' q') := by
  have hlen := hb.sec
  have hk1 : k ≤ 100000 := by rw [h.len]; exact hb.pen
  have HKY := Lib.hid (d_keys M w)
  have HSO := Lib.hid (d_sorted h.pen.map hk1)
  have c1 := h.c1
  have H := Lib.hid h
  have HB := Lib.hid hb
  have HKL := Lib.hid hk
  have HKS := Lib.hid hS
  have HKA := Lib.hid hka
  have HD := Lib.hid hd
  have HY := Lib.hid hy
  have HLN := Lib.hid hlen
  have hkl := ksD_len d
  unfold ptD
  clear h hb hk hS hka hd hy hk1
  go_enter Try.func13, Try.ntmps13
  go_wp2_with fail
  (with_reducible refine HKY.out.mono ?_)
  rintro e w1 ⟨rfl, rfl⟩
  go_wp2_with fail
  (with_reducible refine HSO.out.mono ?_)
  rintro e w2 ⟨v, ss, rfl, hperm, hown, _, hb2⟩
  obtain ⟨pk, ck, rfl⟩ := own_slice hown
  have hsort := sorted_ks H.out.pen HB.out.ok hperm
  rw [hsort] at hown
  have hssl : ss.length = (ksD d).length := by
    have e1 := congrArg List.length hsort
    rw [List.length_mergeSort] at e1
    rw [e1]
    unfold ksI
    rw [List.length_map]
  obtain ⟨m, hm⟩ : ∃ m, (ksD d).length = m := ⟨_, rfl⟩
  rw [hssl, hm] at hown ⊢
  rw [hm] at hkl
  have hO2 : OwnR w2 (w.heap.size + 1) 3 1 (.slice pk m ck) (rowsN (ksI d)) := by
    refine ⟨fun r hr => ?_, ?_⟩
    · obtain ⟨x, _, rfl⟩ := List.mem_map.1 hr
      rfl
    · rw [rowsN_flat]
      have : (rowsN (ksI d)).length = m := by unfold rowsN ksI; rw [List.length_map, List.length_map, hm]
      rw [this]
      exact hown
  have hB2 : Below w.heap.size w w2 := ((Below.refl w.heap.size w).alloc (Nat.le_refl _) (.cells #[.map (some M)] 46)).trans (hb2.mono (Nat.le_succ _))
  obtain ⟨h2, t2⟩ := H.out.turn hB2
  have hz2 : w.heap.size + 1 ≤ w2.heap.size := by have := hb2.size; simp at this; omega
  have H2 := Lib.hid h2
  have T2 := Lib.hid t2
  have O2 := Lib.hid hO2
  have HMM := Lib.hid hm
  have HZ2 := Lib.hid hz2
  clear h2 t2 hO2 hB2 hb2 hown hperm hsort hssl hm HSO HKY c1 hz2
  go_wp2_with fail
  go_loopw [13] (fun u wr => ∃ j : Nat, u = .int .i64 (j : Int) ∧ j ≤ m ∧ DkW wr base D S M k E V q (secS d (secC d keep j)) ∧ Turn base w wr (foot D S M V q) (foot D S M V q) ∧ OwnR wr (w.heap.size + 1) 3 1 (.slice pk m ck) (rowsN (ksI d))) (fun u _ => m - (intOf u).toNat)
  case atStart => exact ⟨0, rfl, Nat.zero_le _, by rw [secC_start]; exact H2.out, T2.out, O2.out⟩
  case round =>
    obtain ⟨j, rfl, hj, hw, ht, ho⟩ := hrel
    by_cases hjm : j < m
    · have d1 : (j : Int) < (m : Int) := by omega
      obtain ⟨g, cap, rest, hv, hg, hbk⟩ := ho.blkR (by have := HMM.out; unfold rowsN ksI; rw [List.length_map, List.length_map]; omega)
      have hrl : (rowsN (ksI d)).length = m := by unfold rowsN ksI; rw [List.length_map, List.length_map, HMM.out]
      rw [hrl] at hv
      obtain ⟨rfl, rfl⟩ : pk = some ⟨g, 0, none⟩ ∧ ck = cap := by
        simp only [Value.slice.injEq] at hv
        exact ⟨hv.1, hv.2.2⟩
      have hjk : j < (ksD d).length := by rw [HMM.out]; exact hjm
      obtain ⟨i, hi⟩ : ∃ i, (ksD d)[j]? = some i := ⟨_, List.getElem?_eq_getElem hjk⟩
      have hck : wr.cell? ⟨g, j, none⟩ = some (.int .i64 (i : Int)) := by
        rw [hbk.cell, rowsN_flat]
        unfold ksI
        rw [List.getElem?_append_left (by rw [List.length_map, List.length_map]; exact hjk), List.getElem?_map, List.getElem?_map, hi]
        rfl
      obtain ⟨hi0, hpi, htj⟩ := (ksD_place d j i).1 hi
      have hi2 : i ≤ 100000 := by omega
      have hiL : i < (secS d (secC d keep j)).sec.length := by show i < (secC d keep j).length; rw [secC_len]; exact hi0
      have hbL := dkb_secC HB.out keep j
      have hnow := secC_now d keep hi
      have hcn := crash_now d keep hi
      have hstep := secC_step d keep hi
      obtain ⟨a0, ha0⟩ : ∃ a0, d.sec.getD i [] = a0 := ⟨_, rfl⟩
      rw [ha0] at hnow hcn
      have hcl : (crashS d keep i).length = 32 := by
        rw [hcn, ← ha0]
        exact torn_len (getD_mem32 HB.out.ok hi0) fun x hx => (HB.out.ok.pen _ (pen_mem hx)).1
      obtain ⟨s, hs⟩ : ∃ s, crashS d keep i = s := ⟨_, rfl⟩
      rw [hs] at hcn hstep hcl
      obtain ⟨kb, hkb⟩ : ∃ kb, keepD keep j = kb := ⟨_, rfl⟩
      have hkb2 : kb < 256 := by rw [← hkb]; exact keepD_lt HY.out j
      rw [hkb] at hcn
      obtain ⟨gb, cb, hvi⟩ : ∃ b c, V i = .slice (some ⟨b, 0, none⟩) (penD d.pen i).length c := by
        rcases H.out.pen.shape i with ⟨e, _⟩ | ⟨_, b, c, e⟩
        · exact absurd e hpi
        · exact ⟨b, c, e⟩
      have hpl : (penD d.pen i).length ≤ 100000 := Nat.le_trans (List.length_filterMap_le _ _) HB.out.pen
      have hpp : 0 < (penD d.pen i).length := List.length_pos_iff.2 hpi
      have ha32 : a0.length = 32 := by rw [← ha0]; exact getD_mem32 HB.out.ok hi0
      have hCR := fun W (hx : DkW W base D S M k E V q (secS d (secC d keep j))) => d_crashed a0 ha32 (penD d.pen i) (fun x hx => (HB.out.ok.pen _ (pen_mem hx)).1) hpl gb cb kb hkb2 W (by rw [← hvi]; exact (hx.own i).sl) hpp
      rw [← hcn] at hCR
      have hTO := fun W (hx : Sl W 1 (.slice p keep.length c) (rowsU .u8 keep)) => d_told keep p c j kb hkb (by have := HKL.out; omega) (by omega) W hx
      have hLK := fun W (hx : DkW W base D S M k E V q (secS d (secC d keep j))) => hx.pen.look hi2
      rw [hvi] at hLK
      obtain ⟨pl, hpl2⟩ : ∃ pl, (penD d.pen i).length = pl := ⟨_, rfl⟩
      rw [hpl2] at hCR hLK
      obtain ⟨R, hR⟩ : ∃ R, rowB s = R := ⟨_, rfl⟩
      obtain ⟨A, hA⟩ : ∃ A, rowB a0 = A := ⟨_, rfl⟩
      have hRl : R.length = 32 := by rw [← hR, rowB_len, hcl]
      have hAl : A.length = 32 := by rw [← hA, rowB_len, ha32]
      have hR1 : R.toArray.all (·.oneCell') = true := by rw [← hR]; exact rowB_one _
      rw [hR, hA] at hCR
      have hRow := fun W (hx : DkW W base D S M k E V q (secS d (secC d keep j))) => row_at hiL (hx.slS hbL.ok)
      rw [show (secS d (secC d keep j)).sec.getD i [] = a0 from hnow, hA] at hRow
      have hst := fun W (hx : DkW W base D S M k E V q (secS d (secC d keep j))) => hx.stored hbL hiL s hcl
      rw [hR] at hst
      have hnew : secS (secS d (secC d keep j)) ((secS d (secC d keep j)).sec.set i s) = secS d (secC d keep (j + 1)) := by rw [hstep]; rfl
      rw [hnew] at hst
      have hsz : (secS d (secC d keep j)).sec.length = d.sec.length := secC_len _ _ _
      have hKr : Sl wr 1 (.slice p keep.length c) (rowsU .u8 keep) := HKS.out.same ht.b.size fun a e hn => ht.out a.block (HKS.out.lt a e hn) (HKA.out hn a e)
      have HW := Lib.hid hw
      have HT := Lib.hid ht
      have HO := Lib.hid ho
      have HCR := Lib.hid hCR
      have HTO := Lib.hid hTO
      have HLK := Lib.hid hLK
      have HRW := Lib.hid hRow
      have HST := Lib.hid hst
      have HSZ := Lib.hid hsz
      have HRl := Lib.hid hRl
      have HAl := Lib.hid hAl
      have HR1 := Lib.hid hR1
      have HKR := Lib.hid hKr
      have HGB := Lib.hid hg
      have hin : (i : Int) < (d.sec.length : Int) := by omega
      have HLK2 := Lib.hid (show pl ≤ 100000 by omega)
      clear hw ht ho hCR hTO hLK hRow hst hsz hRl hAl hR1 hKr hg hbk hv hrl hjk hi hi0 hpi htj hi2 hiL hbL hnow hcn hstep ha0 hcl hs hkb hkb2 hvi hpl hpp ha32 hpl2 hR hA hnew
      generalize hn : d.sec.length = n at *
      go_wp2_with fail
      refine region_free_last 23 mixed (by kernel_rfl) (by kernel_rfl) (fun u => #[_, _, _, _, _, _, _, _, _, _, _, _, _, _, _, _, _, _, u 0, u 1, u 2, u 3, u 4, u 5, u 6, u 7, u 8, u 9, u 10, u 11, u 12, u 13, u 14, u 15, u 16, u 17, u 18, u 19, u 20, u 21, u 22, _, _, _, _, _, _, _, _, _]) [] (fun o => match o with | 0 => _ | 1 => _ | 2 => _ | 3 => _ | 4 => _ | 5 => _ | 6 => _ | 7 => _ | 8 => _ | 9 => _ | 10 => _ | 11 => _ | 12 => _ | 13 => _ | 14 => _ | 15 => _ | 16 => _ | 17 => _ | 18 => _ | 19 => _ | 20 => _ | 21 => _ | 22 => _ | _ => undef) rfl
        (NewBut wr) (show Below _ _ _ from (Below.refl _ _).drew) (crS D S M n i j kb A R (.slice (some ⟨gb, 0, none⟩) pl cb) (.slice p keep.length c)) ?mono ?step ?last
      case mono => exact fun o v W W' h _ _ _ => h
      case step =>
        intro u W o x ho hx hC hd
        have hr := Below.refl W.heap.size W
        have hDW := HW.out.below hC
        have c0 := hDW.c0
        rw [HSZ.out] at c0
        have c1 := hDW.c1
        have hL := HLK.out W hDW
        have HDW := Lib.hid hDW
        have HKW := Lib.hid (HKR.out.below hC)
        clear hDW
        rcases o with _ | _ | _ | _ | _ | _ | _ | _ | _ | _ | _ | _ | _ | _ | _ | _ | _ | _ | _ | _ | _ | _ | _ | o
        all_goals try (simp only [List.getElem?_cons_zero, List.getElem?_cons_succ, Option.some.injEq] at hx; subst hx)
        · go_wp2_with fail
          exact ⟨_, rfl, rfl, hC, hr⟩
        · have h1 : u 0 = .pointer (some ⟨D, 0, none⟩) := hd ⟨0, .data⟩ (by simp) rfl
          rw [h1]; go_wp2_with fail
          exact ⟨_, by simp [upd, h1], rfl, hC, hr⟩
        · have h1 : u 1 = .pointer (some ⟨D, 0, none⟩) := hd ⟨1, .data⟩ (by simp) rfl
          rw [h1]; go_wp2_with fail
          exact ⟨_, by simp [upd, h1], rfl, hC, hr⟩
        · have h1 : u 2 = .pointer (some ⟨D, 0, none⟩) := hd ⟨2, .data⟩ (by simp) rfl
          rw [h1]; go_wp2_with fail
          exact ⟨_, by simp [upd, h1], rfl, hC, hr⟩
        · go_wp2_with fail
          exact ⟨_, rfl, rfl, hC, hr⟩
        · go_wp2_with fail
          exact ⟨_, rfl, rfl, hC, hr⟩
        · have h1 : u 5 = .pointer (some ⟨D, 0, none⟩) := hd ⟨5, .data⟩ (by simp) rfl
          rw [h1]; go_wp2_with fail
          exact ⟨_, by simp [upd, h1], rfl, hC, hr⟩
        · have h1 : u 6 = .pointer (some ⟨D, 0, none⟩) := hd ⟨6, .data⟩ (by simp) rfl
          rw [h1]; go_wp2_with fail
          exact ⟨_, by simp [upd, h1], rfl, hC, hr⟩
        · have h1 : u 7 = .pointer (some ⟨D, 0, none⟩) := hd ⟨7, .data⟩ (by simp) rfl
          rw [h1]; go_wp2_with fail
          exact ⟨_, by simp [upd, h1], rfl, hC, hr⟩
        · go_wp2_with fail
          exact ⟨_, rfl, rfl, hC, hr⟩
        · have h1 : u 8 = .slice (some ⟨S, 0, none⟩) n n := hd ⟨8, .data⟩ (by simp) rfl
          have h2 : u 9 = .int .i64 (i : Int) := hd ⟨9, .data⟩ (by simp) rfl
          rw [h1, h2]; go_wp2_with fail
          exact ⟨_, by simp [upd, h1, h2], rfl, hC, hr⟩
        · have h1 : u 10 = .pointer (some ⟨S, i * 32, none⟩) := hd ⟨10, .data⟩ (by simp) rfl
          rw [h1]; go_wp2_with (refine wpList_load_addr rfl 54 _ rfl ⟨S, i * 32, none⟩ rfl A (HRW.out W HDW.out) Try.underlying54 rfl (by rw [size_sec, HAl.out]) ?_)
          exact ⟨_, by simp [upd, h1], rfl, hC, hr⟩
        · go_wp2_with fail
          exact ⟨_, rfl, rfl, hC, hr⟩
        · have h1 : u 12 = .pointer (some ⟨D, 0, none⟩) := hd ⟨12, .data⟩ (by simp) rfl
          rw [h1]; go_wp2_with fail
          exact ⟨_, by simp [upd, h1], rfl, hC, hr⟩
        · have h1 : u 13 = .pointer (some ⟨D, 0, none⟩) := hd ⟨13, .data⟩ (by simp) rfl
          rw [h1]; go_wp2_with fail
          exact ⟨_, by simp [upd, h1], rfl, hC, hr⟩
        · have h1 : u 14 = .pointer (some ⟨D, 1, none⟩) := hd ⟨14, .data⟩ (by simp) rfl
          rw [h1]; go_wp2_with fail
          exact ⟨_, by simp [upd, h1], rfl, hC, hr⟩
        · go_wp2_with fail
          exact ⟨_, rfl, rfl, hC, hr⟩
        · have h1 : u 15 = .map (some M) := hd ⟨15, .data⟩ (by simp) rfl
          have h2 : u 16 = .int .i64 (i : Int) := hd ⟨16, .data⟩ (by simp) rfl
          rw [h1, h2]; go_wp2_with fail
          exact ⟨_, by simp [upd, h1, h2], rfl, hC, hr⟩
        · go_wp2_with fail
          exact ⟨_, rfl, rfl, hC, hr⟩
        · go_wp2_with fail
          exact ⟨_, rfl, rfl, hC, hr⟩
        · have h1 : u 18 = .slice p keep.length c := hd ⟨18, .data⟩ (by simp) rfl
          have h2 : u 19 = .int .i64 (j : Int) := hd ⟨19, .data⟩ (by simp) rfl
          rw [h1, h2]; go_wp2_with fail
          (with_reducible refine (HTO.out W HKW.out).mono ?_)
          rintro e w3 ⟨rfl, rfl⟩
          go_wp2_with fail
          exact ⟨_, by simp [upd, h1, h2], rfl, hC, hr⟩
        · have h1 : u 11 = .agg A.toArray := hd ⟨11, .data⟩ (by simp) rfl
          have h2 : u 17 = .slice (some ⟨gb, 0, none⟩) pl cb := hd ⟨17, .data⟩ (by simp) rfl
          have h3 : u 20 = .int .u8 (kb : Int) := hd ⟨20, .data⟩ (by simp) rfl
          rw [h1, h2, h3]; go_wp2_with fail
          (with_reducible refine (HCR.out W HDW.out).mono ?_)
          rintro e w3 ⟨rfl, hb3⟩
          go_wp2_with fail
          exact ⟨_, by simp [upd, h1, h2, h3], rfl, hC.trans (hb3.mono hC.size), hb3⟩
        · have h1 : u 3 = .slice (some ⟨S, 0, none⟩) n n := hd ⟨3, .data⟩ (by simp) rfl
          have h2 : u 4 = .int .i64 (i : Int) := hd ⟨4, .data⟩ (by simp) rfl
          rw [h1, h2]; go_wp2_with fail
          exact ⟨_, by simp [upd, h1, h2], rfl, hC, hr⟩
        · omega
      case last =>
        intro u W o hx hC hS
        simp only [List.getElem?_cons_zero, List.getElem?_cons_succ, Option.some.injEq] at hx
        subst hx
        have h7 : u 21 = .agg R.toArray := hS 21 (by decide)
        have h8 : u 22 = .pointer (some ⟨S, i * 32, none⟩) := hS 22 (by decide)
        obtain ⟨k1, k2, k3⟩ := HST.out W (HW.out.below hC)
        have K1 := Lib.hid k1
        have K2 := Lib.hid k2
        have hTw : Turn base wr W (foot D S M V q) (foot D S M V q) := Turn.of_below hC (by have := HW.out.blk.lt; have := HW.out.hD; omega)
        have K3 := Lib.hid (HT.out.trans (hTw.trans k3))
        have hbl := below_setCells (b := S) (B := S) (x := W) (Nat.le_refl _) R (i * 32) W (Below.refl _ _)
        have hgS : W.grownBy (W.setCells S (i * 32) R) (some S) := ⟨hbl.os, hbl.tape, hbl.output, hbl.size, fun b _ hb => heap_setCells (fun e => hb (by rw [e])) _ _ _⟩
        have K4 := Lib.hid ((HO.out.keep hC).grownO hgS (fun b e e2 => by
          have e3 := Option.some.inj e2
          have h5 := (HO.out.lt b e).1
          have h6 := H.out.sec.lt
          omega))
        clear k1 k2 k3 hTw hbl hgS hS hC
        rw [h7, h8]
        go_wp2_with (refine wpList_store_sec rfl 54 _ _ rfl S (i * 32) rfl R rfl K1.out HRl.out size_sec HR1.out ?_)
        go_roundw
        case rel => exact ⟨j + 1, by go_num, by omega, K2.out, K3.out, K4.out⟩
        case measure => (simp [intOf]; try omega)
    · obtain rfl : j = m := by omega
      have hfin := secC_end d keep
      rw [HMM.out] at hfin
      have d1 : ¬ (j : Int) < (j : Int) := by omega
      have HLs := Lib.hid (fun w => d_lasting w)
      have c1r := hw.c1
      have HMr := Lib.hid hw.pen.map
      have HW := Lib.hid hw
      have HT := Lib.hid ht
      have HF := Lib.hid hfin
      clear hw ht ho hfin
      go_wp2_with (refine wpList_clear_own _ rfl _ 46 rfl 3 45 Try.underlying46 hdrR M k E rfl HMr.out ?_; intro w5 hown5 hg5)
      obtain ⟨h5, t5⟩ := HW.out.cleared hown5 hg5
      have c2 := h5.c2
      have f2 := h5.blk.free 2
      have h6 : DkW (w5.setCell ⟨D, 2, none⟩ (pwV none)) base D S M 0 (.map []) noV none d' := h5.setPower (by rw [← HD.out]; show _ = (secC d keep j); rw [HF.out]; rfl) (by rw [← HD.out]; rfl) (by rw [← HD.out]; rfl) (fun L l e => by cases e) (fun L l e => by cases e)
      have t6 : Turn base w (w5.setCell ⟨D, 2, none⟩ (pwV none)) (foot D S M V q) (foot D S M noV none) := by
        have hb5 := t5.b.size
        have hbz := HW.out.blk.lt
        have hbd := HW.out.hD
        have tt := HT.out.trans (t5.trans (Turn.of_grown (F := foot D S M noV q) (grown_setCell w5 ⟨D, 2, none⟩ (pwV none)) (by omega) (fun b e => by cases e; exact ⟨.inl rfl, h5.hD⟩)))
        refine ⟨tt.b, tt.out, fun b hb => tt.new b ?_⟩
        rcases hb with e | e | e | e | e
        · exact .inl e
        · exact .inr (.inl e)
        · exact .inr (.inr (.inl e))
        · cases e
        · exact .inr (.inr (.inr (.inr e)))
      have H6 := Lib.hid h6
      have T6 := Lib.hid t6
      clear h5 t5 h6 t6 hown5 hg5
      unfold pwV at H6 T6
      go_wp2_with ((with_reducible refine (HLs.out _).mono ?_); rintro e w6 ⟨rfl, rfl⟩; unfold pwV)
      go_end0
      exact ⟨rfl, _, _, _, _, H6.out, T6.out⟩
end Go.Proofs.Ytdpdgmfmjgjmiaa
