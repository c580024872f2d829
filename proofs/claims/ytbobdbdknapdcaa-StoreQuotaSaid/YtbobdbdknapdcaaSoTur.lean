/- The store turns to a journal that it writes anew: no blocks, the first epoch. -/
import Derived.Test.YtbobdbdknapdcaaSoOpn
import Derived.Test.YtbobdbdknapdcaaThr
namespace Go.Proofs.Ytbobdbdknapdcaa
open Go.RowKit
set_option linter.unusedVariables false

variable {w w' : World} {base : Nat}
theorem size_sto : (Try.prog.info? 56).map (·.size) = some 11 := by kernel_rfl
theorem Turn.not {base : Nat} {w w' : World} {F F' : Nat → Prop} (t : Turn base w w' F F') {i : Nat} (h : ¬ F i) (hi : i < w.heap.size) : ¬ F' i := fun h' => (t.new i h').elim h fun e => by omega
/-- the worlds of three stores -/
def trC (a b c : World) (x y : Bool) (W : World) : Prop := W = (if x then (if y then c else b) else a)
set_option maxRecDepth 100000 in
set_option maxHeartbeats 4000000 in
theorem s_turn0 {P D b0 b1 b2 M : Nat} {x0 x1 : Value} {us : Nat} {c0 c1 c2 c3 : Value} {d : DiskM} {js : List (Nat × JurM)} {F : Nat → Prop} (hP : Blk w P 56 (stP D b0 b1 b2 x0 x1 us ++ [c0, c1, c2, c3])) (h : StJ base w D d js F) (hPF : ¬ F P) (hP0 : base ≤ P)
    (hM : MapW w M 0 (.map []) []) (hMF : ¬ F M) (hM0 : base ≤ M) (hb : DkJ d 1000) (hw : base ≤ w.heap.size) (hlt : b0 + 2 ≤ b1) (hto : b1 ≤ d.sec.length) (hbig : b1 ≤ 1000) :
    Calls Try.prog 15 #[.pointer (some ⟨P, 0, none⟩), .int .i64 0, .agg (coV M (.slice none 0 0) 1 true).toArray] w fun x w' => x = .returned (.int .i64 0) ∧ ∃ J F' d', StJ base w' D d' ((J, ⟨b0, b1, b0 + 1⟩) :: js) F' ∧ DkJ d' 2000 ∧ d'.sec.length = d.sec.length ∧ JurOk d' ⟨b0, b1, b0 + 1⟩ [77 :: bigL 1 8] ∧
      Blk w' P 56 (stP D b0 b1 b2 (ptD J) x1 0 ++ coV M (.slice none 0 0) 1 true) ∧ ¬ F' P ∧ MapW w' M 0 (.map []) [] ∧ ¬ F' M ∧ Below base w w' := by
  have hltM := hM.map.lt
  obtain ⟨Y, hY⟩ : ∃ Y, w.heap.size = Y := ⟨_, rfl⟩
  obtain ⟨w1, hw1⟩ : ∃ w1, w.alloc (.cells (coV M (.slice none 0 0) 1 true).toArray 54) = w1 := ⟨_, rfl⟩
  have s1 : w1.heap.size = Y + 1 := by rw [← hw1, ← hY]; simp
  have hb1 : Below w.heap.size w w1 := by rw [← hw1]; exact (Below.refl w.heap.size w).alloc (Nat.le_refl _) _
  have k1 : Blk w1 Y 54 (coV M (.slice none 0 0) 1 true) := by rw [← hw1]; exact Blk.newAt w Y hY _ _ rfl
  have hFl := theJur.lt h
  have hPY : P ≠ Y := by have := hP.lt; omega
  have h1 := (h.below hb1 hw).1
  have hP1 := hP.below hb1 hP.lt
  have hM1 := hM.below hb1
  have hB01 : Below base w w1 := hb1.mono hw
  obtain ⟨d2, hd2⟩ : ∃ d2, clD d b0 = d2 := ⟨_, rfl⟩
  have hdk2 : DkJ d2 1002 := by rw [← hd2]; exact dkj_clear hb (by omega)
  have hlen2 : d2.sec.length = d.sec.length := by rw [← hd2]; exact cl_len d b0
  have hj2 : JurOk d2 ⟨b0, b1, b0⟩ [] := by rw [← hd2]; exact jur_clear (by omega) hto
  have hsc := jur_open hj2
  have hCl := fun (wx : World) (hx : StJ base wx D d js F) (hwx : base ≤ wx.heap.size) => theJur.clear hx (hb.more (by decide)) hwx b0 b1 (by omega) hto (by omega) d2 hd2
  have k0 := hP1.cell 0
  have k1' := hP1.cell 1
  have k2' := hP1.cell 2
  simp only [stP, List.cons_append, List.getElem?_cons_zero, List.getElem?_cons_succ] at k0 k1' k2'
  have H1 := Lib.hid h1
  have HP1 := Lib.hid hP1
  have HM1 := Lib.hid hM1
  have HB01 := Lib.hid hB01
  have K1 := Lib.hid k1
  have S1 := Lib.hid s1
  have HCL := Lib.hid hCl
  have HDK2 := Lib.hid hdk2
  have HLEN2 := Lib.hid hlen2
  have HJ2 := Lib.hid hj2
  have HSC := Lib.hid hsc
  have HFL := Lib.hid hFl
  have HPY := Lib.hid hPY
  have HPF := Lib.hid hPF
  have HMF := Lib.hid hMF
  have HY := Lib.hid hY
  have HW := Lib.hid hw
  have HLT := Lib.hid hlt
  have HTO := Lib.hid hto
  have HBIG := Lib.hid hbig
  have HPL := Lib.hid hP.lt
  have HML := Lib.hid hltM
  have HP0 := Lib.hid hP0
  clear hP h hPF hP0 hM hMF hb hw hlt hto hbig hltM s1 hb1 k1 hFl hPY h1 hP1 hM1 hB01 hdk2 hlen2 hj2 hsc hCl hd2
  unfold ptD at k0 HCL
  go_enter Try.func15, Try.ntmps15
  go_wp2_with fail
  refine region_drew_tail 17 mixed (by kernel_rfl) ?_
  simp only [List.take_succ_cons, List.take_zero, List.drop_succ_cons, List.drop_zero]
  repeat (first | go_big_quiet_step (fail) | (refine wpQuiet_step (fun K' hK' => ?_); go_simp; first | (refine hK' _ ?_; clear hK' K') | (refine ⟨_, fun _ _ => rfl, hK' _ ?_⟩; clear hK' K')))
  refine wpQuiet_nil ?_
  rintro _ ⟨m1, rfl⟩
  have h1d : StJ base (w1.drewN m1) D d js F := H1.out.keep (Nat.le_refl _) fun _ _ => rfl
  have hwd : base ≤ (w1.drewN m1).heap.size := by have := S1.out; have := HW.out; show base ≤ w1.heap.size; omega
  have hcl := HCL.out _ h1d hwd
  have HCL1 := Lib.hid hcl
  clear h1d hwd hcl
  go_wp2_with fail
  (with_reducible refine HCL1.out.mono ?_)
  rintro x w2 ⟨F2, rfl, h2, t2⟩
  have s1 := S1.out
  have hy := HY.out
  have hpl := HPL.out
  have hml := HML.out
  have hz1 : (w1.drewN m1).heap.size = Y + 1 := s1
  have hFY : ¬ F Y := fun e => by have := (HFL.out Y e).2; omega
  have P2 := t2.blk (HP1.out.drewN m1) HPF.out
  have K2 := t2.blk (K1.out.drewN m1) hFY
  have M2 := (HM1.out.drewN m1).same (t2.out M (by rw [hz1]; omega) HMF.out)
  have nP2 := t2.not HPF.out (by rw [hz1]; omega)
  have nM2 := t2.not HMF.out (by rw [hz1]; omega)
  have nY2 := t2.not hFY (by rw [hz1]; omega)
  have hs2 : Y + 1 ≤ w2.heap.size := by have := t2.b.size; rw [hz1] at this; exact this
  have hB2 : Below base w w2 := (below_drewN HB01.out m1).trans t2.b
  have hw2 : base ≤ w2.heap.size := by have := HW.out; omega
  have hto2 : b1 ≤ d2.sec.length := by rw [HLEN2.out]; exact HTO.out
  have HO := Lib.hid (s_open0 (P := P) P2 h2 (HDK2.out.more (by decide)) hw2 (by have := HLT.out; omega) hto2 HBIG.out [] 0 HSC.out)
  have HP2 := Lib.hid P2
  have HK2 := Lib.hid K2
  have HM2 := Lib.hid M2
  have HN2 : Hid (¬ F2 P ∧ ¬ F2 M ∧ ¬ F2 Y) := Lib.hid ⟨nP2, nM2, nY2⟩
  have HS2 := Lib.hid hs2
  have HB2 := Lib.hid hB2
  have HTO2 := Lib.hid hto2
  clear h2 t2 s1 hy hpl hml hz1 hFY P2 K2 M2 nP2 nM2 nY2 hs2 hB2 hw2 hto2
  unfold ptD at HO
  go_wp2_with fail
  (with_reducible refine HO.out.mono ?_)
  rintro x w3 ⟨J, p3, q3, F3, rfl, h3, _, t3⟩
  have hs2 := HS2.out
  have hpl := HPL.out
  have hml := HML.out
  have hy := HY.out
  have P3 := t3.blk HP2.out HN2.out.1
  have K3 := t3.blk HK2.out HN2.out.2.2
  have M3 := HM2.out.same (t3.out M (by omega) HN2.out.2.1)
  have HP3 := Lib.hid P3
  have HK3 := Lib.hid K3
  have HM3 := Lib.hid M3
  have HN3 : Hid (¬ F3 P ∧ ¬ F3 M ∧ ¬ F3 Y) := Lib.hid ⟨t3.not HN2.out.1 (by omega), t3.not HN2.out.2.1 (by omega), t3.not HN2.out.2.2 (by omega)⟩
  have HS3 : Hid (Y + 1 ≤ w3.heap.size) := Lib.hid (Nat.le_trans hs2 t3.b.size)
  have HB3 := Lib.hid (HB2.out.trans t3.b)
  have H3 := Lib.hid h3
  have HFR := Lib.hid (c_frames0 K3 (by decide))
  clear h3 t3 hs2 hpl hml hy P3 K3 M3
  go_wp2_with fail
  (with_reducible refine HFR.out.mono ?_)
  rintro x w4 ⟨p4, q4, rfl, sl4, b4⟩
  have h4 := (H3.out.below b4 (by have := HS3.out; have := HW.out; have := HY.out; omega)).1
  have P4 := HP3.out.below b4 HP3.out.lt
  have M4 := HM3.out.below b4
  have hz4 : Y + 1 ≤ w4.heap.size := Nat.le_trans HS3.out b4.size
  have hB4 := HB3.out.trans (b4.mono (by have := HS3.out; have := HW.out; have := HY.out; omega))
  obtain ⟨a4, ha4, cl4⟩ := SlS.cell sl4 (j := 0) (by decide)
  have hcell : w4.cell? (a4.add 0) = some (.string (tx (77 :: bigL 1 8))) := cl4
  obtain ⟨T, hT⟩ : ∃ T, tx (77 :: bigL 1 8) = T := ⟨_, rfl⟩
  have hTs : sl T = 77 :: bigL 1 8 := by
    rw [← hT]
    refine sl_tx (Bys.of fun x hx => ?_)
    rcases List.mem_cons.1 hx with rfl | hx
    · decide
    · exact (big_bys 1 8).mem hx
  have hTz : T.size = 9 := by rw [← sl_len, hTs, List.length_cons, big_len]
  have hsec : secK 9 = 1 := by decide
  have hap : apE ⟨b0, b1, b0 + 0⟩ T.size = 0 := by unfold apE; rw [hTz, hsec, if_pos (show 1 ≤ b1 - (b0 + 0) by have := HLT.out; omega)]
  obtain ⟨d3, hd3⟩ : ∃ d3, apD d2 ⟨b0, b1, b0 + 0⟩ (sl T) = d3 := ⟨_, rfl⟩
  have hm3 : apM ⟨b0, b1, b0 + 0⟩ T.size = ⟨b0, b1, b0 + 1⟩ := by unfold apM; rw [if_pos hap, hTz, hsec]; rfl
  have hj3 : JurOk d3 ⟨b0, b1, b0 + 1⟩ [77 :: bigL 1 8] := by
    have := jur_append HJ2.out (s := sl T) (by rw [sl_len]; exact hap) (sl_bys T) (by rw [sl_len, hTz]; decide)
    rw [sl_len] at this
    rw [← hd3, ← hm3, ← hTs]
    exact this
  have hdk3 : DkJ d3 2000 := by
    rw [← hd3]
    exact (dkj_append HDK2.out HJ2.out (sl_bys T) (by rw [sl_len, hTz]; decide)).more (by decide)
  have hlen3 : d3.sec.length = d.sec.length := by rw [← hd3, ap_len]; exact HLEN2.out
  have hAP := theJur.append (d' := d3) (m' := ⟨b0, b1, b0 + 1⟩) h4 (HDK2.out.more (by decide)) (by have := HW.out; have := HY.out; omega) ⟨by show b0 ≤ b0 + 0; omega, by show b0 + 0 ≤ b1; have := HLT.out; omega, HTO2.out⟩ T (by rw [hTz]; decide) 0 hap hd3 hm3
  rw [hT] at hcell
  have hA4 : a4.add 0 = a4 := by unfold Addr.add; split <;> simp_all
  rw [hA4] at hcell
  have H4 := Lib.hid h4
  have HP4 := Lib.hid P4
  have HM4 := Lib.hid M4
  have HZ4 := Lib.hid hz4
  have HB4 := Lib.hid hB4
  have HAP := Lib.hid hAP
  have HJ3 := Lib.hid hj3
  have HDK3 := Lib.hid hdk3
  have HLEN3 := Lib.hid hlen3
  have HN4 := HN3
  have K4 := Lib.hid (HK3.out.below b4 HK3.out.lt)
  have HPM : Hid (P ≠ M) := Lib.hid (by
    rintro rfl
    obtain ⟨es, clock, hb, _⟩ := M4.map
    have := P4
    unfold Blk at this
    rw [hb] at this
    simp at this)
  subst ha4
  clear h4 P4 M4 b4 hz4 hB4 hAP hj3 hdk3 hlen3 hTs hTz hsec hap hm3 hd3 cl4 sl4 hA4 hT
  unfold ptD at HAP
  go_wp2_with fail
  go_loopw [47] (fun i wr => (i = .int .i64 0 ∧ wr = w4) ∨ (i = .int .i64 1 ∧ ∃ F5, StJ base wr D d3 ((J, ⟨b0, b1, b0 + 1⟩) :: js) F5 ∧ Turn base w4 wr F3 F5)) (fun i _ => 1 - (intOf i).toNat)
  case atStart => exact .inl ⟨rfl, rfl⟩
  case round =>
    rcases hrel with ⟨rfl, rfl⟩ | ⟨rfl, F5, h5, t5⟩
    · go_wp2_with fail
      (with_reducible refine HAP.out.mono ?_)
      rintro x w5 ⟨F5, rfl, h5, t5⟩
      have H5 := Lib.hid h5
      have T5 := Lib.hid t5
      clear h5 t5
      go_wp2_with fail
      go_roundw
      case rel => exact .inr ⟨rfl, F5, H5.out, T5.out⟩
      case measure => decide
    · have P5 := t5.blk HP4.out HN4.out.1
      have K5 := t5.blk K4.out HN4.out.2.2
      have M5 := HM4.out.same (t5.out M HM4.out.map.lt HN4.out.2.1)
      have nP5 := t5.not HN4.out.1 HP4.out.lt
      have nM5 := t5.not HN4.out.2.1 HM4.out.map.lt
      have B5 := HB4.out.trans t5.b
      have h5d : StJ base wr.drew D d3 ((J, ⟨b0, b1, b0 + 1⟩) :: js) F5 := theJur.keep h5 (Nat.le_refl _) fun _ _ => rfl
      obtain ⟨w6, hw6⟩ : ∃ w6, wr.drew.setCell ⟨P, 4, none⟩ (.pointer (some ⟨J, 0, none⟩)) = w6 := ⟨_, rfl⟩
      have P6 : Blk w6 P 56 (stP D b0 b1 b2 (ptD J) x1 us ++ [c0, c1, c2, c3]) := by rw [← hw6]; exact (P5.drew).set 4 _
      have K6 : Blk w6 Y 54 (coV M (.slice none 0 0) 1 true) := by rw [← hw6]; exact (K5.drew).other (a := ⟨P, 4, none⟩) HPY.out _
      have g6 : wr.grownBy w6 (some P) := by
        rw [← hw6]
        have g := grown_setCell wr.drew ⟨P, 4, none⟩ (.pointer (some ⟨J, 0, none⟩))
        exact (show wr.grownBy wr.drew (some P) from ⟨rfl, rfl, rfl, Nat.le_refl _, fun _ _ _ => rfl⟩).trans g
      obtain ⟨w7, hw7⟩ : ∃ w7, w6.setCell ⟨P, 6, none⟩ (.int .i64 0) = w7 := ⟨_, rfl⟩
      have P7 : Blk w7 P 56 (stP D b0 b1 b2 (ptD J) x1 0 ++ [c0, c1, c2, c3]) := by rw [← hw7]; exact P6.set 6 _
      have K7 : Blk w7 Y 54 (coV M (.slice none 0 0) 1 true) := by rw [← hw7]; exact K6.other (a := ⟨P, 6, none⟩) HPY.out _
      have g7 : wr.grownBy w7 (some P) := by rw [← hw7]; exact g6.trans (grown_setCell w6 ⟨P, 6, none⟩ _)
      have q4 := (P5.drew).cell 4
      have f4 := (P5.drew).free 4
      have q6 := P6.cell 6
      have f6 := P6.free 6
      simp only [stP, List.cons_append, List.getElem?_cons_zero, List.getElem?_cons_succ] at q4 q6
      have hky : ∀ (b c : Bool) (W : World), trC wr.drew w6 w7 b c W → Blk W Y 54 (coV M (.slice none 0 0) 1 true) := by
        intro b c W hW
        unfold trC at hW
        subst hW
        cases b
        · exact K5.drew
        · cases c
          · exact K6
          · exact K7
      have HKY := Lib.hid hky
      have H5 := Lib.hid h5
      have P7H := Lib.hid P7
      have M5H := Lib.hid M5
      have HN5 : Hid (¬ F5 P ∧ ¬ F5 M) := Lib.hid ⟨nP5, nM5⟩
      have B5H := Lib.hid B5
      have G7 := Lib.hid g7
      clear h5 t5 P5 K5 M5 nP5 nM5 B5 h5d P6 K6 g6 P7 K7 g7 hky
      go_wp2_with fail
      refine region_three 10 13 16 (by decide) (by decide) mixed (by kernel_rfl) (by kernel_rfl) (by kernel_rfl) (fun u => #[_, _, _, _, _, _, _, _, _, _, _, _, _, _, _, _, _, _, _, _, _, _, _, _, _, _, _, _, _, _, _, _, _, _, _, _, _, _, _, _, _, _, _, _, _, _, _, _, _, _, _, _, _, _, _, _, _, _, u 0, u 1, u 2, u 3, u 4, u 5, u 6, u 7, u 8, u 9, u 11, u 12, u 14, u 15]) [] (fun i => undef) rfl
        (trC wr.drew w6 w7) rfl (fun i v => match i with
        | 0 => v = .pointer (some ⟨P, 0, none⟩)
        | 1 => v = .int .i64 0
        | 2 => v = .pointer (some ⟨P, 0, none⟩)
        | 3 => v = .pointer (some ⟨P, 0, none⟩)
        | 4 => v = .pointer (some ⟨J, 0, none⟩)
        | 5 => v = .int .i64 0
        | 6 => v = .agg (coV M (.slice none 0 0) 1 true).toArray
        | 7 => v = .pointer (some ⟨P, 0, none⟩)
        | 8 => v = .pointer (some ⟨P, 4, none⟩)
        | 9 => v = .pointer (some ⟨P, 4, none⟩)
        | 11 => v = .pointer (some ⟨P, 0, none⟩)
        | 12 => v = .pointer (some ⟨P, 6, none⟩)
        | 14 => v = .pointer (some ⟨P, 0, none⟩)
        | 15 => v = .pointer (some ⟨P, 7, none⟩)
        | _ => True) ?step ?one ?two ?last
      case step =>
        intro b c u W i op hi hi1 hi2 ho hC hd
        rcases i with _ | _ | _ | _ | _ | _ | _ | _ | _ | _ | _ | _ | _ | _ | _ | _ | i
        all_goals try (simp only [List.getElem?_cons_zero, List.getElem?_cons_succ, Option.some.injEq] at ho; subst ho)
        · go_wp2_with fail
          exact ⟨_, by rfl, rfl, hC⟩
        · go_wp2_with fail
          exact ⟨_, by rfl, rfl, hC⟩
        · go_wp2_with fail
          exact ⟨_, by rfl, rfl, hC⟩
        · go_wp2_with fail
          exact ⟨_, by rfl, rfl, hC⟩
        · go_wp2_with fail
          exact ⟨_, by rfl, rfl, hC⟩
        · go_wp2_with fail
          exact ⟨_, by rfl, rfl, hC⟩
        · have hk := HKY.out b c W hC
          go_wp2_with (refine wpList_load_blk rfl 54 _ rfl Y rfl hk Try.underlying54 rfl (by rw [size_co]; rfl) ?_)
          exact ⟨_, by rfl, rfl, hC⟩
        · have h0 : u 0 = .pointer (some ⟨P, 0, none⟩) := hd ⟨0, .data⟩ (by simp) rfl
          rw [h0]
          go_wp2_with fail
          exact ⟨_, by simp [upd, h0], rfl, hC⟩
        · have h7 : u 7 = .pointer (some ⟨P, 0, none⟩) := hd ⟨7, .data⟩ (by simp) rfl
          rw [h7]
          go_wp2_with fail
          exact ⟨_, by simp [upd, h7], rfl, hC⟩
        · have h8 : u 8 = .pointer (some ⟨P, 4, none⟩) := hd ⟨8, .data⟩ (by simp) rfl
          have h1 : u 1 = .int .i64 0 := hd ⟨1, .data⟩ (by simp) rfl
          rw [h8, h1]
          go_wp2_with fail
          exact ⟨_, by simp [upd, h8, h1], rfl, hC⟩
        · omega
        · have h2 : u 2 = .pointer (some ⟨P, 0, none⟩) := hd ⟨2, .data⟩ (by simp) rfl
          rw [h2]
          go_wp2_with fail
          exact ⟨_, by simp [upd, h2], rfl, hC⟩
        · have h11 : u 11 = .pointer (some ⟨P, 0, none⟩) := hd ⟨11, .data⟩ (by simp) rfl
          rw [h11]
          go_wp2_with fail
          exact ⟨_, by simp [upd, h11], rfl, hC⟩
        · omega
        · have h3 : u 3 = .pointer (some ⟨P, 0, none⟩) := hd ⟨3, .data⟩ (by simp) rfl
          rw [h3]
          go_wp2_with fail
          exact ⟨_, by simp [upd, h3], rfl, hC⟩
        · have h14 : u 14 = .pointer (some ⟨P, 0, none⟩) := hd ⟨14, .data⟩ (by simp) rfl
          rw [h14]
          go_wp2_with fail
          exact ⟨_, by simp [upd, h14], rfl, hC⟩
        · omega
      case one =>
        intro u W op ho hC hd
        simp only [List.getElem?_cons_zero, List.getElem?_cons_succ, Option.some.injEq] at ho
        subst ho
        have hC : W = wr.drew := hC
        subst hC
        have h9 : u 9 = .pointer (some ⟨P, 4, none⟩) := hd ⟨9, .data⟩ (by simp) rfl
        have h4 : u 4 = .pointer (some ⟨J, 0, none⟩) := hd ⟨4, .data⟩ (by simp) rfl
        rw [h9, h4]
        go_wp2_with fail
        exact ⟨undef, by simp [upd, h9, h4], trivial, rfl⟩
      case two =>
        intro u W op ho hC hd
        simp only [List.getElem?_cons_zero, List.getElem?_cons_succ, Option.some.injEq] at ho
        subst ho
        have hC : W = w6 := hC
        subst hC
        have h12 : u 12 = .pointer (some ⟨P, 6, none⟩) := hd ⟨12, .data⟩ (by simp) rfl
        have h5 : u 5 = .int .i64 0 := hd ⟨5, .data⟩ (by simp) rfl
        rw [h12, h5]
        go_wp2_with fail
        exact ⟨undef, by simp [upd, h12, h5], trivial, rfl⟩
      case last =>
        intro u W op ho hC hS
        simp only [List.getElem?_cons_zero, List.getElem?_cons_succ, Option.some.injEq] at ho
        subst ho
        have hC : W = w7 := hC
        subst hC
        have h15 : u 15 = .pointer (some ⟨P, 7, none⟩) := hS 15 (by decide)
        have h6 : u 6 = .agg (coV M (.slice none 0 0) 1 true).toArray := hS 6 (by decide)
        clear hS
        rw [h15, h6]
        have P7x : Blk W P 56 (stP D b0 b1 b2 (ptD J) x1 0 ++ ([c0, c1, c2, c3] ++ [])) := P7H.out
        go_wp2_with (refine wpList_store_part rfl 54 _ _ rfl P 7 rfl (coV M (.slice none 0 0) 1 true) rfl (stP D b0 b1 b2 (ptD J) x1 0) [c0, c1, c2, c3] [] P7x rfl rfl (by rw [size_co]; rfl) (by simp [coV, Value.oneCell']) ?_; intro w8 hb8 hbel8 hw8; have HW8 := Lib.hid hw8; clear hw8)
        have P8 : Blk w8 P 56 (stP D b0 b1 b2 (ptD J) x1 0 ++ coV M (.slice none 0 0) 1 true) := by rw [List.append_nil] at hb8; exact hb8
        have g8 : wr.grownBy w8 (some P) := by
          refine G7.out.trans ⟨hbel8.os, hbel8.tape, hbel8.output, hbel8.size, fun i _ hi => ?_⟩
          rw [HW8.out]
          exact heap_setCells (fun e => hi (by rw [e])) _ _ _
        have M8 : MapW w8 M 0 (.map []) [] := M5H.out.same (g8.block M M5H.out.map.lt (fun e => HPM.out (Option.some.inj e).symm))
        have h8 : StJ base w8 D d3 ((J, ⟨b0, b1, b0 + 1⟩) :: js) F5 := theJur.keep H5.out g8.size fun i hi => g8.block i (theJur.lt H5.out i hi).2 (fun e => HN5.out.1 (by rw [← Option.some.inj e]; exact hi))
        have B8 := B5H.out.grown g8 (by have := HB4.out.size; have := B5H.out.size; have := HW.out; omega) (fun i e => by rw [← Option.some.inj e]; exact HP0.out)
        have HP8 := Lib.hid P8
        have HM8 := Lib.hid M8
        have HH8 := Lib.hid h8
        have HB8 := Lib.hid B8
        clear hb8 hbel8 P8 g8 M8 h8 B8
        go_wp2
        go_ret
        exact ⟨rfl, J, F5, d3, HH8.out, HDK3.out, HLEN3.out, HJ3.out, HP8.out, HN5.out.1, HM8.out, HN5.out.2, HB8.out⟩
end Go.Proofs.Ytbobdbdknapdcaa
