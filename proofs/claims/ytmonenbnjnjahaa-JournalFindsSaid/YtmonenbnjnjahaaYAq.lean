/- Walk of the journal's Append. -/
import Derived.Test.YtmonenbnjnjahaaYAp
import Derived.Test.YtmonenbnjnjahaaG1
import Derived.BigQuiet
namespace Go.Proofs.Ytmonenbnjnjahaa
open Go.RowKit Go.Shelf
set_option linter.unusedVariables false

theorem ju_area {w : World} {J D : Nat} {m : JurM} (h : Blk w J 55 (juV D m)) : ∀ j v, (arV D m.fr m.to)[j]? = some v → w.cell? ((⟨J, 0, none⟩ : Addr).add j) = some v := fun j v hv => by
  rw [Addr.add_mid]
  refine h.whole j v ?_
  have e : juV D m = arV D m.fr m.to ++ [.int .i64 (m.nx : Int)] := rfl
  rw [e, List.getElem?_append_left (List.getElem?_eq_some_iff.1 hv).1]
  exact hv
theorem dkn_apD1 {d : DiskM} {K : Nat} (h : DkN d K) (m : JurM) (n : Nat) (ht : m.to ≤ d.sec.length) : DkN (apD1 d m n) (K + 2) ∧ (apD1 d m n).cut = d.cut := by
  unfold apD1
  split
  · exact ⟨dkn_sync1 (dkn_write1 h (by omega) (zerN_len 32) (zer_bys 32)), rfl⟩
  · exact ⟨h.more (by omega), rfl⟩
theorem apD_put (d : DiskM) (m : JurM) (s : ByteArray) (h : secK s.size ≤ m.to - m.nx) : putD (apD1 d m s.size) m.nx (secK s.size) (sl (tx (frameK (sl s)))) = apD d m (sl s) := by
  rw [sl_tx (frame_bys (sl_bys s))]
  unfold apD putD apE
  rw [sl_len, if_pos (by rw [if_pos h])]
  unfold fillJ padK
  rw [frame_len, sl_len]
set_option maxRecDepth 100000 in
theorem j_Append_full {w : World} {D J : Nat} {m : JurM} (hJ : Blk w J 55 (juV D m)) (hm : m.nx ≤ m.to ∧ m.to ≤ 4096) (s : ByteArray) (hs : s.size ≤ 1024) (hroom : ¬ secK s.size ≤ m.to - m.nx) :
    Calls Try.prog 9 #[ptD J, .string s] w fun x w' => x = .returned (.int .i64 2) ∧ Below w.heap.size w w' := by
  obtain ⟨fr, te, nx⟩ := m
  dsimp only at *
  obtain ⟨f, hf⟩ : ∃ f, tx (frameK (sl s)) = f := ⟨_, rfl⟩
  have hfz : f.size = 6 + s.size := by rw [← hf, tx_size, frame_len, sl_len]
  obtain ⟨c, hc⟩ : ∃ c, secK s.size = c := ⟨_, rfl⟩
  have hc2 : ((f.size : Int) + 31) / 32 = (c : Int) := by rw [← hc, hfz]; unfold secK; omega
  have hc33 : c ≤ 33 := by rw [← hc]; exact sec_le hs
  rw [hc] at hroom
  have HFr := Lib.hid (k_Frame s w hs f hf)
  have HS := Lib.hid (fun w => j_sectorsFor (f.size : Int) (by omega) (by omega) c hc2 w)
  have HJ := Lib.hid hJ
  have g1 : (te : Int) < (nx : Int) + (c : Int) := by omega
  have g2 : (nx : Int) ≤ 4096 := by omega
  have g3 : (c : Int) ≤ 33 := by omega
  unfold ptD
  clear hJ hm hs hroom hf hfz hc hc2 hc33
  go_enter Try.func9, Try.ntmps9
  go_wp2_with fail
  (with_reducible refine HFr.out.mono ?_)
  rintro e w1 ⟨rfl, hb1⟩
  have kJ := HJ.out.below hb1 HJ.out.lt
  have c2 := kJ.cell 2
  have c3 := kJ.cell 3
  unfold juV at c2 c3
  simp only [List.getElem?_cons_zero, List.getElem?_cons_succ] at c2 c3
  have HB := Lib.hid hb1
  clear hb1 kJ HFr
  go_wp2
  go_quiet ((go_at_call 22; exact Calls.quiet_of_same (HS.out _)))
  go_wp2
  go_ret
  exact ⟨rfl, below_drewN HB.out _⟩
set_option maxRecDepth 100000 in
set_option maxHeartbeats 1000000 in
theorem j_Append_ok {w : World} {base D S M k J : Nat} {E : DataW Unit} {V : Nat → Value} {q : Option (Nat × Int)} {d : DiskM} {m : JurM} {K : Nat} (h : DkW w base D S M k E V q d) (hJ : Blk w J 55 (juV D m)) (hd : DkN d K) (hK : K ≤ 50000) (hcut : d.cut = false) (hm : m.nx ≤ m.to ∧ m.to ≤ d.sec.length) (s : ByteArray) (hs : s.size ≤ 1024) (hroom : secK s.size ≤ m.to - m.nx) (d' : DiskM) (hd' : apD d m (sl s) = d') :
    Calls Try.prog 9 #[ptD J, .string s] w fun x w' => x = .returned (.int .i64 0) ∧ ∃ w3, DkA base w w3 D S M (foot D S M V q) d' ∧ Blk w3 J 55 (juV D m) ∧ w' = w3.setCell ⟨J, 3, none⟩ (.int .i64 ((m.nx + secK s.size : Nat) : Int)) := by
  have hsec := hd.sec
  have hda := dkn_apD1 hd m s.size hm.2
  have hput := apD_put d m s hroom
  rw [hd'] at hput
  have hlen1 := apD1_len d m s.size
  have hap : (if m.nx + secK s.size < m.to then syncD (writeD d (m.nx + secK s.size) (zerN 32)) else d) = apD1 d m s.size := rfl
  have hja : ∀ wx, Blk wx J 55 (juV D m) → ∀ j v, (arV D m.fr m.to)[j]? = some v → wx.cell? ((⟨J, 0, none⟩ : Addr).add j) = some v := fun wx hx => ju_area hx
  obtain ⟨f, hf⟩ : ∃ f, tx (frameK (sl s)) = f := ⟨_, rfl⟩
  have hfz : f.size = 6 + s.size := by rw [← hf, tx_size, frame_len, sl_len]
  rw [hf] at hput
  obtain ⟨c, hc⟩ : ∃ c, secK s.size = c := ⟨_, rfl⟩
  have hc2 : ((f.size : Int) + 31) / 32 = (c : Int) := by rw [← hc, hfz]; unfold secK; omega
  have hc4 : (f.size + 31) / 32 = c := by omega
  have hc33 : c ≤ 33 := by rw [← hc]; exact sec_le hs
  rw [hc] at hroom hput hap ⊢
  obtain ⟨d1, hd1⟩ : ∃ d1, apD1 d m s.size = d1 := ⟨_, rfl⟩
  rw [hd1] at hda hput hap hlen1
  obtain ⟨fr, te, nx⟩ := m
  dsimp only at *
  have hval : ((nx + c : Nat) : Int) = (nx : Int) + (c : Int) := by omega
  have HFr := Lib.hid (k_Frame s w hs f hf)
  have HS := Lib.hid (fun w => j_sectorsFor (f.size : Int) (by omega) (by omega) c hc2 w)
  have HBL := Lib.hid (fun (wx : World) (hx : DkW wx base D S M k E V q d) => j_blank hx hd (by omega) hcut fr te (nx + c) (by omega) hm.2 d1 hap)
  have HPU := Lib.hid (fun (wx : World) (k' : Nat) (E' : DataW Unit) (V' : Nat → Value) (q' : Option (Nat × Int)) (hx : DkW wx base D S M k' E' V' q' d1) => j_put hx hda.1 (by omega) (hda.2.trans hcut) fr te nx c f (by omega) hc4 (by rw [hlen1]; omega) d' hput)
  rw [hval] at HBL
  rw [hval]
  have HJ := Lib.hid hJ
  have H0 := Lib.hid h
  have HC := Lib.hid hcut
  have HC1 := Lib.hid (hda.2.trans hcut)
  have HJA := Lib.hid hja
  have HW : Hid (base ≤ w.heap.size) := Lib.hid (by have := h.blk.lt; have := h.hD; omega)
  have HCD : Hid (d'.cut = false) := Lib.hid (by
    rw [← hput]
    unfold putD
    show (writesD _ _ _).cut = false
    rw [writes_cut]
    exact hda.2.trans hcut)
  have g1 : ¬ (te : Int) < (nx : Int) + (c : Int) := by omega
  have g2 : (nx : Int) ≤ 4096 := by omega
  have g3 : (c : Int) ≤ 33 := by omega
  unfold ptD
  clear h hJ hd hK hcut hm hs hroom hf hfz hc hc2 hc33 hc4 hd' hda hput hap hlen1 hd1 hval hja hsec
  go_enter Try.func9, Try.ntmps9
  go_wp2_with fail
  (with_reducible refine HFr.out.mono ?_)
  rintro e w1 ⟨rfl, hb1⟩
  have kJ := HJ.out.below hb1 HJ.out.lt
  have c2 := kJ.cell 2
  have c3 := kJ.cell 3
  unfold juV at c2 c3
  simp only [List.getElem?_cons_zero, List.getElem?_cons_succ] at c2 c3
  have HB := Lib.hid hb1
  have KJ := Lib.hid kJ
  clear hb1 kJ HFr
  go_wp2
  go_quiet ((go_at_call 22; exact Calls.quiet_of_same (HS.out _)))
  have LJ := Lib.hid (HJA.out _ (KJ.out.drewN nq))
  go_wp2_with (refine wpList_load_addr rfl 49 _ rfl ⟨J, 0, none⟩ rfl (arV D fr te) LJ.out Try.underlying49 rfl (by rw [size_ar]; rfl) ?_)
  obtain ⟨h2, t2⟩ := H0.out.turn (below_drewN HB.out nq)
  have kJ2 := KJ.out.drewN nq
  have H2 := Lib.hid h2
  have T2 := Lib.hid t2
  have KJ2 := Lib.hid kJ2
  clear h2 t2 kJ2 c2 c3 LJ KJ HB H0
  generalize w1.drewN nq = w2 at *
  (with_reducible refine (HBL.out w2 H2.out).mono ?_)
  rintro e w3 ⟨rfl, k3, E3, V3, q3, h3, t3⟩
  have kJ3 := t3.blk KJ2.out (H2.out.notTy HC.out KJ2.out (by decide) (by decide))
  have H3 := Lib.hid h3
  have T3 := Lib.hid (T2.out.trans t3)
  have KJ3 := Lib.hid kJ3
  have hcn : ∀ wx, NewBut w3 wx → wx.cell? ⟨J, 3, none⟩ = some (.int .i64 (nx : Int)) := fun wx hx => (kJ3.below hx kJ3.lt).cell 3
  have hja : ∀ wx, NewBut w3 wx → ∀ j v, (arV D fr te)[j]? = some v → wx.cell? ((⟨J, 0, none⟩ : Addr).add j) = some v := fun wx hx => HJA.out wx (kJ3.below hx kJ3.lt)
  have HCN := Lib.hid hcn
  have HLA := Lib.hid hja
  clear h3 t3 kJ3 hcn hja HBL H2 T2 KJ2
  go_wp2_with fail
  refine region_quiet_tail (C := NewBut w3) 9 mixed (by kernel_rfl) (show Below _ _ _ from (Below.refl _ _).drew) ?_
  simp only [List.take_succ_cons, List.take_zero, List.drop_succ_cons, List.drop_zero]
  repeat (first | (refine wpQuiet_load_one rfl 3 _ rfl ⟨J, 3, none⟩ rfl (.int .i64 (nx : Int)) HCN.out Try.underlying3 rfl ?_) | (refine wpQuiet_load_addr rfl 49 _ rfl ⟨J, 0, none⟩ rfl (arV D fr te) HLA.out Try.underlying49 rfl (by rw [size_ar]; rfl) ?_) | go_big_quiet_step (fail) | (refine wpQuiet_step (fun K' hK' => ?_); go_simp; first | (refine hK' _ ?_; clear hK' K') | (refine ⟨_, fun _ _ => rfl, hK' _ ?_⟩; clear hK' K')))
  refine wpQuiet_nil ?_
  intro w4 hb4
  obtain ⟨h4, t4⟩ := H3.out.turn hb4
  have kJ4 := KJ3.out.below hb4 KJ3.out.lt
  have H4 := Lib.hid h4
  have T4 := Lib.hid (T3.out.trans t4)
  have KJ4 := Lib.hid kJ4
  clear h4 t4 kJ4 hb4 HCN HLA
  go_wp2_with fail
  (with_reducible refine (HPU.out w4 k3 E3 V3 q3 H4.out).mono ?_)
  rintro e w5 ⟨rfl, k5, E5, V5, q5, h5, t5⟩
  have kJ5 := t5.blk KJ4.out (H4.out.notTy HC1.out KJ4.out (by decide) (by decide))
  have c3 := kJ5.cell 3
  have f3 := kJ5.free 3
  unfold juV at c3
  simp only [List.getElem?_cons_zero, List.getElem?_cons_succ] at c3
  have A5 : DkA base w w5 D S M (foot D S M V q) d' := ⟨k5, E5, V5, q5, h5, T4.out.trans t5⟩
  have HA5 := Lib.hid A5
  have KJ5 := Lib.hid kJ5
  clear h5 t5 kJ5 A5
  go_wp2
  go_ret
  exact ⟨rfl, _, HA5.out, KJ5.out, rfl⟩
end Go.Proofs.Ytmonenbnjnjahaa
