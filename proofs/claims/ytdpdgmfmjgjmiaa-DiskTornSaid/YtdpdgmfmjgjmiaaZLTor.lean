/-
  For every old text, every new one, and every byte: of one pending write a crash leaves what was there, the write, or its beginning in front of what was there. Texts beyond the bound are answered by the case shown alone. No condition.
-/
import Derived.Test.YtdpdgmfmjgjmiaaRows
import Derived.Test.YtdpdgmfmjgjmiaaZBnd
import Derived.Test.YtdpdgmfmjgjmiaaDByt
import Derived.Test.YtdpdgmfmjgjmiaaZThe
import Derived.ShutString
import Derived.ChangeOld
namespace Go.Proofs.Ytdpdgmfmjgjmiaa.diskTorn
open Go.ChangeShapes Go.WideShapes Go.ChangeAt Go.RowKit
open Go.ChangeMaps (open_string shut_string)
set_option linter.unusedVariables false

/-- the texts that are wanted -/
def wantT (b m : Nat) (FN FO : ByteArray) : ByteArray := if b = 1 then FN else FN.extract 0 m ++ FO.extract m FO.size
theorem torn_text (k : Nat) (FN FO : ByteArray) : tornS (sl FO) [sl FN] k = sl (wantT (k / 4 % 2) (8 * (k % 4)) FN FO) := by
  rw [torn_one]
  unfold wantT
  split
  · rfl
  · rw [head_tx, tail_tx, ← tx_app, sl_tx (((sl_bys FN).take _).app ((sl_bys FO).drop _))]
set_option maxHeartbeats 4000000 in
set_option maxRecDepth 100000 in
theorem walkK (K : DiskKit) (o n : ByteArray) (k : Nat) (hk : k < 256) (w : World) :
    Calls Try.prog 4 #[.string o, .string n, .int .u8 (k : Int)] w fun e w' => e = .returned (.bool true) ∧ Below w.heap.size w w' := by
  have HSh := Lib.hid (fun w => l13_shown K w)
  by_cases h1 : 100 < o.size
  · have g1 : (100 : Int) < (o.size : Int) := by omega
    have g1' : decide ((100 : Int) < (o.size : Int)) = true := by simpa using g1
    clear h1
    go_enter Try.func4, Try.ntmps4
    go_wp2_with (go_at_call 8; (with_reducible refine (HSh.out _).mono ?_); rintro e w1 ⟨rfl, hb1⟩)
    go_ret
    exact ⟨rfl, hb1⟩
  have g1 : ¬ (100 : Int) < (o.size : Int) := by omega
  have g1' : decide ((100 : Int) < (o.size : Int)) = false := by simpa using g1
  by_cases h2 : 100 < n.size
  · have g2 : (100 : Int) < (n.size : Int) := by omega
    have g2' : decide ((100 : Int) < (n.size : Int)) = true := by simpa using g2
    clear h1 h2
    go_enter Try.func4, Try.ntmps4
    go_wp2_with (go_at_call 8; (with_reducible refine (HSh.out _).mono ?_); rintro e w1 ⟨rfl, hb1⟩)
    go_ret
    exact ⟨rfl, hb1⟩
  have g2 : ¬ (100 : Int) < (n.size : Int) := by omega
  have g2' : decide ((100 : Int) < (n.size : Int)) = false := by simpa using g2
  have HFO := Lib.hid (fun wx => l13_full o wx (by omega))
  have HFN := Lib.hid (fun wx => l13_full n wx (by omega))
  have hOl := full_len o
  have hNl := full_len n
  have hOs := full_size o
  have hNs := full_size n
  obtain ⟨FO, hFO⟩ : ∃ FO, fullT o = FO := ⟨_, rfl⟩
  obtain ⟨FN, hFN⟩ : ∃ FN, fullT n = FN := ⟨_, rfl⟩
  rw [hFO] at HFO hOl hOs
  rw [hFN] at HFN hNl hNs
  have n0 := dkn_new (n := 1) (by decide)
  obtain ⟨e1, w1⟩ := wr_on (d := newD 1) (i := 0) (s := sl FO) (by simp [newD]) hOl rfl
  have n1 := dkn_write n0 (0 : Int) (sl_bys FO)
  rw [show wrD (newD 1) (0 : Int) (sl FO) = writeD (newD 1) 0 (sl FO) from w1] at n1
  have o1 := off_write (d := newD 1) rfl 0 (sl FO)
  have s1 : readD (writeD (newD 1) 0 (sl FO)) 0 = sl FO := read_same _ _ _
  have l1 : (writeD (newD 1) 0 (sl FO)).sec.length = 1 := by simp [writeD, newD]
  have c1 : (writeD (newD 1) 0 (sl FO)).cut = false := rfl
  obtain ⟨d1, hd1⟩ : ∃ d1, writeD (newD 1) 0 (sl FO) = d1 := ⟨_, rfl⟩
  rw [hd1] at w1 n1 o1 s1 l1 c1
  obtain ⟨e2, w2⟩ := sy_on o1
  have n2 := dkn_sync n1
  rw [w2] at n2
  have l2 : (syncD d1).sec.length = 1 := by rw [sync_len, l1]
  have s2 : (syncD d1).sec.getD 0 [] = sl FO := by rw [sync_safe (by omega), s1]
  have o2 := off_sync c1
  have p2 : (syncD d1).pen = [] := rfl
  have c2 : (syncD d1).cut = false := c1
  obtain ⟨d2, hd2⟩ : ∃ d2, syncD d1 = d2 := ⟨_, rfl⟩
  rw [hd2] at w2 n2 l2 s2 o2 p2 c2
  obtain ⟨e3, w3⟩ := wr_on (d := d2) (i := 0) (s := sl FN) (by omega) hNl o2
  have n3 := dkn_write n2 (0 : Int) (sl_bys FN)
  rw [show wrD d2 (0 : Int) (sl FN) = writeD d2 0 (sl FN) from w3] at n3
  have p3 : penD (writeD d2 0 (sl FN)).pen 0 = [sl FN] := by
    show penD (d2.pen ++ [(0, sl FN)]) 0 = _
    rw [pen_app, p2, pen_same]; rfl
  have s3 : (writeD d2 0 (sl FN)).sec.getD 0 [] = sl FO := s2
  have l3 : (writeD d2 0 (sl FN)).sec.length = 1 := l2
  obtain ⟨d3, hd3⟩ : ∃ d3, writeD d2 0 (sl FN) = d3 := ⟨_, rfl⟩
  rw [hd3] at w3 n3 p3 s3 l3
  have n4 := dkn_crash n3 [k]
  have r4 : rdE (crashD d3 [k]) (0 : Int) = (sl (wantT (k / 4 % 2) (8 * (k % 4)) FN FO), 0) := by
    rw [show ((0 : Int)) = ((0 : Nat) : Int) from rfl, rd_on (by rw [crash_len, l3]; decide) (off_crash _ _), crash_read [k] (by rw [l3]; decide)]
    unfold crashS
    rw [if_neg (by rw [p3]; simp), p3, s3]
    have : keepD [k] (turnD d3 0) = k := rfl
    rw [this, torn_text]
  obtain ⟨d4, hd4⟩ : ∃ d4, crashD d3 [k] = d4 := ⟨_, rfl⟩
  rw [hd4] at n4 r4
  have HN := Lib.hid (fun (wx : World) (h : w.heap.size ≤ wx.heap.size) => K.new_yes 1 wx w.heap.size (by decide) (by decide) h)
  have HW1 := Lib.hid (fun (wx : World) (D : Nat) (h : K.Rep w.heap.size wx D (newD 1)) (hw : w.heap.size ≤ wx.heap.size) => K.write h (n0.b (by decide)) hw 0 (by decide) FO (by omega) 0 d1 (by rw [hOs, ← hOl]; exact e1) w1)
  have HS := Lib.hid (fun (wx : World) (D : Nat) (h : K.Rep w.heap.size wx D d1) (hw : w.heap.size ≤ wx.heap.size) => K.sync h (n1.b (by decide)) hw 0 d2 e2 w2)
  have HW2 := Lib.hid (fun (wx : World) (D : Nat) (h : K.Rep w.heap.size wx D d2) (hw : w.heap.size ≤ wx.heap.size) => K.write h (n2.b (by decide)) hw 0 (by decide) FN (by omega) 0 d3 (by rw [hNs, ← hNl]; exact e3) w3)
  have HC := Lib.hid (fun (wx : World) (D y : Nat) (h : K.Rep w.heap.size wx D d3) (hw : w.heap.size ≤ wx.heap.size) (hy : Blk wx y 5 [.int .u8 (k : Int)]) => K.crash h (n3.b (by decide)) hw [k] (some ⟨y, 0, none⟩) 1 (by simp) (Bys.of fun x hx => by rw [List.mem_singleton.1 hx]; exact hk) (sl_one hy) (fun _ a e => .inr ⟨_, by cases e; exact hy⟩) d4 hd4)
  have HR := Lib.hid (fun (wx : World) (D : Nat) (h : K.Rep w.heap.size wx D d4) (hw : w.heap.size ≤ wx.heap.size) => K.read_ h (n4.b (by decide)) hw 0 (by decide) _ 0 r4)
  obtain ⟨m, hm⟩ : ∃ m, 8 * (k % 4) = m := ⟨_, rfl⟩
  have hm32 : m ≤ 24 := by omega
  have hmI : 8 * ((k : Int) % 4) = (m : Int) := by omega
  have hbI : (k : Int) / 4 % 2 = ((k / 4 % 2 : Nat) : Int) := by omega
  rw [hm] at HR
  obtain ⟨A, hA⟩ : ∃ A, FN.extract 0 m = A := ⟨_, rfl⟩
  obtain ⟨B, hB⟩ : ∃ B, FO.extract m FO.size = B := ⟨_, rfl⟩
  have hAs : A.size ≤ 32 := by rw [← hA, ByteArray.size_extract]; omega
  have hBs : B.size ≤ 32 := by rw [← hB, ByteArray.size_extract]; omega
  have hadd := fun w' => run_string_add_sum (P := Try.prog) w' A B (by omega)
  have i1 : (m : Int) ≤ (FN.size : Int) := by omega
  have i2 : (m : Int) ≤ (FO.size : Int) := by omega
  have i3 : (0 : Int) ≤ (m : Int) := by omega
  have i4 : (m : Int) ≤ 24 := by omega
  have hw1 : wantT 1 m FN FO = FN := by unfold wantT; rw [if_pos rfl]
  have hw0 : wantT 0 m FN FO = A ++ B := by unfold wantT; rw [if_neg (by decide), hA, hB]
  have HA := Lib.hid hA
  have HBB := Lib.hid hB
  have HM := Lib.hid hmI
  have HK8 := Lib.hid hk
  have k8 : (k : Int) < 256 := by omega
  have uk : IntKind.i64.wrap (k : Int) = (k : Int) := by rw [IntKind.wrap_i64]; omega
  clear n0 n1 n2 n3 n4 e1 e2 e3 w1 w2 w3 o1 o2 s1 s2 s3 l1 l2 l3 p2 p3 r4 c1 c2 hd1 hd2 hd3 hd4 hOl hNl hOs hNs hFO hFN h1 h2 hm hAs hBs hm32 hA hB hmI hk
  rcases (show k / 4 % 2 = 0 ∨ k / 4 % 2 = 1 by omega) with hb | hb
  · rw [hb] at HR hbI
    rw [hw0] at HR
    have t1 := txt_same (A ++ B)
    have q1 : ((k : Int) / 4 % 2 == 1) = false := by rw [hbI]; rfl
    clear hw0 hw1 hbI hb
    go_enter Try.func4, Try.ntmps4
    go_wp2_with fail
    (with_reducible refine (HSh.out _).mono ?_)
    rintro e v0 ⟨rfl, c0⟩
    have B0 := Lib.hid c0
    clear c0
    go_wp2_with fail
    refine (HN.out v0 B0.out.size).mono ?_
    rintro e v1 ⟨D, rfl, r1, c1⟩
    have R1 := Lib.hid r1
    have B1 := Lib.hid (B0.out.trans (c1.mono B0.out.size))
    clear r1 c1
    unfold ptD
    go_wp2_with fail
    refine (HFO.out _).mono ?_
    rintro e v2 ⟨rfl, c2⟩
    have R2 := Lib.hid (K.keep R1.out c2)
    have B2 := Lib.hid (B1.out.trans (c2.mono B1.out.size))
    clear c2
    go_wp2_with fail
    refine (HW1.out v2 D R2.out B2.out.size).mono ?_
    rintro e v3 ⟨rfl, r3, c3⟩
    have R3 := Lib.hid r3
    have B3 := Lib.hid (B2.out.trans c3)
    clear r3 c3
    go_wp2_with fail
    refine (HS.out v3 D R3.out B3.out.size).mono ?_
    rintro e v4 ⟨rfl, r4, c4⟩
    have R4 := Lib.hid r4
    have B4 := Lib.hid (B3.out.trans c4)
    clear r4 c4
    go_wp2_with fail
    refine (HFN.out _).mono ?_
    rintro e v5 ⟨rfl, c5⟩
    have R5 := Lib.hid (K.keep R4.out c5)
    have B5 := Lib.hid (B4.out.trans (c5.mono B4.out.size))
    clear c5
    go_wp2_with fail
    refine (HW2.out v5 D R5.out B5.out.size).mono ?_
    rintro e v6 ⟨rfl, r6, c6⟩
    have B6 := Lib.hid (B5.out.trans c6)
    have c7 := (Below.refl v6.heap.size v6).alloc (Nat.le_refl _) (.cells #[.int .u8 (k : Int)] 5)
    have R7 := Lib.hid (K.keep r6 c7)
    have B7 := Lib.hid (B6.out.trans (c7.mono B6.out.size))
    have HCC := Lib.hid (HC.out _ D v6.heap.size R7.out B7.out.size (Blk.new' v6 5 [.int .u8 (k : Int)] rfl))
    clear r6 c6 c7
    go_wp2_with fail
    refine HCC.out.mono ?_
    rintro e v8 ⟨rfl, r8, c8⟩
    have R8 := Lib.hid r8
    have B8 := Lib.hid (B7.out.trans c8)
    clear r8 c8
    go_wp2_with fail
    refine (HR.out v8 D R8.out B8.out.size).mono ?_
    rintro e v9 ⟨rfl, r9, c9⟩
    have B9 := Lib.hid (B8.out.trans c9)
    clear r9 c9
    go_wp2_with fail
    rw [HM.out]
    have QN := Lib.hid (fun wx (h : NewBut v9 wx) => (HFN.out wx).mono fun _ _ ⟨x1, x2⟩ => (⟨x1, h.trans (x2.mono h.size)⟩ : _ ∧ NewBut v9 _))
    have QO := Lib.hid (fun wx (h : NewBut v9 wx) => (HFO.out wx).mono fun _ _ ⟨x1, x2⟩ => (⟨x1, h.trans (x2.mono h.size)⟩ : _ ∧ NewBut v9 _))
    have hA := HA.out
    have hB := HBB.out
    refine region_quiet_tail (C := NewBut v9) 9 mixed (by kernel_rfl) (show Below _ _ _ from (Below.refl _ _).drew) ?_
    simp only [List.take_succ_cons, List.take_zero, List.drop_succ_cons, List.drop_zero]
    repeat (first | go_big_quiet_step (fail) | (refine wpQuiet_step (fun K' hK' => ?_); go_simp; first | (refine hK' _ ?_; clear hK' K') | ((with_reducible refine ⟨_, fun wx hx => QN.out wx hx, hK' _ ?_⟩); clear hK' K') | ((with_reducible refine ⟨_, fun wx hx => QO.out wx hx, hK' _ ?_⟩); clear hK' K') | (refine ⟨_, fun _ _ => rfl, hK' _ ?_⟩; clear hK' K')))
    refine wpQuiet_nil ?_
    intro v10 hb10
    have B10 := Lib.hid (B9.out.trans (Below.mono hb10 B9.out.size))
    clear hb10 hA hB
    go_wp2_with fail
    go_ret
    exact ⟨rfl, B10.out⟩
  · rw [hb] at HR hbI
    rw [hw1] at HR
    have t1 := txt_same FN
    have q1 : ((k : Int) / 4 % 2 == 1) = true := by rw [hbI]; rfl
    clear hw0 hw1 hbI hb
    go_enter Try.func4, Try.ntmps4
    go_wp2_with fail
    (with_reducible refine (HSh.out _).mono ?_)
    rintro e v0 ⟨rfl, c0⟩
    have B0 := Lib.hid c0
    clear c0
    go_wp2_with fail
    refine (HN.out v0 B0.out.size).mono ?_
    rintro e v1 ⟨D, rfl, r1, c1⟩
    have R1 := Lib.hid r1
    have B1 := Lib.hid (B0.out.trans (c1.mono B0.out.size))
    clear r1 c1
    unfold ptD
    go_wp2_with fail
    refine (HFO.out _).mono ?_
    rintro e v2 ⟨rfl, c2⟩
    have R2 := Lib.hid (K.keep R1.out c2)
    have B2 := Lib.hid (B1.out.trans (c2.mono B1.out.size))
    clear c2
    go_wp2_with fail
    refine (HW1.out v2 D R2.out B2.out.size).mono ?_
    rintro e v3 ⟨rfl, r3, c3⟩
    have R3 := Lib.hid r3
    have B3 := Lib.hid (B2.out.trans c3)
    clear r3 c3
    go_wp2_with fail
    refine (HS.out v3 D R3.out B3.out.size).mono ?_
    rintro e v4 ⟨rfl, r4, c4⟩
    have R4 := Lib.hid r4
    have B4 := Lib.hid (B3.out.trans c4)
    clear r4 c4
    go_wp2_with fail
    refine (HFN.out _).mono ?_
    rintro e v5 ⟨rfl, c5⟩
    have R5 := Lib.hid (K.keep R4.out c5)
    have B5 := Lib.hid (B4.out.trans (c5.mono B4.out.size))
    clear c5
    go_wp2_with fail
    refine (HW2.out v5 D R5.out B5.out.size).mono ?_
    rintro e v6 ⟨rfl, r6, c6⟩
    have B6 := Lib.hid (B5.out.trans c6)
    have c7 := (Below.refl v6.heap.size v6).alloc (Nat.le_refl _) (.cells #[.int .u8 (k : Int)] 5)
    have R7 := Lib.hid (K.keep r6 c7)
    have B7 := Lib.hid (B6.out.trans (c7.mono B6.out.size))
    have HCC := Lib.hid (HC.out _ D v6.heap.size R7.out B7.out.size (Blk.new' v6 5 [.int .u8 (k : Int)] rfl))
    clear r6 c6 c7
    go_wp2_with fail
    refine HCC.out.mono ?_
    rintro e v8 ⟨rfl, r8, c8⟩
    have R8 := Lib.hid r8
    have B8 := Lib.hid (B7.out.trans c8)
    clear r8 c8
    go_wp2_with fail
    refine (HR.out v8 D R8.out B8.out.size).mono ?_
    rintro e v9 ⟨rfl, r9, c9⟩
    have B9 := Lib.hid (B8.out.trans c9)
    clear r9 c9
    go_wp2_with fail
    rw [HM.out]
    have QN := Lib.hid (fun wx (h : NewBut v9 wx) => (HFN.out wx).mono fun _ _ ⟨x1, x2⟩ => (⟨x1, h.trans (x2.mono h.size)⟩ : _ ∧ NewBut v9 _))
    have QO := Lib.hid (fun wx (h : NewBut v9 wx) => (HFO.out wx).mono fun _ _ ⟨x1, x2⟩ => (⟨x1, h.trans (x2.mono h.size)⟩ : _ ∧ NewBut v9 _))
    have hA := HA.out
    have hB := HBB.out
    refine region_quiet_tail (C := NewBut v9) 9 mixed (by kernel_rfl) (show Below _ _ _ from (Below.refl _ _).drew) ?_
    simp only [List.take_succ_cons, List.take_zero, List.drop_succ_cons, List.drop_zero]
    repeat (first | go_big_quiet_step (fail) | (refine wpQuiet_step (fun K' hK' => ?_); go_simp; first | (refine hK' _ ?_; clear hK' K') | ((with_reducible refine ⟨_, fun wx hx => QN.out wx hx, hK' _ ?_⟩); clear hK' K') | ((with_reducible refine ⟨_, fun wx hx => QO.out wx hx, hK' _ ?_⟩); clear hK' K') | (refine ⟨_, fun _ _ => rfl, hK' _ ?_⟩; clear hK' K')))
    refine wpQuiet_nil ?_
    intro v10 hb10
    have B10 := Lib.hid (B9.out.trans (Below.mono hb10 B9.out.size))
    clear hb10 hA hB
    go_wp2_with fail
    refine (HFN.out _).mono ?_
    rintro e v11 ⟨rfl, c11⟩
    have B11 := Lib.hid (B10.out.trans (c11.mono B10.out.size))
    clear c11
    go_wp2
    go_ret
    exact ⟨rfl, B11.out⟩
theorem walk (o n : ByteArray) (k : Int) {Q Q' : Prop} (_ : Q) (_ : Q') (hk : (Lit.int .u8 k).wf = true) (w : World) :
    Calls Try.prog 4 #[.string o, .string n, .int .u8 k] w fun e w' => e = .returned (.bool true) ∧ Below w.heap.size w w' := by
  obtain ⟨h0, h1⟩ := wf_u8 k hk
  obtain ⟨m, rfl⟩ : ∃ m : Nat, k = (m : Int) := ⟨k.toNat, by omega⟩
  exact walkK theKit o n m (by omega) w
set_option maxRecDepth 100000 in
theorem lifted (os : Os) (started : os.Started) (H : Type) (enc : TypeId × Value → H) :
    ReturnsInHanded {} Try.checked os 4 .any (Rows.diskTornSpec.pre6 enc Try.prog Try.f4 Rows.diskTornRow.domain false) (Rows.diskTornSpec.post enc Try.prog Try.f4 false true false false) := by
  refine returnsInHanded_of_change (C := Try.checked) own started (by kernel_rfl) Try.func4
    (ChangeSpec.witness6 (enc := enc) (C := Try.checked) false ⟨#[], #[.string ByteArray.empty, .string ByteArray.empty, .int .u8 0], []⟩ 8 (by kernel_rfl) (by kernel_rfl) (by kernel_rfl) (by kernel_rfl)) ?_
  intro W base args ds gs before hval0 hW hcnd _
  have hval : ∀ (j : Nat) t v, Try.f4.params[j]? = some t → args[j]? = some v → Value.okWide Try.prog W .any base t v := hval0
  have hW' := hW
  obtain ⟨p, q, hA0, hV, rfl, hfz, hnd⟩ := hW
  have hA : DataW.TrodAll enc Try.prog W 0 (fun _ => true) true Try.f4.params.toList args.toList ds p := hA0
  rw [Try.params4] at hA hval
  obtain ⟨v0, vs0, d0, ds0, p0, q0, hargs, rfl, rfl, h0, r0⟩ := trodAll_cons hA
  obtain ⟨v1, vs1, d1, ds1, p1, q1, rfl, rfl, rfl, h1, r1⟩ := trodAll_cons r0
  obtain ⟨v2, vs2, d2, ds2, p2, q2, rfl, rfl, rfl, h2, r2⟩ := trodAll_cons r1
  obtain ⟨rfl, rfl, rfl⟩ := trodAll_nil r2
  obtain rfl : args = #[v0, v1, v2] := by cases args; simp_all
  obtain ⟨rfl, rfl⟩ := trodVars_none hV
  obtain ⟨l0, rfl, rfl, rfl, n0⟩ := open_string Try.underlying9 (hval 0 9 v0 rfl rfl) h0
  obtain ⟨l1, rfl, rfl, rfl, n1⟩ := open_string Try.underlying9 (hval 1 9 v1 rfl rfl) h1
  obtain ⟨l2, rfl, rfl, rfl, n2⟩ := open_int Try.underlying5 (hval 2 5 v2 rfl rfl) h2
  clear hA0 hval0
  simp only [List.append_nil] at hW'
  refine (walk l0 l1 l2 n0 n1 n2 W).mono fun e W' ⟨he, bel⟩ => ?_
  subst he
  exact ⟨_, rfl, _, _, _, [], _, [], hW', trodAll_mk1 (shut_bool Try.underlying4 _), (trodAll_cons_mk (shut_string Try.underlying9 n0) (trodAll_cons_mk (shut_string Try.underlying9 n1) (trodAll_cons_mk (shut_int Try.underlying5 n2) trodAll_mk0))), rfl, bel.frame _, fun h => by cases h⟩

theorem over : Rows.diskTornRow.holds Try.pinned (OpenSpec.ofChange Rows.diskTornSpec) :=
  OpenClaim.holds_of_wide 4 Try.f4 rfl rfl rfl rfl rfl rfl rfl ⟨rfl, rfl, rfl, rfl, rfl⟩ rfl rfl rfl rfl rfl (by kernel_rfl) Try.func4 (by kernel_rfl)
    (of_decide_eq_true (by kernel_rfl)) (by unfold Func.isWrapper; first | (rw [if_pos (by decide +kernel)]; kernel_rfl) | (rw [if_neg (by decide +kernel)]; exact ⟨rfl, rfl⟩))
    (fun os started H enc _ => lifted os started H enc)

theorem proved : Rows.DiskTornSaid :=
  over
#print axioms proved
end Go.Proofs.Ytdpdgmfmjgjmiaa.diskTorn
