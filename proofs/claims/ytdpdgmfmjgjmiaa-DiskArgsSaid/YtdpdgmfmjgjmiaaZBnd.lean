/- The case shown, by any disk's contracts. -/
import Derived.Test.YtdpdgmfmjgjmiaaZKit
namespace Go.Proofs.Ytdpdgmfmjgjmiaa
open Go.RowKit
set_option linter.unusedVariables false

/-! ### the case shown -/
set_option maxRecDepth 100000 in
set_option maxHeartbeats 1000000 in
theorem l13_shown (K : DiskKit) (w : World) :
    Calls Try.prog 8 #[] w fun e w' => e = .returned (.bool true) ∧ Below w.heap.size w w' := by
  obtain ⟨F, hF⟩ : ∃ F, fullT ⟨#[97]⟩ = F := ⟨_, rfl⟩
  have hFl : (sl F).length = 32 := by rw [← hF]; exact full_len _
  have hFs : F.size = 32 := by rw [← hF]; exact full_size _
  have HFL := Lib.hid (fun wx => l13_full ⟨#[97]⟩ wx (by decide))
  rw [hF] at HFL
  have n0 := dkn_new (n := 2) (by decide)
  obtain ⟨e1, w1⟩ := wr_on (d := newD 2) (i := 1) (s := sl F) (by simp [newD]) hFl rfl
  have n1 := dkn_write n0 (1 : Int) (sl_bys F)
  rw [show wrD (newD 2) (1 : Int) (sl F) = writeD (newD 2) 1 (sl F) from w1] at n1
  have o1 := off_write (d := newD 2) rfl 1 (sl F)
  obtain ⟨e2, w2⟩ := sy_on o1
  have n2 := dkn_sync n1
  rw [w2] at n2
  have n3 := dkn_crash n2 []
  have r3 : rdE (crashD (syncD (writeD (newD 2) 1 (sl F))) []) (1 : Int) = (sl F, 0) := by
    have hl : 1 < (syncD (writeD (newD 2) 1 (sl F))).sec.length := by rw [sync_len]; simp [writeD, newD]
    rw [show ((1 : Int)) = ((1 : Nat) : Int) from rfl, rd_on (by rw [crash_len]; exact hl) (off_crash _ _), crash_still [] hl rfl, sync_safe (by simp [writeD, newD]), read_same]
  obtain ⟨d1, hd1⟩ : ∃ d1, writeD (newD 2) 1 (sl F) = d1 := ⟨_, rfl⟩
  rw [hd1] at n1 n2 n3 r3 w1 w2 e2
  obtain ⟨d2, hd2⟩ : ∃ d2, syncD d1 = d2 := ⟨_, rfl⟩
  rw [hd2] at n2 n3 r3 w2
  obtain ⟨d3, hd3⟩ : ∃ d3, crashD d2 [] = d3 := ⟨_, rfl⟩
  rw [hd3] at n3 r3
  have HN := Lib.hid (K.new_yes 2 w w.heap.size (by decide) (by decide) (Nat.le_refl _))
  have HW := Lib.hid (fun (wx : World) (D : Nat) (h : K.Rep w.heap.size wx D (newD 2)) (hw : w.heap.size ≤ wx.heap.size) => K.write h (n0.b (by decide)) hw 1 (by decide) F (by omega) 0 d1 (by rw [hFs, ← hFl]; exact e1) w1)
  have HS := Lib.hid (fun (wx : World) (D : Nat) (h : K.Rep w.heap.size wx D d1) (hw : w.heap.size ≤ wx.heap.size) => K.sync h (n1.b (by decide)) hw 0 d2 e2 w2)
  have HC := Lib.hid (fun (wx : World) (D : Nat) (h : K.Rep w.heap.size wx D d2) (hw : w.heap.size ≤ wx.heap.size) => K.crash h (n2.b (by decide)) hw [] none 0 (by decide) (Bys.of fun x hx => by cases hx) (Sl.none 1) (fun h => absurd h (Nat.lt_irrefl _)) d3 hd3)
  have HR := Lib.hid (fun (wx : World) (D : Nat) (h : K.Rep w.heap.size wx D d3) (hw : w.heap.size ≤ wx.heap.size) => K.read_ h (n3.b (by decide)) hw 1 (by decide) F 0 r3)
  have t1 := txt_same F
  clear n0 n1 n2 n3 e1 w1 o1 e2 w2 r3 hF hFl hFs hd1 hd2 hd3
  go_enter Try.func8, Try.ntmps8
  go_wp2_with fail
  refine HN.out.mono ?_
  rintro e w1 ⟨D, rfl, r1, hb1⟩
  have R1 := Lib.hid r1
  have B1 := Lib.hid hb1
  clear r1 hb1
  unfold ptD
  go_wp2_with fail
  refine (HFL.out _).mono ?_
  rintro e w2 ⟨rfl, hb2⟩
  have R2 := Lib.hid (K.keep R1.out hb2)
  have B2 := Lib.hid (B1.out.trans (hb2.mono B1.out.size))
  clear hb2
  go_wp2_with fail
  refine (HW.out w2 D R2.out B2.out.size).mono ?_
  rintro e w3 ⟨rfl, r3, hb3⟩
  have R3 := Lib.hid r3
  have B3 := Lib.hid (B2.out.trans hb3)
  clear r3 hb3
  go_wp2_with fail
  refine (HS.out w3 D R3.out B3.out.size).mono ?_
  rintro e w4 ⟨rfl, r4, hb4⟩
  have R4 := Lib.hid r4
  have B4 := Lib.hid (B3.out.trans hb4)
  clear r4 hb4
  go_wp2_with fail
  refine (HC.out w4 D R4.out B4.out.size).mono ?_
  rintro e w5 ⟨rfl, r5, hb5⟩
  have R5 := Lib.hid r5
  have B5 := Lib.hid (B4.out.trans hb5)
  clear r5 hb5
  go_wp2_with fail
  refine (HR.out w5 D R5.out B5.out.size).mono ?_
  rintro e w6 ⟨rfl, r6, hb6⟩
  have B6 := Lib.hid (B5.out.trans hb6)
  clear r6 hb6
  go_wp2_with fail
  refine (HFL.out _).mono ?_
  rintro e w7 ⟨rfl, hb7⟩
  have B7 := Lib.hid (B6.out.trans (hb7.mono B6.out.size))
  clear hb7
  go_wp2
  go_ret
  exact ⟨rfl, B7.out⟩
end Go.Proofs.Ytdpdgmfmjgjmiaa
