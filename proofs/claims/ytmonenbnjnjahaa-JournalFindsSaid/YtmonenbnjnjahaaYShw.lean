/- The case shown of stage 14, by any disk's and journals' contracts. -/
import Derived.Test.YtmonenbnjnjahaaYKit
namespace Go.Proofs.Ytmonenbnjnjahaa
open Go.RowKit
set_option linter.unusedVariables false

set_option maxRecDepth 100000 in
set_option maxHeartbeats 1000000 in
theorem l14_shown (K : JurKit) (w : World) :
    Calls Try.prog 6 #[] w fun e w' => e = .returned (.bool true) ∧ Below w.heap.size w w' := by
  have n0 := dkj_new (n := 8) (by decide)
  have j0 := @jur_new 8 1 8 (by decide) (by decide)
  have ea : apE ⟨1, 8, 1⟩ 3 = 0 := rfl
  have hb : Bys [97, 98, 99] := Bys.of (by decide)
  have n1 := dkj_append n0 j0 hb (by decide)
  have j1 := jur_append j0 (s := [97, 98, 99]) ea hb (by decide)
  have s0 := jur_open j0
  have s1 := jur_open j1
  have l1 := ap_len (newD 8) ⟨1, 8, 1⟩ [97, 98, 99]
  have HN := Lib.hid (K.new_yes 8 w w.heap.size (by decide) (by decide) (Nat.le_refl _))
  have HO := Lib.hid (fun (wx : World) (D : Nat) (F : Nat → Prop) (h : K.St w.heap.size wx D (newD 8) [] F) (hw : w.heap.size ≤ wx.heap.size) => K.open_ h (n0.more (by decide)) hw 1 8 (by decide) (by decide) (by decide) [] 0 s0)
  obtain ⟨d1, hd1⟩ : ∃ d1, apD (newD 8) ⟨1, 8, 1⟩ [97, 98, 99] = d1 := ⟨_, rfl⟩
  rw [hd1] at n1 s1 l1
  have HA := Lib.hid (fun (wx : World) (D J : Nat) (F : Nat → Prop) (h : K.St w.heap.size wx D (newD 8) [(J, ⟨1, 8, 1⟩)] F) (hw : w.heap.size ≤ wx.heap.size) => K.append h (n0.more (by decide)) hw (by decide) ⟨#[97, 98, 99]⟩ (by decide) 0 d1 ⟨1, 8, 2⟩ rfl hd1 rfl)
  have HP := Lib.hid (fun (wx : World) (D J : Nat) (F : Nat → Prop) (h : K.St w.heap.size wx D d1 [(J, ⟨1, 8, 2⟩)] F) (hw : w.heap.size ≤ wx.heap.size) => K.open_ h (n1.more (by decide)) hw 1 8 (by decide) (by rw [l1]; decide) (by decide) [[97, 98, 99]] 1 s1)
  have HR := Lib.hid (fun (wx : World) (D J J' : Nat) (F : Nat → Prop) (h : K.St w.heap.size wx D d1 [(J', ⟨1, 8, 2⟩), (J, ⟨1, 8, 2⟩)] F) (hw : w.heap.size ≤ wx.heap.size) => K.room (K.swap h) hw (by decide) 6 rfl)
  clear n0 j0 ea hb n1 j1 s0 s1 l1 hd1
  go_enter Try.func6, Try.ntmps6
  go_wp2_with fail
  refine HN.out.mono ?_
  rintro e w1 ⟨D, F0, rfl, r1, hb1, _⟩
  have R1 := Lib.hid r1
  have B1 := Lib.hid hb1
  clear r1 hb1
  unfold ptD
  go_wp2_with fail
  refine (HO.out w1 D F0 R1.out B1.out.size).mono ?_
  rintro e w2 ⟨J, p2, c2, F2, rfl, r2, _, t2⟩
  have R2 := Lib.hid r2
  have B2 := Lib.hid (B1.out.trans t2.b)
  clear r2 t2
  unfold ptD
  go_wp2_with fail
  refine (HA.out w2 D J F2 R2.out B2.out.size).mono ?_
  rintro e w3 ⟨F3, rfl, r3, t3⟩
  have R3 := Lib.hid r3
  have B3 := Lib.hid (B2.out.trans t3.b)
  clear r3 t3
  go_wp2_with fail
  refine (HP.out w3 D J F3 R3.out B3.out.size).mono ?_
  rintro e w4 ⟨J4, p4, c4, F4, rfl, r4, q4, t4⟩
  have R4 := Lib.hid r4
  have B4 := Lib.hid (B3.out.trans t4.b)
  have Q4 := Lib.hid q4
  clear r4 t4 q4
  unfold ptD
  go_wp2_with fail
  generalize hw5 : World.alloc w4 _ = w5
  have b5 : Below w4.heap.size w4 w5 := by rw [← hw5]; exact (Below.refl _ _).alloc (Nat.le_refl _) _
  have s5 : Sl w5 1 (.slice (some ⟨w4.heap.size, 0, none⟩) 1 1) (rowsS [[97, 98, 99]]) := by
    rw [← hw5]
    exact sl_blkS (rows := rowsS [[97, 98, 99]]) (rest := []) (fun r hr => by rw [List.mem_singleton.1 hr]; rfl) (Blk.newAt w4 _ rfl 9 _ rfl)
  have R5 := Lib.hid (K.below R4.out b5)
  have B5 := Lib.hid (B4.out.trans (b5.mono B4.out.size))
  have KS := Lib.hid (kr_Same [[97, 98, 99]] p4 (some ⟨w4.heap.size, 0, none⟩) c4 1 w5 (by decide) (Q4.out.below b5) s5)
  clear b5 s5 hw5
  refine KS.out.mono ?_
  rintro e w6 ⟨rfl, hb6⟩
  have R6 := Lib.hid (K.below R5.out hb6)
  have B6 := Lib.hid (B5.out.trans (hb6.mono B5.out.size))
  clear hb6
  go_wp2_with fail
  refine (HR.out w6 D J J4 F4 R6.out B6.out.size).mono ?_
  rintro e w7 ⟨rfl, hb7⟩
  have B7 := Lib.hid (B6.out.trans (hb7.mono B6.out.size))
  clear hb7
  go_wp2
  go_ret
  exact ⟨rfl, B7.out⟩
end Go.Proofs.Ytmonenbnjnjahaa
