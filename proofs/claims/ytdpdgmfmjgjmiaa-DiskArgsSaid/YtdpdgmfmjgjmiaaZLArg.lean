/-
  For all numbers of sectors, all numbers of a sector, and every text: sectors that are none, and texts of other lengths, are refused, and change nothing. Texts beyond the bound are answered by the case shown alone. No condition.
-/
import Derived.Test.YtdpdgmfmjgjmiaaRows
import Derived.Test.YtdpdgmfmjgjmiaaZBnd
import Derived.Test.YtdpdgmfmjgjmiaaZThe
import Derived.ShutString
import Derived.ChangeOld
namespace Go.Proofs.Ytdpdgmfmjgjmiaa.diskArgs
open Go.ChangeShapes Go.WideShapes Go.ChangeAt Go.RowKit
open Go.ChangeMaps (open_string shut_string)
set_option linter.unusedVariables false

set_option maxHeartbeats 4000000 in
set_option maxRecDepth 100000 in
theorem walkK (K : DiskKit) (n i : Int) (s : ByteArray) (hn : (Lit.int .i64 n).wf = true) (hi : (Lit.int .i64 i).wf = true) (w : World) :
    Calls Try.prog 6 #[.int .i64 n, .int .i64 i, .string s] w fun e w' => e = .returned (.bool true) ∧ Below w.heap.size w w' := by
  have HSh := Lib.hid (fun w => l13_shown K w)
  by_cases h1 : 100 < s.size
  · have g1 : (100 : Int) < (s.size : Int) := by omega
    have g1' : decide ((100 : Int) < (s.size : Int)) = true := by simpa using g1
    clear h1
    go_enter Try.func6, Try.ntmps6
    go_wp2_with (go_at_call 8; (with_reducible refine (HSh.out _).mono ?_); rintro e w1 ⟨rfl, hb1⟩)
    go_ret
    exact ⟨rfl, hb1⟩
  have g1 : ¬ (100 : Int) < (s.size : Int) := by omega
  have g1' : decide ((100 : Int) < (s.size : Int)) = false := by simpa using g1
  have h100 := Lib.hid (show s.size ≤ 65536 by omega)
  obtain ⟨Z, hZ⟩ : ∃ Z, tx (zerN 32) = Z := ⟨_, rfl⟩
  have hZs : Z.size = 32 := by rw [← hZ, tx_size, zerN_len]
  have hZl : sl Z = zerN 32 := by rw [← hZ]; exact sl_tx (zer_bys 32)
  have hF : fullT ⟨#[]⟩ = Z := by rw [← hZ]; unfold fullT; rfl
  have HFL := Lib.hid (fun wx => l13_full ⟨#[]⟩ wx (by decide))
  rw [hF] at HFL
  have t1 := txt_same Z
  have t2 : Z.toList.isEmpty = false := emp_no (by rw [hZs]; decide)
  have HN5 := Lib.hid (fun (wx : World) (h : w.heap.size ≤ wx.heap.size) => K.new_yes 5 wx w.heap.size (by decide) (by decide) h)
  have n0 := dkn_new (n := 5) (by decide)
  have hl5 : (newD 5).sec.length = 5 := by simp [newD]
  have hsf0 : ∀ k : Nat, k < 5 → sfD (newD 5) (k : Int) = sl Z := fun k hk => by
    rw [sf_in (by rw [hl5]; exact hk), hZl]
    unfold newD
    rw [List.getD_eq_getElem?_getD, List.getElem?_replicate, if_pos hk]
    rfl
  have n1 := dkn_write n0 i (sl_bys s)
  obtain ⟨d1, hd1⟩ : ∃ d1, wrD (newD 5) i (sl s) = d1 := ⟨_, rfl⟩
  obtain ⟨E, hE⟩ : ∃ E, wrE (newD 5) i s.size = E := ⟨_, rfl⟩
  have hl1 : d1.sec.length = 5 := by rw [← hd1, wr_len, hl5]
  have hss : d1.sec = (newD 5).sec := by rw [← hd1]; unfold wrD; split <;> rfl
  have ho1 : offD d1 = false := by
    rw [← hd1]; unfold wrD; split
    · exact off_write rfl _ _
    · rfl
  have hsf1 : ∀ k : Nat, k < 5 → sfD d1 (k : Int) = sl Z := fun k hk => by
    rw [← hsf0 k hk, sf_in (by rw [hl1]; exact hk), sf_in (by rw [hl5]; exact hk), hss]
  have hw0 : (Lit.int .i64 (0 : Int)).wf = true := by decide
  rw [hd1] at n1
  have HW := Lib.hid (fun (wx : World) (D : Nat) (h : K.Rep w.heap.size wx D (newD 5)) (hw : w.heap.size ≤ wx.heap.size) => K.write h (n0.b (by decide)) hw i hi s h100.out E d1 hE hd1)
  have HS0 := Lib.hid (fun (wx : World) (D : Nat) (h : K.Rep w.heap.size wx D d1) (hw : w.heap.size ≤ wx.heap.size) => K.safe h (n1.b (by decide)) hw 0 hw0 Z (hsf1 0 (by decide)))
  have HSE := Lib.hid (fun (wx : World) (D : Nat) (h : K.Rep w.heap.size wx D d1) (hw : w.heap.size ≤ wx.heap.size) => K.sectors h (n1.b (by decide)) hw)
  rw [hl1] at HSE
  have HD1 := Lib.hid hd1
  by_cases q1 : n < 1
  · have HNn := Lib.hid (fun wx : World => K.new_no n wx (by omega))
    have m1 : decide ((1 : Int) ≤ n) = false := by simp; omega
    by_cases c1 : 0 ≤ i ∧ i < 5
    · by_cases hs32 : s.size = 32
      · obtain ⟨k, rfl⟩ : ∃ k : Nat, i = (k : Int) := ⟨i.toNat, by omega⟩
        have hk5 : k < 5 := by omega
        have hin : inD (newD 5) (k : Int) := by unfold inD; rw [hl5]; omega
        have hE0 : E = 0 := by rw [← hE]; unfold wrE; rw [if_neg (by simpa using hin), if_neg (by simpa using hs32)]; rfl
        subst hE0
        have hrd : rdE d1 (k : Int) = (sl s, 0) := by
          rw [rd_on (by rw [hl1]; exact hk5) ho1, ← hd1, (wr_on (d := newD 5) (i := k) (s := sl s) (by rw [hl5]; exact hk5) (by rw [sl_len]; exact hs32) rfl).2, read_same]
        have hsfi := hsf1 k hk5
        have HR := Lib.hid (fun (wx : World) (D : Nat) (h : K.Rep w.heap.size wx D d1) (hw : w.heap.size ≤ wx.heap.size) => K.read_ h (n1.b (by decide)) hw (k : Int) hi s 0 hrd)
        have HSI := Lib.hid (fun (wx : World) (D : Nat) (h : K.Rep w.heap.size wx D d1) (hw : w.heap.size ≤ wx.heap.size) => K.safe h (n1.b (by decide)) hw (k : Int) hi Z hsfi)
        have j1 : decide ((0 : Int) ≤ (k : Int)) = true := by simp
        have j2 : decide ((k : Int) < 5) = true := by simp; omega
        have j3 : ((s.size : Int) != 32) = false := by simp; omega
        clear n0 n1 hE hd1 hsf0 hsf1 hss ho1 hl1 hl5 hZ hZs hZl hF hw0 HD1 hin c1 hs32 hk5 hrd hsfi q1
        go_enter Try.func6, Try.ntmps6
        go_wp2_with fail
        (with_reducible refine (HSh.out _).mono ?_)
        rintro e v0 ⟨rfl, c0⟩
        have B0 := Lib.hid c0
        clear c0
        go_wp2_with fail
        refine (HN5.out v0 B0.out.size).mono ?_
        rintro e v1 ⟨D, rfl, r1, c1⟩
        have R1 := Lib.hid r1
        have B1 := Lib.hid (B0.out.trans (c1.mono B0.out.size))
        clear r1 c1
        unfold ptD
        go_wp2_with fail
        refine (HNn.out v1).mono ?_
        rintro e v2 ⟨rfl, c2⟩
        have R2 := Lib.hid (K.keep R1.out c2)
        have B2 := Lib.hid (B1.out.trans (c2.mono B1.out.size))
        clear c2
        go_wp2_with fail
        refine (HW.out v2 D R2.out B2.out.size).mono ?_
        rintro e v3 ⟨rfl, r3, c3⟩
        have R3 := Lib.hid r3
        have B3 := Lib.hid (B2.out.trans c3)
        clear r3 c3
        go_wp2_with fail
        refine (HR.out v3 D R3.out B3.out.size).mono ?_
        rintro e v4 ⟨rfl, r4, c4⟩
        have R4 := Lib.hid r4
        have B4 := Lib.hid (B3.out.trans c4)
        clear r4 c4
        go_wp2_with fail
        refine (HSI.out v4 D R4.out B4.out.size).mono ?_
        rintro e v5 ⟨rfl, r5, c5⟩
        have R5 := Lib.hid r5
        have B5 := Lib.hid (B4.out.trans c5)
        clear r5 c5
        go_wp2_with fail
        refine (HS0.out v5 D R5.out B5.out.size).mono ?_
        rintro e v6 ⟨rfl, r6, c6⟩
        have R6 := Lib.hid r6
        have B6 := Lib.hid (B5.out.trans c6)
        clear r6 c6
        go_wp2_with fail
        refine (HFL.out _).mono ?_
        rintro e v7 ⟨rfl, c7⟩
        have R7 := Lib.hid (K.keep R6.out c7)
        have B7 := Lib.hid (B6.out.trans (c7.mono B6.out.size))
        clear c7
        go_wp2_with fail
        refine (HSE.out v7 D R7.out B7.out.size).mono ?_
        rintro e v8 ⟨rfl, r8, c8⟩
        have B8 := Lib.hid (B7.out.trans c8)
        clear r8 c8
        go_wp2
        go_ret
        exact ⟨rfl, B8.out⟩
      · obtain ⟨k, rfl⟩ : ∃ k : Nat, i = (k : Int) := ⟨i.toNat, by omega⟩
        have hk5 : k < 5 := by omega
        have hin : inD (newD 5) (k : Int) := by unfold inD; rw [hl5]; omega
        have hE0 : E = 1 := by rw [← hE]; unfold wrE; rw [if_neg (by simpa using hin), if_pos hs32]
        subst hE0
        have hdd : d1 = newD 5 := by rw [← hd1]; unfold wrD; rw [sl_len, hE]; rfl
        have hrd : rdE d1 (k : Int) = (sl Z, 0) := by
          rw [rd_on (by rw [hl1]; exact hk5) ho1, hdd, read_new hk5, hZl]
        have hsfi := hsf1 k hk5
        have HR := Lib.hid (fun (wx : World) (D : Nat) (h : K.Rep w.heap.size wx D d1) (hw : w.heap.size ≤ wx.heap.size) => K.read_ h (n1.b (by decide)) hw (k : Int) hi Z 0 hrd)
        have HSI := Lib.hid (fun (wx : World) (D : Nat) (h : K.Rep w.heap.size wx D d1) (hw : w.heap.size ≤ wx.heap.size) => K.safe h (n1.b (by decide)) hw (k : Int) hi Z hsfi)
        have j1 : decide ((0 : Int) ≤ (k : Int)) = true := by simp
        have j2 : decide ((k : Int) < 5) = true := by simp; omega
        have j3 : ((s.size : Int) != 32) = true := by simp; omega
        clear n0 n1 hE hd1 hsf0 hsf1 hss ho1 hl1 hl5 hZ hZs hZl hF hw0 HD1 hin c1 hs32 hk5 hrd hsfi hdd q1
        go_enter Try.func6, Try.ntmps6
        go_wp2_with fail
        (with_reducible refine (HSh.out _).mono ?_)
        rintro e v0 ⟨rfl, c0⟩
        have B0 := Lib.hid c0
        clear c0
        go_wp2_with fail
        refine (HN5.out v0 B0.out.size).mono ?_
        rintro e v1 ⟨D, rfl, r1, c1⟩
        have R1 := Lib.hid r1
        have B1 := Lib.hid (B0.out.trans (c1.mono B0.out.size))
        clear r1 c1
        unfold ptD
        go_wp2_with fail
        refine (HNn.out v1).mono ?_
        rintro e v2 ⟨rfl, c2⟩
        have R2 := Lib.hid (K.keep R1.out c2)
        have B2 := Lib.hid (B1.out.trans (c2.mono B1.out.size))
        clear c2
        go_wp2_with fail
        refine (HW.out v2 D R2.out B2.out.size).mono ?_
        rintro e v3 ⟨rfl, r3, c3⟩
        have R3 := Lib.hid r3
        have B3 := Lib.hid (B2.out.trans c3)
        clear r3 c3
        go_wp2_with fail
        refine (HR.out v3 D R3.out B3.out.size).mono ?_
        rintro e v4 ⟨rfl, r4, c4⟩
        have R4 := Lib.hid r4
        have B4 := Lib.hid (B3.out.trans c4)
        clear r4 c4
        go_wp2_with fail
        refine (HSI.out v4 D R4.out B4.out.size).mono ?_
        rintro e v5 ⟨rfl, r5, c5⟩
        have R5 := Lib.hid r5
        have B5 := Lib.hid (B4.out.trans c5)
        clear r5 c5
        go_wp2_with fail
        refine (HS0.out v5 D R5.out B5.out.size).mono ?_
        rintro e v6 ⟨rfl, r6, c6⟩
        have R6 := Lib.hid r6
        have B6 := Lib.hid (B5.out.trans c6)
        clear r6 c6
        go_wp2_with fail
        refine (HFL.out _).mono ?_
        rintro e v7 ⟨rfl, c7⟩
        have R7 := Lib.hid (K.keep R6.out c7)
        have B7 := Lib.hid (B6.out.trans (c7.mono B6.out.size))
        clear c7
        go_wp2_with fail
        refine (HSE.out v7 D R7.out B7.out.size).mono ?_
        rintro e v8 ⟨rfl, r8, c8⟩
        have B8 := Lib.hid (B7.out.trans c8)
        clear r8 c8
        go_wp2
        go_ret
        exact ⟨rfl, B8.out⟩
    · by_cases c2 : i < 0
      · have hnin : ¬ inD (newD 5) i := by unfold inD; rw [hl5]; omega
        have hnin1 : ¬ inD d1 i := by unfold inD; rw [hl1]; omega
        have hE0 : E = 131 := by rw [← hE]; unfold wrE; rw [if_pos hnin]
        subst hE0
        have hrd : rdE d1 i = (sl ⟨#[]⟩, 131) := by unfold rdE; rw [ho1, if_neg (by decide), if_neg hnin1]; rfl
        have hsfi : sfD d1 i = sl ⟨#[]⟩ := by unfold sfD; rw [if_neg hnin1]; rfl
        have HR := Lib.hid (fun (wx : World) (D : Nat) (h : K.Rep w.heap.size wx D d1) (hw : w.heap.size ≤ wx.heap.size) => K.read_ h (n1.b (by decide)) hw i hi ⟨#[]⟩ 131 hrd)
        have HSI := Lib.hid (fun (wx : World) (D : Nat) (h : K.Rep w.heap.size wx D d1) (hw : w.heap.size ≤ wx.heap.size) => K.safe h (n1.b (by decide)) hw i hi ⟨#[]⟩ hsfi)
        have j1 : decide ((0 : Int) ≤ i) = false := by simp; omega
        clear n0 n1 hE hd1 hsf0 hsf1 hss ho1 hl1 hl5 hZ hZs hZl hF hw0 HD1 hnin hnin1 c1 c2 hrd hsfi q1
        go_enter Try.func6, Try.ntmps6
        go_wp2_with fail
        (with_reducible refine (HSh.out _).mono ?_)
        rintro e v0 ⟨rfl, c0⟩
        have B0 := Lib.hid c0
        clear c0
        go_wp2_with fail
        refine (HN5.out v0 B0.out.size).mono ?_
        rintro e v1 ⟨D, rfl, r1, c1⟩
        have R1 := Lib.hid r1
        have B1 := Lib.hid (B0.out.trans (c1.mono B0.out.size))
        clear r1 c1
        unfold ptD
        go_wp2_with fail
        refine (HNn.out v1).mono ?_
        rintro e v2 ⟨rfl, c2⟩
        have R2 := Lib.hid (K.keep R1.out c2)
        have B2 := Lib.hid (B1.out.trans (c2.mono B1.out.size))
        clear c2
        go_wp2_with fail
        refine (HW.out v2 D R2.out B2.out.size).mono ?_
        rintro e v3 ⟨rfl, r3, c3⟩
        have R3 := Lib.hid r3
        have B3 := Lib.hid (B2.out.trans c3)
        clear r3 c3
        go_wp2_with fail
        refine (HR.out v3 D R3.out B3.out.size).mono ?_
        rintro e v4 ⟨rfl, r4, c4⟩
        have R4 := Lib.hid r4
        have B4 := Lib.hid (B3.out.trans c4)
        clear r4 c4
        go_wp2_with fail
        refine (HSI.out v4 D R4.out B4.out.size).mono ?_
        rintro e v5 ⟨rfl, r5, c5⟩
        have R5 := Lib.hid r5
        have B5 := Lib.hid (B4.out.trans c5)
        clear r5 c5
        go_wp2_with fail
        refine (HS0.out v5 D R5.out B5.out.size).mono ?_
        rintro e v6 ⟨rfl, r6, c6⟩
        have R6 := Lib.hid r6
        have B6 := Lib.hid (B5.out.trans c6)
        clear r6 c6
        go_wp2_with fail
        refine (HFL.out _).mono ?_
        rintro e v7 ⟨rfl, c7⟩
        have R7 := Lib.hid (K.keep R6.out c7)
        have B7 := Lib.hid (B6.out.trans (c7.mono B6.out.size))
        clear c7
        go_wp2_with fail
        refine (HSE.out v7 D R7.out B7.out.size).mono ?_
        rintro e v8 ⟨rfl, r8, c8⟩
        have B8 := Lib.hid (B7.out.trans c8)
        clear r8 c8
        go_wp2
        go_ret
        exact ⟨rfl, B8.out⟩
      · have hnin : ¬ inD (newD 5) i := by unfold inD; rw [hl5]; omega
        have hnin1 : ¬ inD d1 i := by unfold inD; rw [hl1]; omega
        have hE0 : E = 131 := by rw [← hE]; unfold wrE; rw [if_pos hnin]
        subst hE0
        have hrd : rdE d1 i = (sl ⟨#[]⟩, 131) := by unfold rdE; rw [ho1, if_neg (by decide), if_neg hnin1]; rfl
        have hsfi : sfD d1 i = sl ⟨#[]⟩ := by unfold sfD; rw [if_neg hnin1]; rfl
        have HR := Lib.hid (fun (wx : World) (D : Nat) (h : K.Rep w.heap.size wx D d1) (hw : w.heap.size ≤ wx.heap.size) => K.read_ h (n1.b (by decide)) hw i hi ⟨#[]⟩ 131 hrd)
        have HSI := Lib.hid (fun (wx : World) (D : Nat) (h : K.Rep w.heap.size wx D d1) (hw : w.heap.size ≤ wx.heap.size) => K.safe h (n1.b (by decide)) hw i hi ⟨#[]⟩ hsfi)
        have j1 : decide ((0 : Int) ≤ i) = true := by simp; omega
        have j2 : decide (i < 5) = false := by simp; omega
        clear n0 n1 hE hd1 hsf0 hsf1 hss ho1 hl1 hl5 hZ hZs hZl hF hw0 HD1 hnin hnin1 c1 c2 hrd hsfi q1
        go_enter Try.func6, Try.ntmps6
        go_wp2_with fail
        (with_reducible refine (HSh.out _).mono ?_)
        rintro e v0 ⟨rfl, c0⟩
        have B0 := Lib.hid c0
        clear c0
        go_wp2_with fail
        refine (HN5.out v0 B0.out.size).mono ?_
        rintro e v1 ⟨D, rfl, r1, c1⟩
        have R1 := Lib.hid r1
        have B1 := Lib.hid (B0.out.trans (c1.mono B0.out.size))
        clear r1 c1
        unfold ptD
        go_wp2_with fail
        refine (HNn.out v1).mono ?_
        rintro e v2 ⟨rfl, c2⟩
        have R2 := Lib.hid (K.keep R1.out c2)
        have B2 := Lib.hid (B1.out.trans (c2.mono B1.out.size))
        clear c2
        go_wp2_with fail
        refine (HW.out v2 D R2.out B2.out.size).mono ?_
        rintro e v3 ⟨rfl, r3, c3⟩
        have R3 := Lib.hid r3
        have B3 := Lib.hid (B2.out.trans c3)
        clear r3 c3
        go_wp2_with fail
        refine (HR.out v3 D R3.out B3.out.size).mono ?_
        rintro e v4 ⟨rfl, r4, c4⟩
        have R4 := Lib.hid r4
        have B4 := Lib.hid (B3.out.trans c4)
        clear r4 c4
        go_wp2_with fail
        refine (HSI.out v4 D R4.out B4.out.size).mono ?_
        rintro e v5 ⟨rfl, r5, c5⟩
        have R5 := Lib.hid r5
        have B5 := Lib.hid (B4.out.trans c5)
        clear r5 c5
        go_wp2_with fail
        refine (HS0.out v5 D R5.out B5.out.size).mono ?_
        rintro e v6 ⟨rfl, r6, c6⟩
        have R6 := Lib.hid r6
        have B6 := Lib.hid (B5.out.trans c6)
        clear r6 c6
        go_wp2_with fail
        refine (HFL.out _).mono ?_
        rintro e v7 ⟨rfl, c7⟩
        have R7 := Lib.hid (K.keep R6.out c7)
        have B7 := Lib.hid (B6.out.trans (c7.mono B6.out.size))
        clear c7
        go_wp2_with fail
        refine (HSE.out v7 D R7.out B7.out.size).mono ?_
        rintro e v8 ⟨rfl, r8, c8⟩
        have B8 := Lib.hid (B7.out.trans c8)
        clear r8 c8
        go_wp2
        go_ret
        exact ⟨rfl, B8.out⟩
  by_cases q2 : 4096 < n
  · have HNn := Lib.hid (fun wx : World => K.new_no n wx (by omega))
    have m1 : decide ((1 : Int) ≤ n) = true := by simp; omega
    have m2 : decide (n ≤ 4096) = false := by simp; omega
    by_cases c1 : 0 ≤ i ∧ i < 5
    · by_cases hs32 : s.size = 32
      · obtain ⟨k, rfl⟩ : ∃ k : Nat, i = (k : Int) := ⟨i.toNat, by omega⟩
        have hk5 : k < 5 := by omega
        have hin : inD (newD 5) (k : Int) := by unfold inD; rw [hl5]; omega
        have hE0 : E = 0 := by rw [← hE]; unfold wrE; rw [if_neg (by simpa using hin), if_neg (by simpa using hs32)]; rfl
        subst hE0
        have hrd : rdE d1 (k : Int) = (sl s, 0) := by
          rw [rd_on (by rw [hl1]; exact hk5) ho1, ← hd1, (wr_on (d := newD 5) (i := k) (s := sl s) (by rw [hl5]; exact hk5) (by rw [sl_len]; exact hs32) rfl).2, read_same]
        have hsfi := hsf1 k hk5
        have HR := Lib.hid (fun (wx : World) (D : Nat) (h : K.Rep w.heap.size wx D d1) (hw : w.heap.size ≤ wx.heap.size) => K.read_ h (n1.b (by decide)) hw (k : Int) hi s 0 hrd)
        have HSI := Lib.hid (fun (wx : World) (D : Nat) (h : K.Rep w.heap.size wx D d1) (hw : w.heap.size ≤ wx.heap.size) => K.safe h (n1.b (by decide)) hw (k : Int) hi Z hsfi)
        have j1 : decide ((0 : Int) ≤ (k : Int)) = true := by simp
        have j2 : decide ((k : Int) < 5) = true := by simp; omega
        have j3 : ((s.size : Int) != 32) = false := by simp; omega
        clear n0 n1 hE hd1 hsf0 hsf1 hss ho1 hl1 hl5 hZ hZs hZl hF hw0 HD1 hin c1 hs32 hk5 hrd hsfi q1 q2
        go_enter Try.func6, Try.ntmps6
        go_wp2_with fail
        (with_reducible refine (HSh.out _).mono ?_)
        rintro e v0 ⟨rfl, c0⟩
        have B0 := Lib.hid c0
        clear c0
        go_wp2_with fail
        refine (HN5.out v0 B0.out.size).mono ?_
        rintro e v1 ⟨D, rfl, r1, c1⟩
        have R1 := Lib.hid r1
        have B1 := Lib.hid (B0.out.trans (c1.mono B0.out.size))
        clear r1 c1
        unfold ptD
        go_wp2_with fail
        refine (HNn.out v1).mono ?_
        rintro e v2 ⟨rfl, c2⟩
        have R2 := Lib.hid (K.keep R1.out c2)
        have B2 := Lib.hid (B1.out.trans (c2.mono B1.out.size))
        clear c2
        go_wp2_with fail
        refine (HW.out v2 D R2.out B2.out.size).mono ?_
        rintro e v3 ⟨rfl, r3, c3⟩
        have R3 := Lib.hid r3
        have B3 := Lib.hid (B2.out.trans c3)
        clear r3 c3
        go_wp2_with fail
        refine (HR.out v3 D R3.out B3.out.size).mono ?_
        rintro e v4 ⟨rfl, r4, c4⟩
        have R4 := Lib.hid r4
        have B4 := Lib.hid (B3.out.trans c4)
        clear r4 c4
        go_wp2_with fail
        refine (HSI.out v4 D R4.out B4.out.size).mono ?_
        rintro e v5 ⟨rfl, r5, c5⟩
        have R5 := Lib.hid r5
        have B5 := Lib.hid (B4.out.trans c5)
        clear r5 c5
        go_wp2_with fail
        refine (HS0.out v5 D R5.out B5.out.size).mono ?_
        rintro e v6 ⟨rfl, r6, c6⟩
        have R6 := Lib.hid r6
        have B6 := Lib.hid (B5.out.trans c6)
        clear r6 c6
        go_wp2_with fail
        refine (HFL.out _).mono ?_
        rintro e v7 ⟨rfl, c7⟩
        have R7 := Lib.hid (K.keep R6.out c7)
        have B7 := Lib.hid (B6.out.trans (c7.mono B6.out.size))
        clear c7
        go_wp2_with fail
        refine (HSE.out v7 D R7.out B7.out.size).mono ?_
        rintro e v8 ⟨rfl, r8, c8⟩
        have B8 := Lib.hid (B7.out.trans c8)
        clear r8 c8
        go_wp2
        go_ret
        exact ⟨rfl, B8.out⟩
      · obtain ⟨k, rfl⟩ : ∃ k : Nat, i = (k : Int) := ⟨i.toNat, by omega⟩
        have hk5 : k < 5 := by omega
        have hin : inD (newD 5) (k : Int) := by unfold inD; rw [hl5]; omega
        have hE0 : E = 1 := by rw [← hE]; unfold wrE; rw [if_neg (by simpa using hin), if_pos hs32]
        subst hE0
        have hdd : d1 = newD 5 := by rw [← hd1]; unfold wrD; rw [sl_len, hE]; rfl
        have hrd : rdE d1 (k : Int) = (sl Z, 0) := by
          rw [rd_on (by rw [hl1]; exact hk5) ho1, hdd, read_new hk5, hZl]
        have hsfi := hsf1 k hk5
        have HR := Lib.hid (fun (wx : World) (D : Nat) (h : K.Rep w.heap.size wx D d1) (hw : w.heap.size ≤ wx.heap.size) => K.read_ h (n1.b (by decide)) hw (k : Int) hi Z 0 hrd)
        have HSI := Lib.hid (fun (wx : World) (D : Nat) (h : K.Rep w.heap.size wx D d1) (hw : w.heap.size ≤ wx.heap.size) => K.safe h (n1.b (by decide)) hw (k : Int) hi Z hsfi)
        have j1 : decide ((0 : Int) ≤ (k : Int)) = true := by simp
        have j2 : decide ((k : Int) < 5) = true := by simp; omega
        have j3 : ((s.size : Int) != 32) = true := by simp; omega
        clear n0 n1 hE hd1 hsf0 hsf1 hss ho1 hl1 hl5 hZ hZs hZl hF hw0 HD1 hin c1 hs32 hk5 hrd hsfi hdd q1 q2
        go_enter Try.func6, Try.ntmps6
        go_wp2_with fail
        (with_reducible refine (HSh.out _).mono ?_)
        rintro e v0 ⟨rfl, c0⟩
        have B0 := Lib.hid c0
        clear c0
        go_wp2_with fail
        refine (HN5.out v0 B0.out.size).mono ?_
        rintro e v1 ⟨D, rfl, r1, c1⟩
        have R1 := Lib.hid r1
        have B1 := Lib.hid (B0.out.trans (c1.mono B0.out.size))
        clear r1 c1
        unfold ptD
        go_wp2_with fail
        refine (HNn.out v1).mono ?_
        rintro e v2 ⟨rfl, c2⟩
        have R2 := Lib.hid (K.keep R1.out c2)
        have B2 := Lib.hid (B1.out.trans (c2.mono B1.out.size))
        clear c2
        go_wp2_with fail
        refine (HW.out v2 D R2.out B2.out.size).mono ?_
        rintro e v3 ⟨rfl, r3, c3⟩
        have R3 := Lib.hid r3
        have B3 := Lib.hid (B2.out.trans c3)
        clear r3 c3
        go_wp2_with fail
        refine (HR.out v3 D R3.out B3.out.size).mono ?_
        rintro e v4 ⟨rfl, r4, c4⟩
        have R4 := Lib.hid r4
        have B4 := Lib.hid (B3.out.trans c4)
        clear r4 c4
        go_wp2_with fail
        refine (HSI.out v4 D R4.out B4.out.size).mono ?_
        rintro e v5 ⟨rfl, r5, c5⟩
        have R5 := Lib.hid r5
        have B5 := Lib.hid (B4.out.trans c5)
        clear r5 c5
        go_wp2_with fail
        refine (HS0.out v5 D R5.out B5.out.size).mono ?_
        rintro e v6 ⟨rfl, r6, c6⟩
        have R6 := Lib.hid r6
        have B6 := Lib.hid (B5.out.trans c6)
        clear r6 c6
        go_wp2_with fail
        refine (HFL.out _).mono ?_
        rintro e v7 ⟨rfl, c7⟩
        have R7 := Lib.hid (K.keep R6.out c7)
        have B7 := Lib.hid (B6.out.trans (c7.mono B6.out.size))
        clear c7
        go_wp2_with fail
        refine (HSE.out v7 D R7.out B7.out.size).mono ?_
        rintro e v8 ⟨rfl, r8, c8⟩
        have B8 := Lib.hid (B7.out.trans c8)
        clear r8 c8
        go_wp2
        go_ret
        exact ⟨rfl, B8.out⟩
    · by_cases c2 : i < 0
      · have hnin : ¬ inD (newD 5) i := by unfold inD; rw [hl5]; omega
        have hnin1 : ¬ inD d1 i := by unfold inD; rw [hl1]; omega
        have hE0 : E = 131 := by rw [← hE]; unfold wrE; rw [if_pos hnin]
        subst hE0
        have hrd : rdE d1 i = (sl ⟨#[]⟩, 131) := by unfold rdE; rw [ho1, if_neg (by decide), if_neg hnin1]; rfl
        have hsfi : sfD d1 i = sl ⟨#[]⟩ := by unfold sfD; rw [if_neg hnin1]; rfl
        have HR := Lib.hid (fun (wx : World) (D : Nat) (h : K.Rep w.heap.size wx D d1) (hw : w.heap.size ≤ wx.heap.size) => K.read_ h (n1.b (by decide)) hw i hi ⟨#[]⟩ 131 hrd)
        have HSI := Lib.hid (fun (wx : World) (D : Nat) (h : K.Rep w.heap.size wx D d1) (hw : w.heap.size ≤ wx.heap.size) => K.safe h (n1.b (by decide)) hw i hi ⟨#[]⟩ hsfi)
        have j1 : decide ((0 : Int) ≤ i) = false := by simp; omega
        clear n0 n1 hE hd1 hsf0 hsf1 hss ho1 hl1 hl5 hZ hZs hZl hF hw0 HD1 hnin hnin1 c1 c2 hrd hsfi q1 q2
        go_enter Try.func6, Try.ntmps6
        go_wp2_with fail
        (with_reducible refine (HSh.out _).mono ?_)
        rintro e v0 ⟨rfl, c0⟩
        have B0 := Lib.hid c0
        clear c0
        go_wp2_with fail
        refine (HN5.out v0 B0.out.size).mono ?_
        rintro e v1 ⟨D, rfl, r1, c1⟩
        have R1 := Lib.hid r1
        have B1 := Lib.hid (B0.out.trans (c1.mono B0.out.size))
        clear r1 c1
        unfold ptD
        go_wp2_with fail
        refine (HNn.out v1).mono ?_
        rintro e v2 ⟨rfl, c2⟩
        have R2 := Lib.hid (K.keep R1.out c2)
        have B2 := Lib.hid (B1.out.trans (c2.mono B1.out.size))
        clear c2
        go_wp2_with fail
        refine (HW.out v2 D R2.out B2.out.size).mono ?_
        rintro e v3 ⟨rfl, r3, c3⟩
        have R3 := Lib.hid r3
        have B3 := Lib.hid (B2.out.trans c3)
        clear r3 c3
        go_wp2_with fail
        refine (HR.out v3 D R3.out B3.out.size).mono ?_
        rintro e v4 ⟨rfl, r4, c4⟩
        have R4 := Lib.hid r4
        have B4 := Lib.hid (B3.out.trans c4)
        clear r4 c4
        go_wp2_with fail
        refine (HSI.out v4 D R4.out B4.out.size).mono ?_
        rintro e v5 ⟨rfl, r5, c5⟩
        have R5 := Lib.hid r5
        have B5 := Lib.hid (B4.out.trans c5)
        clear r5 c5
        go_wp2_with fail
        refine (HS0.out v5 D R5.out B5.out.size).mono ?_
        rintro e v6 ⟨rfl, r6, c6⟩
        have R6 := Lib.hid r6
        have B6 := Lib.hid (B5.out.trans c6)
        clear r6 c6
        go_wp2_with fail
        refine (HFL.out _).mono ?_
        rintro e v7 ⟨rfl, c7⟩
        have R7 := Lib.hid (K.keep R6.out c7)
        have B7 := Lib.hid (B6.out.trans (c7.mono B6.out.size))
        clear c7
        go_wp2_with fail
        refine (HSE.out v7 D R7.out B7.out.size).mono ?_
        rintro e v8 ⟨rfl, r8, c8⟩
        have B8 := Lib.hid (B7.out.trans c8)
        clear r8 c8
        go_wp2
        go_ret
        exact ⟨rfl, B8.out⟩
      · have hnin : ¬ inD (newD 5) i := by unfold inD; rw [hl5]; omega
        have hnin1 : ¬ inD d1 i := by unfold inD; rw [hl1]; omega
        have hE0 : E = 131 := by rw [← hE]; unfold wrE; rw [if_pos hnin]
        subst hE0
        have hrd : rdE d1 i = (sl ⟨#[]⟩, 131) := by unfold rdE; rw [ho1, if_neg (by decide), if_neg hnin1]; rfl
        have hsfi : sfD d1 i = sl ⟨#[]⟩ := by unfold sfD; rw [if_neg hnin1]; rfl
        have HR := Lib.hid (fun (wx : World) (D : Nat) (h : K.Rep w.heap.size wx D d1) (hw : w.heap.size ≤ wx.heap.size) => K.read_ h (n1.b (by decide)) hw i hi ⟨#[]⟩ 131 hrd)
        have HSI := Lib.hid (fun (wx : World) (D : Nat) (h : K.Rep w.heap.size wx D d1) (hw : w.heap.size ≤ wx.heap.size) => K.safe h (n1.b (by decide)) hw i hi ⟨#[]⟩ hsfi)
        have j1 : decide ((0 : Int) ≤ i) = true := by simp; omega
        have j2 : decide (i < 5) = false := by simp; omega
        clear n0 n1 hE hd1 hsf0 hsf1 hss ho1 hl1 hl5 hZ hZs hZl hF hw0 HD1 hnin hnin1 c1 c2 hrd hsfi q1 q2
        go_enter Try.func6, Try.ntmps6
        go_wp2_with fail
        (with_reducible refine (HSh.out _).mono ?_)
        rintro e v0 ⟨rfl, c0⟩
        have B0 := Lib.hid c0
        clear c0
        go_wp2_with fail
        refine (HN5.out v0 B0.out.size).mono ?_
        rintro e v1 ⟨D, rfl, r1, c1⟩
        have R1 := Lib.hid r1
        have B1 := Lib.hid (B0.out.trans (c1.mono B0.out.size))
        clear r1 c1
        unfold ptD
        go_wp2_with fail
        refine (HNn.out v1).mono ?_
        rintro e v2 ⟨rfl, c2⟩
        have R2 := Lib.hid (K.keep R1.out c2)
        have B2 := Lib.hid (B1.out.trans (c2.mono B1.out.size))
        clear c2
        go_wp2_with fail
        refine (HW.out v2 D R2.out B2.out.size).mono ?_
        rintro e v3 ⟨rfl, r3, c3⟩
        have R3 := Lib.hid r3
        have B3 := Lib.hid (B2.out.trans c3)
        clear r3 c3
        go_wp2_with fail
        refine (HR.out v3 D R3.out B3.out.size).mono ?_
        rintro e v4 ⟨rfl, r4, c4⟩
        have R4 := Lib.hid r4
        have B4 := Lib.hid (B3.out.trans c4)
        clear r4 c4
        go_wp2_with fail
        refine (HSI.out v4 D R4.out B4.out.size).mono ?_
        rintro e v5 ⟨rfl, r5, c5⟩
        have R5 := Lib.hid r5
        have B5 := Lib.hid (B4.out.trans c5)
        clear r5 c5
        go_wp2_with fail
        refine (HS0.out v5 D R5.out B5.out.size).mono ?_
        rintro e v6 ⟨rfl, r6, c6⟩
        have R6 := Lib.hid r6
        have B6 := Lib.hid (B5.out.trans c6)
        clear r6 c6
        go_wp2_with fail
        refine (HFL.out _).mono ?_
        rintro e v7 ⟨rfl, c7⟩
        have R7 := Lib.hid (K.keep R6.out c7)
        have B7 := Lib.hid (B6.out.trans (c7.mono B6.out.size))
        clear c7
        go_wp2_with fail
        refine (HSE.out v7 D R7.out B7.out.size).mono ?_
        rintro e v8 ⟨rfl, r8, c8⟩
        have B8 := Lib.hid (B7.out.trans c8)
        clear r8 c8
        go_wp2
        go_ret
        exact ⟨rfl, B8.out⟩
  obtain ⟨m, rfl⟩ : ∃ m : Nat, n = (m : Int) := ⟨n.toNat, by omega⟩
  have HNn := Lib.hid (fun (wx : World) (h : w.heap.size ≤ wx.heap.size) => K.new_yes m wx w.heap.size (by omega) (by omega) h)
  have m1 : decide ((1 : Int) ≤ (m : Int)) = true := by simp; omega
  have m2 : decide ((m : Int) ≤ 4096) = true := by simp; omega
  by_cases c1 : 0 ≤ i ∧ i < 5
  · by_cases hs32 : s.size = 32
    · obtain ⟨k, rfl⟩ : ∃ k : Nat, i = (k : Int) := ⟨i.toNat, by omega⟩
      have hk5 : k < 5 := by omega
      have hin : inD (newD 5) (k : Int) := by unfold inD; rw [hl5]; omega
      have hE0 : E = 0 := by rw [← hE]; unfold wrE; rw [if_neg (by simpa using hin), if_neg (by simpa using hs32)]; rfl
      subst hE0
      have hrd : rdE d1 (k : Int) = (sl s, 0) := by
        rw [rd_on (by rw [hl1]; exact hk5) ho1, ← hd1, (wr_on (d := newD 5) (i := k) (s := sl s) (by rw [hl5]; exact hk5) (by rw [sl_len]; exact hs32) rfl).2, read_same]
      have hsfi := hsf1 k hk5
      have HR := Lib.hid (fun (wx : World) (D : Nat) (h : K.Rep w.heap.size wx D d1) (hw : w.heap.size ≤ wx.heap.size) => K.read_ h (n1.b (by decide)) hw (k : Int) hi s 0 hrd)
      have HSI := Lib.hid (fun (wx : World) (D : Nat) (h : K.Rep w.heap.size wx D d1) (hw : w.heap.size ≤ wx.heap.size) => K.safe h (n1.b (by decide)) hw (k : Int) hi Z hsfi)
      have j1 : decide ((0 : Int) ≤ (k : Int)) = true := by simp
      have j2 : decide ((k : Int) < 5) = true := by simp; omega
      have j3 : ((s.size : Int) != 32) = false := by simp; omega
      clear n0 n1 hE hd1 hsf0 hsf1 hss ho1 hl1 hl5 hZ hZs hZl hF hw0 HD1 hin c1 hs32 hk5 hrd hsfi q1 q2
      go_enter Try.func6, Try.ntmps6
      go_wp2_with fail
      (with_reducible refine (HSh.out _).mono ?_)
      rintro e v0 ⟨rfl, c0⟩
      have B0 := Lib.hid c0
      clear c0
      go_wp2_with fail
      refine (HN5.out v0 B0.out.size).mono ?_
      rintro e v1 ⟨D, rfl, r1, c1⟩
      have R1 := Lib.hid r1
      have B1 := Lib.hid (B0.out.trans (c1.mono B0.out.size))
      clear r1 c1
      unfold ptD
      go_wp2_with fail
      refine (HNn.out v1 B1.out.size).mono ?_
      rintro e v2 ⟨D2, rfl, _, c2⟩
      have R2 := Lib.hid (K.keep R1.out c2)
      have B2 := Lib.hid (B1.out.trans (c2.mono B1.out.size))
      clear c2
      unfold ptD
      go_wp2_with fail
      refine (HW.out v2 D R2.out B2.out.size).mono ?_
      rintro e v3 ⟨rfl, r3, c3⟩
      have R3 := Lib.hid r3
      have B3 := Lib.hid (B2.out.trans c3)
      clear r3 c3
      go_wp2_with fail
      refine (HR.out v3 D R3.out B3.out.size).mono ?_
      rintro e v4 ⟨rfl, r4, c4⟩
      have R4 := Lib.hid r4
      have B4 := Lib.hid (B3.out.trans c4)
      clear r4 c4
      go_wp2_with fail
      refine (HSI.out v4 D R4.out B4.out.size).mono ?_
      rintro e v5 ⟨rfl, r5, c5⟩
      have R5 := Lib.hid r5
      have B5 := Lib.hid (B4.out.trans c5)
      clear r5 c5
      go_wp2_with fail
      refine (HS0.out v5 D R5.out B5.out.size).mono ?_
      rintro e v6 ⟨rfl, r6, c6⟩
      have R6 := Lib.hid r6
      have B6 := Lib.hid (B5.out.trans c6)
      clear r6 c6
      go_wp2_with fail
      refine (HFL.out _).mono ?_
      rintro e v7 ⟨rfl, c7⟩
      have R7 := Lib.hid (K.keep R6.out c7)
      have B7 := Lib.hid (B6.out.trans (c7.mono B6.out.size))
      clear c7
      go_wp2_with fail
      refine (HSE.out v7 D R7.out B7.out.size).mono ?_
      rintro e v8 ⟨rfl, r8, c8⟩
      have B8 := Lib.hid (B7.out.trans c8)
      clear r8 c8
      go_wp2
      go_ret
      exact ⟨rfl, B8.out⟩
    · obtain ⟨k, rfl⟩ : ∃ k : Nat, i = (k : Int) := ⟨i.toNat, by omega⟩
      have hk5 : k < 5 := by omega
      have hin : inD (newD 5) (k : Int) := by unfold inD; rw [hl5]; omega
      have hE0 : E = 1 := by rw [← hE]; unfold wrE; rw [if_neg (by simpa using hin), if_pos hs32]
      subst hE0
      have hdd : d1 = newD 5 := by rw [← hd1]; unfold wrD; rw [sl_len, hE]; rfl
      have hrd : rdE d1 (k : Int) = (sl Z, 0) := by
        rw [rd_on (by rw [hl1]; exact hk5) ho1, hdd, read_new hk5, hZl]
      have hsfi := hsf1 k hk5
      have HR := Lib.hid (fun (wx : World) (D : Nat) (h : K.Rep w.heap.size wx D d1) (hw : w.heap.size ≤ wx.heap.size) => K.read_ h (n1.b (by decide)) hw (k : Int) hi Z 0 hrd)
      have HSI := Lib.hid (fun (wx : World) (D : Nat) (h : K.Rep w.heap.size wx D d1) (hw : w.heap.size ≤ wx.heap.size) => K.safe h (n1.b (by decide)) hw (k : Int) hi Z hsfi)
      have j1 : decide ((0 : Int) ≤ (k : Int)) = true := by simp
      have j2 : decide ((k : Int) < 5) = true := by simp; omega
      have j3 : ((s.size : Int) != 32) = true := by simp; omega
      clear n0 n1 hE hd1 hsf0 hsf1 hss ho1 hl1 hl5 hZ hZs hZl hF hw0 HD1 hin c1 hs32 hk5 hrd hsfi hdd q1 q2
      go_enter Try.func6, Try.ntmps6
      go_wp2_with fail
      (with_reducible refine (HSh.out _).mono ?_)
      rintro e v0 ⟨rfl, c0⟩
      have B0 := Lib.hid c0
      clear c0
      go_wp2_with fail
      refine (HN5.out v0 B0.out.size).mono ?_
      rintro e v1 ⟨D, rfl, r1, c1⟩
      have R1 := Lib.hid r1
      have B1 := Lib.hid (B0.out.trans (c1.mono B0.out.size))
      clear r1 c1
      unfold ptD
      go_wp2_with fail
      refine (HNn.out v1 B1.out.size).mono ?_
      rintro e v2 ⟨D2, rfl, _, c2⟩
      have R2 := Lib.hid (K.keep R1.out c2)
      have B2 := Lib.hid (B1.out.trans (c2.mono B1.out.size))
      clear c2
      unfold ptD
      go_wp2_with fail
      refine (HW.out v2 D R2.out B2.out.size).mono ?_
      rintro e v3 ⟨rfl, r3, c3⟩
      have R3 := Lib.hid r3
      have B3 := Lib.hid (B2.out.trans c3)
      clear r3 c3
      go_wp2_with fail
      refine (HR.out v3 D R3.out B3.out.size).mono ?_
      rintro e v4 ⟨rfl, r4, c4⟩
      have R4 := Lib.hid r4
      have B4 := Lib.hid (B3.out.trans c4)
      clear r4 c4
      go_wp2_with fail
      refine (HSI.out v4 D R4.out B4.out.size).mono ?_
      rintro e v5 ⟨rfl, r5, c5⟩
      have R5 := Lib.hid r5
      have B5 := Lib.hid (B4.out.trans c5)
      clear r5 c5
      go_wp2_with fail
      refine (HS0.out v5 D R5.out B5.out.size).mono ?_
      rintro e v6 ⟨rfl, r6, c6⟩
      have R6 := Lib.hid r6
      have B6 := Lib.hid (B5.out.trans c6)
      clear r6 c6
      go_wp2_with fail
      refine (HFL.out _).mono ?_
      rintro e v7 ⟨rfl, c7⟩
      have R7 := Lib.hid (K.keep R6.out c7)
      have B7 := Lib.hid (B6.out.trans (c7.mono B6.out.size))
      clear c7
      go_wp2_with fail
      refine (HSE.out v7 D R7.out B7.out.size).mono ?_
      rintro e v8 ⟨rfl, r8, c8⟩
      have B8 := Lib.hid (B7.out.trans c8)
      clear r8 c8
      go_wp2
      go_ret
      exact ⟨rfl, B8.out⟩
  · by_cases c2 : i < 0
    · have hnin : ¬ inD (newD 5) i := by unfold inD; rw [hl5]; omega
      have hnin1 : ¬ inD d1 i := by unfold inD; rw [hl1]; omega
      have hE0 : E = 131 := by rw [← hE]; unfold wrE; rw [if_pos hnin]
      subst hE0
      have hrd : rdE d1 i = (sl ⟨#[]⟩, 131) := by unfold rdE; rw [ho1, if_neg (by decide), if_neg hnin1]; rfl
      have hsfi : sfD d1 i = sl ⟨#[]⟩ := by unfold sfD; rw [if_neg hnin1]; rfl
      have HR := Lib.hid (fun (wx : World) (D : Nat) (h : K.Rep w.heap.size wx D d1) (hw : w.heap.size ≤ wx.heap.size) => K.read_ h (n1.b (by decide)) hw i hi ⟨#[]⟩ 131 hrd)
      have HSI := Lib.hid (fun (wx : World) (D : Nat) (h : K.Rep w.heap.size wx D d1) (hw : w.heap.size ≤ wx.heap.size) => K.safe h (n1.b (by decide)) hw i hi ⟨#[]⟩ hsfi)
      have j1 : decide ((0 : Int) ≤ i) = false := by simp; omega
      clear n0 n1 hE hd1 hsf0 hsf1 hss ho1 hl1 hl5 hZ hZs hZl hF hw0 HD1 hnin hnin1 c1 c2 hrd hsfi q1 q2
      go_enter Try.func6, Try.ntmps6
      go_wp2_with fail
      (with_reducible refine (HSh.out _).mono ?_)
      rintro e v0 ⟨rfl, c0⟩
      have B0 := Lib.hid c0
      clear c0
      go_wp2_with fail
      refine (HN5.out v0 B0.out.size).mono ?_
      rintro e v1 ⟨D, rfl, r1, c1⟩
      have R1 := Lib.hid r1
      have B1 := Lib.hid (B0.out.trans (c1.mono B0.out.size))
      clear r1 c1
      unfold ptD
      go_wp2_with fail
      refine (HNn.out v1 B1.out.size).mono ?_
      rintro e v2 ⟨D2, rfl, _, c2⟩
      have R2 := Lib.hid (K.keep R1.out c2)
      have B2 := Lib.hid (B1.out.trans (c2.mono B1.out.size))
      clear c2
      unfold ptD
      go_wp2_with fail
      refine (HW.out v2 D R2.out B2.out.size).mono ?_
      rintro e v3 ⟨rfl, r3, c3⟩
      have R3 := Lib.hid r3
      have B3 := Lib.hid (B2.out.trans c3)
      clear r3 c3
      go_wp2_with fail
      refine (HR.out v3 D R3.out B3.out.size).mono ?_
      rintro e v4 ⟨rfl, r4, c4⟩
      have R4 := Lib.hid r4
      have B4 := Lib.hid (B3.out.trans c4)
      clear r4 c4
      go_wp2_with fail
      refine (HSI.out v4 D R4.out B4.out.size).mono ?_
      rintro e v5 ⟨rfl, r5, c5⟩
      have R5 := Lib.hid r5
      have B5 := Lib.hid (B4.out.trans c5)
      clear r5 c5
      go_wp2_with fail
      refine (HS0.out v5 D R5.out B5.out.size).mono ?_
      rintro e v6 ⟨rfl, r6, c6⟩
      have R6 := Lib.hid r6
      have B6 := Lib.hid (B5.out.trans c6)
      clear r6 c6
      go_wp2_with fail
      refine (HFL.out _).mono ?_
      rintro e v7 ⟨rfl, c7⟩
      have R7 := Lib.hid (K.keep R6.out c7)
      have B7 := Lib.hid (B6.out.trans (c7.mono B6.out.size))
      clear c7
      go_wp2_with fail
      refine (HSE.out v7 D R7.out B7.out.size).mono ?_
      rintro e v8 ⟨rfl, r8, c8⟩
      have B8 := Lib.hid (B7.out.trans c8)
      clear r8 c8
      go_wp2
      go_ret
      exact ⟨rfl, B8.out⟩
    · have hnin : ¬ inD (newD 5) i := by unfold inD; rw [hl5]; omega
      have hnin1 : ¬ inD d1 i := by unfold inD; rw [hl1]; omega
      have hE0 : E = 131 := by rw [← hE]; unfold wrE; rw [if_pos hnin]
      subst hE0
      have hrd : rdE d1 i = (sl ⟨#[]⟩, 131) := by unfold rdE; rw [ho1, if_neg (by decide), if_neg hnin1]; rfl
      have hsfi : sfD d1 i = sl ⟨#[]⟩ := by unfold sfD; rw [if_neg hnin1]; rfl
      have HR := Lib.hid (fun (wx : World) (D : Nat) (h : K.Rep w.heap.size wx D d1) (hw : w.heap.size ≤ wx.heap.size) => K.read_ h (n1.b (by decide)) hw i hi ⟨#[]⟩ 131 hrd)
      have HSI := Lib.hid (fun (wx : World) (D : Nat) (h : K.Rep w.heap.size wx D d1) (hw : w.heap.size ≤ wx.heap.size) => K.safe h (n1.b (by decide)) hw i hi ⟨#[]⟩ hsfi)
      have j1 : decide ((0 : Int) ≤ i) = true := by simp; omega
      have j2 : decide (i < 5) = false := by simp; omega
      clear n0 n1 hE hd1 hsf0 hsf1 hss ho1 hl1 hl5 hZ hZs hZl hF hw0 HD1 hnin hnin1 c1 c2 hrd hsfi q1 q2
      go_enter Try.func6, Try.ntmps6
      go_wp2_with fail
      (with_reducible refine (HSh.out _).mono ?_)
      rintro e v0 ⟨rfl, c0⟩
      have B0 := Lib.hid c0
      clear c0
      go_wp2_with fail
      refine (HN5.out v0 B0.out.size).mono ?_
      rintro e v1 ⟨D, rfl, r1, c1⟩
      have R1 := Lib.hid r1
      have B1 := Lib.hid (B0.out.trans (c1.mono B0.out.size))
      clear r1 c1
      unfold ptD
      go_wp2_with fail
      refine (HNn.out v1 B1.out.size).mono ?_
      rintro e v2 ⟨D2, rfl, _, c2⟩
      have R2 := Lib.hid (K.keep R1.out c2)
      have B2 := Lib.hid (B1.out.trans (c2.mono B1.out.size))
      clear c2
      unfold ptD
      go_wp2_with fail
      refine (HW.out v2 D R2.out B2.out.size).mono ?_
      rintro e v3 ⟨rfl, r3, c3⟩
      have R3 := Lib.hid r3
      have B3 := Lib.hid (B2.out.trans c3)
      clear r3 c3
      go_wp2_with fail
      refine (HR.out v3 D R3.out B3.out.size).mono ?_
      rintro e v4 ⟨rfl, r4, c4⟩
      have R4 := Lib.hid r4
      have B4 := Lib.hid (B3.out.trans c4)
      clear r4 c4
      go_wp2_with fail
      refine (HSI.out v4 D R4.out B4.out.size).mono ?_
      rintro e v5 ⟨rfl, r5, c5⟩
      have R5 := Lib.hid r5
      have B5 := Lib.hid (B4.out.trans c5)
      clear r5 c5
      go_wp2_with fail
      refine (HS0.out v5 D R5.out B5.out.size).mono ?_
      rintro e v6 ⟨rfl, r6, c6⟩
      have R6 := Lib.hid r6
      have B6 := Lib.hid (B5.out.trans c6)
      clear r6 c6
      go_wp2_with fail
      refine (HFL.out _).mono ?_
      rintro e v7 ⟨rfl, c7⟩
      have R7 := Lib.hid (K.keep R6.out c7)
      have B7 := Lib.hid (B6.out.trans (c7.mono B6.out.size))
      clear c7
      go_wp2_with fail
      refine (HSE.out v7 D R7.out B7.out.size).mono ?_
      rintro e v8 ⟨rfl, r8, c8⟩
      have B8 := Lib.hid (B7.out.trans c8)
      clear r8 c8
      go_wp2
      go_ret
      exact ⟨rfl, B8.out⟩
theorem walk (n i : Int) (s : ByteArray) (hn : (Lit.int .i64 n).wf = true) (hi : (Lit.int .i64 i).wf = true) {Q : Prop} (_ : Q) (w : World) :
    Calls Try.prog 6 #[.int .i64 n, .int .i64 i, .string s] w fun e w' => e = .returned (.bool true) ∧ Below w.heap.size w w' := walkK theKit n i s hn hi w
set_option maxRecDepth 100000 in
theorem lifted (os : Os) (started : os.Started) (H : Type) (enc : TypeId × Value → H) :
    ReturnsInHanded {} Try.checked os 6 .any (Rows.diskArgsSpec.pre6 enc Try.prog Try.f6 Rows.diskArgsRow.domain false) (Rows.diskArgsSpec.post enc Try.prog Try.f6 false true false false) := by
  refine returnsInHanded_of_change (C := Try.checked) own started (by kernel_rfl) Try.func6
    (ChangeSpec.witness6 (enc := enc) (C := Try.checked) false ⟨#[], #[.int .i64 0, .int .i64 0, .string ByteArray.empty], []⟩ 8 (by kernel_rfl) (by kernel_rfl) (by kernel_rfl) (by kernel_rfl)) ?_
  intro W base args ds gs before hval0 hW hcnd _
  have hval : ∀ (j : Nat) t v, Try.f6.params[j]? = some t → args[j]? = some v → Value.okWide Try.prog W .any base t v := hval0
  have hW' := hW
  obtain ⟨p, q, hA0, hV, rfl, hfz, hnd⟩ := hW
  have hA : DataW.TrodAll enc Try.prog W 0 (fun _ => true) true Try.f6.params.toList args.toList ds p := hA0
  rw [Try.params6] at hA hval
  obtain ⟨v0, vs0, d0, ds0, p0, q0, hargs, rfl, rfl, h0, r0⟩ := trodAll_cons hA
  obtain ⟨v1, vs1, d1, ds1, p1, q1, rfl, rfl, rfl, h1, r1⟩ := trodAll_cons r0
  obtain ⟨v2, vs2, d2, ds2, p2, q2, rfl, rfl, rfl, h2, r2⟩ := trodAll_cons r1
  obtain ⟨rfl, rfl, rfl⟩ := trodAll_nil r2
  obtain rfl : args = #[v0, v1, v2] := by cases args; simp_all
  obtain ⟨rfl, rfl⟩ := trodVars_none hV
  obtain ⟨l0, rfl, rfl, rfl, n0⟩ := open_int Try.underlying3 (hval 0 3 v0 rfl rfl) h0
  obtain ⟨l1, rfl, rfl, rfl, n1⟩ := open_int Try.underlying3 (hval 1 3 v1 rfl rfl) h1
  obtain ⟨l2, rfl, rfl, rfl, n2⟩ := open_string Try.underlying9 (hval 2 9 v2 rfl rfl) h2
  clear hA0 hval0
  simp only [List.append_nil] at hW'
  refine (walk l0 l1 l2 n0 n1 n2 W).mono fun e W' ⟨he, bel⟩ => ?_
  subst he
  exact ⟨_, rfl, _, _, _, [], _, [], hW', trodAll_mk1 (shut_bool Try.underlying4 _), (trodAll_cons_mk (shut_int Try.underlying3 n0) (trodAll_cons_mk (shut_int Try.underlying3 n1) (trodAll_cons_mk (shut_string Try.underlying9 n2) trodAll_mk0))), rfl, bel.frame _, fun h => by cases h⟩

theorem over : Rows.diskArgsRow.holds Try.pinned (OpenSpec.ofChange Rows.diskArgsSpec) :=
  OpenClaim.holds_of_wide 6 Try.f6 rfl rfl rfl rfl rfl rfl rfl ⟨rfl, rfl, rfl, rfl, rfl⟩ rfl rfl rfl rfl rfl (by kernel_rfl) Try.func6 (by kernel_rfl)
    (of_decide_eq_true (by kernel_rfl)) (by unfold Func.isWrapper; first | (rw [if_pos (by decide +kernel)]; kernel_rfl) | (rw [if_neg (by decide +kernel)]; exact ⟨rfl, rfl⟩))
    (fun os started H enc _ => lifted os started H enc)

theorem proved : Rows.DiskArgsSaid :=
  over
#print axioms proved
end Go.Proofs.Ytdpdgmfmjgjmiaa.diskArgs
