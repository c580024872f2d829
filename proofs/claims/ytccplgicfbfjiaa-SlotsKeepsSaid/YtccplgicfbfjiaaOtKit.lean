/- What the laws of stage 16 ask of the program's disk and slots, as one record; 'full'; and the case shown. -/
import Derived.Test.YtccplgicfbfjiaaZBln
import Derived.Test.YtccplgicfbfjiaaOgNum
import Derived.Test.YtccplgicfbfjiaaJ1
namespace Go.Proofs.Ytccplgicfbfjiaa
open Go.RowKit
set_option linter.unusedVariables false

structure SlotKit where
  Rep : Nat → World → Nat → DiskM → Prop
  keep : ∀ {base : Nat} {w w' : World} {D : Nat} {d : DiskM}, Rep base w D d → Below w.heap.size w w' → Rep base w' D d
  new_yes : ∀ (n : Nat) (w : World) (base : Nat), 1 ≤ n → n ≤ 4096 → base ≤ w.heap.size → Calls Try.prog 8 #[.int .i64 (n : Int)] w fun e w' => ∃ D, e = .returned (ptD D) ∧ Rep base w' D (newD n) ∧ Below w.heap.size w w'
  load_no : ∀ {base : Nat} {w : World} {D : Nat} {d : DiskM} (h : Rep base w D d) (hb : DkJ d 50000) (hw : base ≤ w.heap.size) (fr k : Int) (hf : (Lit.int .i64 fr).wf = true) (hk : (Lit.int .i64 k).wf = true) (hn : ¬ mayS d fr k),
    Calls Try.prog 11 #[ptD D, .int .i64 fr, .int .i64 k] w fun x w' => x = .returned (.tuple #[.string ⟨#[]⟩, .int .u64 0, .int .i64 1]) ∧ Rep base w' D d ∧ Below base w w'
  load_none : ∀ {base : Nat} {w : World} {D : Nat} {d : DiskM} (h : Rep base w D d) (hb : DkJ d 50000) (hw : base ≤ w.heap.size) (fr k : Nat) (hm : mayS d fr k) (hl : slLoad d fr k = none),
    Calls Try.prog 11 #[ptD D, .int .i64 (fr : Int), .int .i64 (k : Int)] w fun x w' => x = .returned (.tuple #[.string ⟨#[]⟩, .int .u64 0, .int .i64 160]) ∧ Rep base w' D d ∧ Below base w w'
  load_some : ∀ {base : Nat} {w : World} {D : Nat} {d : DiskM} (h : Rep base w D d) (hb : DkJ d 50000) (hw : base ≤ w.heap.size) (fr k : Nat) (hm : mayS d fr k) (n : Nat) (s : ByteArray) (hl : slLoad d fr k = some (n, sl s)),
    Calls Try.prog 11 #[ptD D, .int .i64 (fr : Int), .int .i64 (k : Int)] w fun x w' => x = .returned (.tuple #[.string s, .int .u64 (n : Int), .int .i64 0]) ∧ Rep base w' D d ∧ Below base w w'
  save_no : ∀ {base : Nat} {w : World} {D : Nat} {d : DiskM} (h : Rep base w D d) (hb : DkJ d 50000) (hw : base ≤ w.heap.size) (fr k : Int) (hf : (Lit.int .i64 fr).wf = true) (hk : (Lit.int .i64 k).wf = true) (hn : ¬ mayS d fr k) (s : ByteArray) (hs : s.size ≤ 4096),
    Calls Try.prog 9 #[ptD D, .int .i64 fr, .int .i64 k, .string s] w fun x w' => x = .returned (.int .i64 1) ∧ Rep base w' D d ∧ Below base w w'
  save : ∀ {base : Nat} {w : World} {D : Nat} {d : DiskM} (h : Rep base w D d) (hb : DkJ d 50000) (hw : base ≤ w.heap.size) (fr k : Nat) (hm : mayS d fr k) (hx : slNext d fr k < 2 ^ 64) (s : ByteArray) (hs : s.size ≤ 4096) (e : Nat) (d' : DiskM) (he : svE k s.size = e) (hd : svD d fr k (sl s) = d'),
    Calls Try.prog 9 #[ptD D, .int .i64 (fr : Int), .int .i64 (k : Int), .string s] w fun x w' => x = .returned (.int .i64 (e : Int)) ∧ Rep base w' D d' ∧ Below base w w'
  size : ∀ (k : Nat) (w : World) (h1 : 1 ≤ k) (h2 : k ≤ 100) (n : Nat) (hn : slSize k = n), Calls Try.prog 14 #[.int .i64 (k : Int)] w fun x w' => x = .returned (.int .i64 (n : Int)) ∧ Below w.heap.size w w'
  crash : ∀ {base : Nat} {w : World} {D : Nat} {d : DiskM} (h : Rep base w D d) (hb : DkJ d 50000) (hw : base ≤ w.heap.size) (keep : List Nat) (p : Option Addr) (c : Nat) (hk : keep.length ≤ 1000) (hy : Bys keep) (hS : Sl w 1 (.slice p keep.length c) (rowsU .u8 keep)) (hka : 0 < keep.length → ∀ a, p = some a → a.block < base) (d' : DiskM) (hd : crashD d keep = d'),
    Calls Try.prog 10 #[ptD D, .slice p keep.length c] w fun x w' => x = .returned (.tuple #[]) ∧ Rep base w' D d' ∧ Below base w w'
/-! ### the case shown -/
set_option maxRecDepth 100000 in
set_option maxHeartbeats 1000000 in
theorem l16_shown (K : SlotKit) (w : World) :
    Calls Try.prog 7 #[] w fun e w' => e = .returned (.bool true) ∧ Below w.heap.size w w' := by
  have i0 := sl_new (m := 8) (fr := 0) (k := 4) (by decide)
  have n0 := dkj_new (n := 8) (by decide)
  have hb : Bys [97, 98, 99] := Bys.of (by decide)
  have i1 := sl_save i0 (by decide) (by decide) hb (by decide)
  have n1 := dkj_save n0 (fr := 0) (k := 4) (by decide) (by simp [newD]) hb
  have l1 := sv_len (newD 8) 0 4 [97, 98, 99]
  have m0 : mayS (newD 8) ((0 : Nat) : Int) ((4 : Nat) : Int) := ⟨by decide, by decide, by decide, by simp [newD]⟩
  have HN := Lib.hid (K.new_yes 8 w w.heap.size (by decide) (by decide) (Nat.le_refl _))
  have HL := Lib.hid (fun (wx : World) (D : Nat) (h : K.Rep w.heap.size wx D (newD 8)) (hw : w.heap.size ≤ wx.heap.size) => K.load_none h (n0.more (by decide)) hw 0 4 m0 i0.load)
  have HZ := Lib.hid (fun (wx : World) (D : Nat) (h : K.Rep w.heap.size wx D (newD 8)) (hw : w.heap.size ≤ wx.heap.size) => K.save h (n0.more (by decide)) hw 0 4 m0 (by rw [i0.next]; decide) ⟨#[97, 98, 99]⟩ (by decide) 0 (svD (newD 8) 0 4 [97, 98, 99]) rfl rfl)
  obtain ⟨d1, hd1⟩ : ∃ d1, svD (newD 8) 0 4 [97, 98, 99] = d1 := ⟨_, rfl⟩
  rw [hd1] at HZ i1 n1 l1
  have m1 : mayS d1 ((0 : Nat) : Int) ((4 : Nat) : Int) := ⟨by decide, by decide, by decide, by rw [l1]; simp [newD]⟩
  have HM := Lib.hid (fun (wx : World) (D : Nat) (h : K.Rep w.heap.size wx D d1) (hw : w.heap.size ≤ wx.heap.size) => K.load_some h (n1.more (by decide)) hw 0 4 m1 1 ⟨#[97, 98, 99]⟩ i1.load)
  have HSZ := Lib.hid (fun wx => K.size 4 wx (by decide) (by decide) 114 (by decide))
  clear i0 n0 hb i1 n1 l1 m0 hd1 m1
  go_enter Try.func7, Try.ntmps7
  go_wp2_with fail
  refine HN.out.mono ?_
  rintro e w1 ⟨D, rfl, r1, hb1⟩
  have R1 := Lib.hid r1
  have B1 := Lib.hid hb1
  clear r1 hb1
  unfold ptD
  go_wp2_with fail
  refine (HL.out w1 D R1.out B1.out.size).mono ?_
  rintro e w2 ⟨rfl, r2, hb2⟩
  have R2 := Lib.hid r2
  have B2 := Lib.hid (B1.out.trans hb2)
  clear hb2 r2
  go_wp2_with fail
  refine (HZ.out w2 D R2.out B2.out.size).mono ?_
  rintro e w3 ⟨rfl, r3, hb3⟩
  have R3 := Lib.hid r3
  have B3 := Lib.hid (B2.out.trans hb3)
  clear r3 hb3
  go_wp2_with fail
  refine (HM.out w3 D R3.out B3.out.size).mono ?_
  rintro e w4 ⟨rfl, _, hb4⟩
  have B4 := Lib.hid (B3.out.trans hb4)
  clear hb4
  go_wp2_with fail
  refine (HSZ.out _).mono ?_
  rintro e w5 ⟨rfl, hb5⟩
  have B5 := Lib.hid (B4.out.trans (hb5.mono B4.out.size))
  clear hb5
  go_wp2
  go_ret
  exact ⟨rfl, B5.out⟩
end Go.Proofs.Ytccplgicfbfjiaa
