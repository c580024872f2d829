/-
  For every size of a disk, and all two numbers: slots that are not on the disk have no text, and take none. No condition.
-/
import Derived.Test.YtccplgicfbfjiaaRows
import Derived.Test.YtccplgicfbfjiaaOtKit
import Derived.Test.YtccplgicfbfjiaaOgThe
import Derived.ShutString
import Derived.ChangeOld
namespace Go.Proofs.Ytccplgicfbfjiaa.slotsArgs
open Go.ChangeShapes Go.WideShapes Go.ChangeAt Go.RowKit
open Go.ChangeMaps (open_string shut_string)
set_option linter.unusedVariables false

set_option maxHeartbeats 4000000 in
set_option maxRecDepth 100000 in
theorem walkK (K : SlotKit) (y fr k : Int) (hy : (Lit.int .u8 y).wf = true) (hf : (Lit.int .i64 fr).wf = true) (hk : (Lit.int .i64 k).wf = true) (w : World) :
    Calls Try.prog 6 #[.int .u8 y, .int .i64 fr, .int .i64 k] w fun e w' => e = .returned (.bool true) ∧ Below w.heap.size w w' := by
  have HSh := Lib.hid (fun w => l16_shown K w)
  obtain ⟨nb, rfl, hnb⟩ := nat_u8 y hy
  clear hy
  have e0 : IntKind.i64.wrap (nb : Int) = (nb : Int) := IntWalk.i64_in _ (by omega)
  obtain ⟨N, hN⟩ : ∃ N : Nat, 1 + nb = N := ⟨_, rfl⟩
  have e1 : (1 : Int) + (nb : Int) = (N : Int) := by omega
  have N256 : N ≤ 256 := by omega
  have hlen : (newD N).sec.length = N := by simp [newD]
  have n0 := dkj_new (n := N) (by omega)
  have HN := Lib.hid (fun (wx : World) (h : w.heap.size ≤ wx.heap.size) => K.new_yes N wx w.heap.size (by omega) (by omega) h)
  have HLN := Lib.hid (fun (hn : ¬ mayS (newD N) fr k) (wx : World) (D : Nat) (h : K.Rep w.heap.size wx D (newD N)) (hw : w.heap.size ≤ wx.heap.size) => K.load_no h (n0.more (by omega)) hw fr k hf hk hn)
  have HSN := Lib.hid (fun (hn : ¬ mayS (newD N) fr k) (wx : World) (D : Nat) (h : K.Rep w.heap.size wx D (newD N)) (hw : w.heap.size ≤ wx.heap.size) => K.save_no h (n0.more (by omega)) hw fr k hf hk hn ⟨#[]⟩ (by decide))
  have HMY : Hid (mayS (newD N) fr k ↔ (0 ≤ fr ∧ 1 ≤ k ∧ k ≤ 100 ∧ fr + 2 * k ≤ (N : Int))) := Lib.hid (by unfold mayS; rw [hlen])
  have HN0 := Lib.hid n0
  have HLEN := Lib.hid hlen
  clear hf hk hN n0 hlen
  by_cases c0 : ¬ (0 ≤ fr)
  · have b0 : decide (0 ≤ fr) = false := decide_eq_false c0
    have b0' : decide (fr ≥ 0) = false := decide_eq_false c0
    have hn : ¬ mayS (newD N) fr k := fun h => by have := HMY.out.1 h; omega
    have HL := Lib.hid (HLN.out hn)
    have HS := Lib.hid (HSN.out hn)
    clear hn HLN HSN HMY
    go_enter Try.func6, Try.ntmps6
    go_wp2_with fail
    refine (HN.out w (Nat.le_refl _)).mono ?_
    rintro e w1 ⟨D, rfl, r1, hb1⟩
    have R1 := Lib.hid r1
    have B1 := Lib.hid hb1
    clear r1 hb1
    unfold ptD
    go_wp2_with fail
    (with_reducible refine (HSh.out _).mono ?_)
    rintro e w2 ⟨rfl, hb2⟩
    have R2 := Lib.hid (K.keep R1.out hb2)
    have B2 := Lib.hid (B1.out.trans (hb2.mono B1.out.size))
    clear hb2
    go_wp2_with fail
    refine (HL.out w2 D R2.out B2.out.size).mono ?_
    rintro e w3 ⟨rfl, r3, hb3⟩
    have R3 := Lib.hid r3
    have B3 := Lib.hid (B2.out.trans hb3)
    clear hb3 r3
    go_wp2_with fail
    refine (HS.out w3 D R3.out B3.out.size).mono ?_
    rintro e w4 ⟨rfl, _, hb4⟩
    have B4 := Lib.hid (B3.out.trans hb4)
    clear hb4
    go_wp2
    go_ret
    exact ⟨rfl, B4.out⟩
  replace c0 : 0 ≤ fr := Classical.not_not.1 c0
  have b0 : decide (0 ≤ fr) = true := decide_eq_true c0
  have b0' : decide (fr ≥ 0) = true := decide_eq_true c0
  by_cases c1 : ¬ (fr ≤ 1000)
  · have b1 : decide (fr ≤ 1000) = false := decide_eq_false c1
    have hn : ¬ mayS (newD N) fr k := fun h => by have := HMY.out.1 h; omega
    have HL := Lib.hid (HLN.out hn)
    have HS := Lib.hid (HSN.out hn)
    clear hn HLN HSN HMY
    go_enter Try.func6, Try.ntmps6
    go_wp2_with fail
    refine (HN.out w (Nat.le_refl _)).mono ?_
    rintro e w1 ⟨D, rfl, r1, hb1⟩
    have R1 := Lib.hid r1
    have B1 := Lib.hid hb1
    clear r1 hb1
    unfold ptD
    go_wp2_with fail
    (with_reducible refine (HSh.out _).mono ?_)
    rintro e w2 ⟨rfl, hb2⟩
    have R2 := Lib.hid (K.keep R1.out hb2)
    have B2 := Lib.hid (B1.out.trans (hb2.mono B1.out.size))
    clear hb2
    go_wp2_with fail
    refine (HL.out w2 D R2.out B2.out.size).mono ?_
    rintro e w3 ⟨rfl, r3, hb3⟩
    have R3 := Lib.hid r3
    have B3 := Lib.hid (B2.out.trans hb3)
    clear hb3 r3
    go_wp2_with fail
    refine (HS.out w3 D R3.out B3.out.size).mono ?_
    rintro e w4 ⟨rfl, _, hb4⟩
    have B4 := Lib.hid (B3.out.trans hb4)
    clear hb4
    go_wp2
    go_ret
    exact ⟨rfl, B4.out⟩
  replace c1 : fr ≤ 1000 := Classical.not_not.1 c1
  have b1 : decide (fr ≤ 1000) = true := decide_eq_true c1
  by_cases c2 : ¬ (1 ≤ k)
  · have b2 : decide (1 ≤ k) = false := decide_eq_false c2
    have b2' : decide (k ≥ 1) = false := decide_eq_false c2
    have hn : ¬ mayS (newD N) fr k := fun h => by have := HMY.out.1 h; omega
    have HL := Lib.hid (HLN.out hn)
    have HS := Lib.hid (HSN.out hn)
    clear hn HLN HSN HMY
    go_enter Try.func6, Try.ntmps6
    go_wp2_with fail
    refine (HN.out w (Nat.le_refl _)).mono ?_
    rintro e w1 ⟨D, rfl, r1, hb1⟩
    have R1 := Lib.hid r1
    have B1 := Lib.hid hb1
    clear r1 hb1
    unfold ptD
    go_wp2_with fail
    (with_reducible refine (HSh.out _).mono ?_)
    rintro e w2 ⟨rfl, hb2⟩
    have R2 := Lib.hid (K.keep R1.out hb2)
    have B2 := Lib.hid (B1.out.trans (hb2.mono B1.out.size))
    clear hb2
    go_wp2_with fail
    refine (HL.out w2 D R2.out B2.out.size).mono ?_
    rintro e w3 ⟨rfl, r3, hb3⟩
    have R3 := Lib.hid r3
    have B3 := Lib.hid (B2.out.trans hb3)
    clear hb3 r3
    go_wp2_with fail
    refine (HS.out w3 D R3.out B3.out.size).mono ?_
    rintro e w4 ⟨rfl, _, hb4⟩
    have B4 := Lib.hid (B3.out.trans hb4)
    clear hb4
    go_wp2
    go_ret
    exact ⟨rfl, B4.out⟩
  replace c2 : 1 ≤ k := Classical.not_not.1 c2
  have b2 : decide (1 ≤ k) = true := decide_eq_true c2
  have b2' : decide (k ≥ 1) = true := decide_eq_true c2
  by_cases c3 : ¬ (k ≤ 100)
  · have b3 : decide (k ≤ 100) = false := decide_eq_false c3
    have hn : ¬ mayS (newD N) fr k := fun h => by have := HMY.out.1 h; omega
    have HL := Lib.hid (HLN.out hn)
    have HS := Lib.hid (HSN.out hn)
    clear hn HLN HSN HMY
    go_enter Try.func6, Try.ntmps6
    go_wp2_with fail
    refine (HN.out w (Nat.le_refl _)).mono ?_
    rintro e w1 ⟨D, rfl, r1, hb1⟩
    have R1 := Lib.hid r1
    have B1 := Lib.hid hb1
    clear r1 hb1
    unfold ptD
    go_wp2_with fail
    (with_reducible refine (HSh.out _).mono ?_)
    rintro e w2 ⟨rfl, hb2⟩
    have R2 := Lib.hid (K.keep R1.out hb2)
    have B2 := Lib.hid (B1.out.trans (hb2.mono B1.out.size))
    clear hb2
    go_wp2_with fail
    refine (HL.out w2 D R2.out B2.out.size).mono ?_
    rintro e w3 ⟨rfl, r3, hb3⟩
    have R3 := Lib.hid r3
    have B3 := Lib.hid (B2.out.trans hb3)
    clear hb3 r3
    go_wp2_with fail
    refine (HS.out w3 D R3.out B3.out.size).mono ?_
    rintro e w4 ⟨rfl, _, hb4⟩
    have B4 := Lib.hid (B3.out.trans hb4)
    clear hb4
    go_wp2
    go_ret
    exact ⟨rfl, B4.out⟩
  replace c3 : k ≤ 100 := Classical.not_not.1 c3
  have b3 : decide (k ≤ 100) = true := decide_eq_true c3
  by_cases c4 : ¬ (fr + 2 * k ≤ (N : Int))
  · have b4 : decide (fr + 2 * k ≤ (N : Int)) = false := decide_eq_false c4
    have hn : ¬ mayS (newD N) fr k := fun h => by have := HMY.out.1 h; omega
    have HL := Lib.hid (HLN.out hn)
    have HS := Lib.hid (HSN.out hn)
    clear hn HLN HSN HMY
    go_enter Try.func6, Try.ntmps6
    go_wp2_with fail
    refine (HN.out w (Nat.le_refl _)).mono ?_
    rintro e w1 ⟨D, rfl, r1, hb1⟩
    have R1 := Lib.hid r1
    have B1 := Lib.hid hb1
    clear r1 hb1
    unfold ptD
    go_wp2_with fail
    (with_reducible refine (HSh.out _).mono ?_)
    rintro e w2 ⟨rfl, hb2⟩
    have R2 := Lib.hid (K.keep R1.out hb2)
    have B2 := Lib.hid (B1.out.trans (hb2.mono B1.out.size))
    clear hb2
    go_wp2_with fail
    refine (HL.out w2 D R2.out B2.out.size).mono ?_
    rintro e w3 ⟨rfl, r3, hb3⟩
    have R3 := Lib.hid r3
    have B3 := Lib.hid (B2.out.trans hb3)
    clear hb3 r3
    go_wp2_with fail
    refine (HS.out w3 D R3.out B3.out.size).mono ?_
    rintro e w4 ⟨rfl, _, hb4⟩
    have B4 := Lib.hid (B3.out.trans hb4)
    clear hb4
    go_wp2
    go_ret
    exact ⟨rfl, B4.out⟩
  replace c4 : fr + 2 * k ≤ (N : Int) := Classical.not_not.1 c4
  have b4 : decide (fr + 2 * k ≤ (N : Int)) = true := decide_eq_true c4
  obtain ⟨f0, rfl⟩ : ∃ f0 : Nat, fr = (f0 : Int) := ⟨fr.toNat, by omega⟩
  obtain ⟨k0, rfl⟩ : ∃ k0 : Nat, k = (k0 : Int) := ⟨k.toNat, by omega⟩
  have hm : mayS (newD N) (f0 : Int) (k0 : Int) := HMY.out.2 ⟨c0, c2, c3, c4⟩
  have i0 := sl_new (m := N) (fr := f0) (k := k0) (by omega)
  have HL := Lib.hid (fun (wx : World) (D : Nat) (h : K.Rep w.heap.size wx D (newD N)) (hw : w.heap.size ≤ wx.heap.size) => K.load_none h (HN0.out.more (by omega)) hw f0 k0 hm i0.load)
  have HS0 := Lib.hid (fun (wx : World) (D : Nat) (h : K.Rep w.heap.size wx D (newD N)) (hw : w.heap.size ≤ wx.heap.size) => (K.save h (HN0.out.more (by omega)) hw f0 k0 hm (by rw [i0.next]; decide) ⟨#[]⟩ (by decide) 0 _ (by unfold svE; exact if_pos (Nat.zero_le _)) rfl).mono fun _ _ ⟨q1, _, q2⟩ => (⟨q1, q2⟩ : _ ∧ _))
  clear hm i0 HLN HSN HMY
  go_enter Try.func6, Try.ntmps6
  go_wp2_with fail
  refine (HN.out w (Nat.le_refl _)).mono ?_
  rintro e w1 ⟨D, rfl, r1, hb1⟩
  have R1 := Lib.hid r1
  have B1 := Lib.hid hb1
  clear r1 hb1
  unfold ptD
  go_wp2_with fail
  (with_reducible refine (HSh.out _).mono ?_)
  rintro e w2 ⟨rfl, hb2⟩
  have R2 := Lib.hid (K.keep R1.out hb2)
  have B2 := Lib.hid (B1.out.trans (hb2.mono B1.out.size))
  clear hb2
  go_wp2_with fail
  refine (HL.out w2 D R2.out B2.out.size).mono ?_
  rintro e w3 ⟨rfl, r3, hb3⟩
  have R3 := Lib.hid r3
  have B3 := Lib.hid (B2.out.trans hb3)
  clear hb3 r3
  go_wp2_with fail
  refine (HS0.out w3 D R3.out B3.out.size).mono ?_
  rintro e w4 ⟨rfl, hb4⟩
  have B4 := Lib.hid (B3.out.trans hb4)
  clear hb4
  go_wp2
  go_ret
  exact ⟨rfl, B4.out⟩
theorem walk (y fr k : Int) (h0 : (Lit.int .u8 y).wf = true) (h1 : (Lit.int .i64 fr).wf = true) (h2 : (Lit.int .i64 k).wf = true) (w : World) :
    Calls Try.prog 6 #[.int .u8 y, .int .i64 fr, .int .i64 k] w fun e w' => e = .returned (.bool true) ∧ Below w.heap.size w w' := walkK theSlots.old y fr k h0 h1 h2 w
set_option maxRecDepth 100000 in
theorem lifted (os : Os) (started : os.Started) (H : Type) (enc : TypeId × Value → H) :
    ReturnsInHanded {} Try.checked os 6 .any (Rows.slotsArgsSpec.pre6 enc Try.prog Try.f6 Rows.slotsArgsRow.domain false) (Rows.slotsArgsSpec.post enc Try.prog Try.f6 false true false false) := by
  refine returnsInHanded_of_change (C := Try.checked) own started (by kernel_rfl) Try.func6
    (ChangeSpec.witness6 (enc := enc) (C := Try.checked) false ⟨#[], #[.int .u8 0, .int .i64 0, .int .i64 0], []⟩ 8 (by kernel_rfl) (by kernel_rfl) (by kernel_rfl) (by kernel_rfl)) ?_
  intro W base args ds gs before hval0 hW hcnd _
  have hval : ∀ (j : Nat) t v, Try.f6.params[j]? = some t → args[j]? = some v → Value.okWide Try.prog W .any base t v := hval0
  have hW' := hW
  obtain ⟨p, q, hA0, hV, rfl, hfz, hnd⟩ := hW
  have hA : DataW.TrodAll enc Try.prog W 0 (fun _ => true) true Try.f6.params.toList args.toList ds p := hA0
  rw [Try.params6] at hA hval
  obtain ⟨v0, vs0, d0, ds0, p0, q0, hargs, rfl, rfl, h0, r0⟩ := trodAll_cons hA
  obtain ⟨v1, vs1, d1, ds1, p1, q1, rfl, rfl, rfl, h1, r1⟩ := trodAll_cons r0
  obtain ⟨v2, vs2, d2, ds2, p2, q2, rfl, rfl, rfl, h2, r2⟩ := trodAll_cons r1
  obtain ⟨rfl, rfl, rfl⟩ := trodAll_nil r2
  obtain rfl : args = #[v0, v1, v2] := by cases args; simp_all
  obtain ⟨rfl, rfl⟩ := trodVars_none hV
  obtain ⟨l0, rfl, rfl, rfl, n0⟩ := open_int Try.underlying5 (hval 0 5 v0 rfl rfl) h0
  obtain ⟨l1, rfl, rfl, rfl, n1⟩ := open_int Try.underlying3 (hval 1 3 v1 rfl rfl) h1
  obtain ⟨l2, rfl, rfl, rfl, n2⟩ := open_int Try.underlying3 (hval 2 3 v2 rfl rfl) h2
  clear hA0 hval0
  simp only [List.append_nil] at hW'
  refine (walk l0 l1 l2 n0 n1 n2 W).mono fun e W' ⟨he, bel⟩ => ?_
  subst he
  exact ⟨_, rfl, _, _, _, [], _, [], hW', trodAll_mk1 (shut_bool Try.underlying4 _), (trodAll_cons_mk (shut_int Try.underlying5 n0) (trodAll_cons_mk (shut_int Try.underlying3 n1) (trodAll_cons_mk (shut_int Try.underlying3 n2) trodAll_mk0))), rfl, bel.frame _, fun h => by cases h⟩

theorem over : Rows.slotsArgsRow.holds Try.pinned (OpenSpec.ofChange Rows.slotsArgsSpec) :=
  OpenClaim.holds_of_wide 6 Try.f6 rfl rfl rfl rfl rfl rfl rfl ⟨rfl, rfl, rfl, rfl, rfl⟩ rfl rfl rfl rfl rfl (by kernel_rfl) Try.func6 (by kernel_rfl)
    (of_decide_eq_true (by kernel_rfl)) (by unfold Func.isWrapper; first | (rw [if_pos (by decide +kernel)]; kernel_rfl) | (rw [if_neg (by decide +kernel)]; exact ⟨rfl, rfl⟩))
    (fun os started H enc _ => lifted os started H enc)

theorem proved : Rows.SlotsArgsSaid :=
  over
#print axioms proved
end Go.Proofs.Ytccplgicfbfjiaa.slotsArgs
