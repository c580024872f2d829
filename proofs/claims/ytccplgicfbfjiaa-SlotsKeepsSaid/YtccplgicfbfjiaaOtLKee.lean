/-
  For every list of texts, every list of truths, and every list of bytes: what was saved with OK is loaded, whatever crashes come between; its number is one more each time. No condition.
-/
import Derived.Test.YtccplgicfbfjiaaRows
import Derived.Test.YtccplgicfbfjiaaOtKit
import Derived.Test.YtccplgicfbfjiaaOgThe
import Derived.Test.YtccplgicfbfjiaaYBoo
import Derived.ShutString
import Derived.ChangeOld
namespace Go.Proofs.Ytccplgicfbfjiaa.slotsKeeps
open Go.ChangeShapes Go.WideShapes Go.ChangeAt Go.RowKit
open Go.ChangeMaps (open_string shut_string)
set_option linter.unusedVariables false

structure InvK (j : Nat) (d : DiskM) (W : ByteArray) : Prop where
  dk : DkJ d (36 * j)
  ok : SlOk d 3 10 j (sl W)
  len : d.sec.length = 30
theorem inv_new : InvK 0 (newD 30) ⟨#[]⟩ := ⟨dkj_new (by decide), sl_new (by decide), by simp [newD]⟩
theorem inv_save {j : Nat} {d : DiskM} {W X : ByteArray} (h : InvK j d W) (hj : j ≤ 30) (hl : X.size ≤ 300) : InvK (j + 1) (svD d 3 10 (sl X)) X := by
  have hz := sl_len X
  refine ⟨(dkj_save h.dk (by decide) (by have := h.ok.top; omega) (sl_bys X)).more (by omega), sl_save h.ok (by decide) (by omega) (sl_bys X) (by unfold slSize; omega), by rw [sv_len]; exact h.len⟩
theorem InvK.crash {j : Nat} {d : DiskM} {W : ByteArray} (h : InvK j d W) (keep : List Nat) : InvK j (crashD d keep) W := ⟨dkj_crash h.dk keep, sl_crash h.ok h.dk.pen keep, by rw [crash_len]; exact h.len⟩
theorem InvK.may {j : Nat} {d : DiskM} {W : ByteArray} (h : InvK j d W) : mayS d ((3 : Nat) : Int) ((10 : Nat) : Int) := ⟨by decide, by decide, by decide, by rw [h.len]; decide⟩
theorem InvK.load {j : Nat} {d : DiskM} {W : ByteArray} (h : InvK (j + 1) d W) : slLoad d 3 10 = some (j + 1, sl W) := by
  rw [h.ok.load, if_neg (by omega)]
set_option maxHeartbeats 4000000 in
set_option maxRecDepth 100000 in
theorem walkK (K : SlotKit) (S : List (List Nat)) (C : List Bool) (keep : List Nat) (p0 p1 p2 : Option Addr) (cap0 cap1 cap2 : Nat) (hK : Bys keep) (w : World) (hS0 : Sl w 1 (.slice p0 S.length cap0) (rowsS S)) (hS1 : Sl w 1 (.slice p1 C.length cap1) (rowsO C)) (hS2 : Sl w 1 (.slice p2 keep.length cap2) (rowsU .u8 keep)) :
    Calls Try.prog 3 #[.slice p0 S.length cap0, .slice p1 C.length cap1, .slice p2 keep.length cap2] w fun e w' => e = .returned (.bool true) ∧ Below w.heap.size w w' := by
  have HSh := Lib.hid (fun w => l16_shown K w)
  have HS0 := Lib.hid hS0
  have HS1 := Lib.hid hS1
  by_cases h0 : 30 < S.length ∨ 50 < keep.length
  · by_cases h8 : 30 < S.length
    · have g0 : (30 : Int) < (S.length : Int) := by omega
      have g0' : decide ((30 : Int) < (S.length : Int)) = true := decide_eq_true g0
      clear h0 h8 hS0 hS1 hS2 hK
      go_enter Try.func3, Try.ntmps3
      go_wp2_with (go_at_call 7; (with_reducible refine (HSh.out _).mono ?_); rintro e w1 ⟨rfl, hb1⟩)
      go_ret
      exact ⟨rfl, hb1⟩
    · have g0 : ¬ (30 : Int) < (S.length : Int) := by omega
      have g0' : decide ((30 : Int) < (S.length : Int)) = false := decide_eq_false g0
      have g1 : (50 : Int) < (keep.length : Int) := by omega
      have g1' : decide ((50 : Int) < (keep.length : Int)) = true := decide_eq_true g1
      clear h0 h8 hS0 hS1 hS2 hK
      go_enter Try.func3, Try.ntmps3
      go_wp2_with (go_at_call 7; (with_reducible refine (HSh.out _).mono ?_); rintro e w1 ⟨rfl, hb1⟩)
      go_ret
      exact ⟨rfl, hb1⟩
  have HCR := Lib.hid (fun (wx : World) (D : Nat) (d d' : DiskM) (h : K.Rep w.heap.size wx D d) (hb : DkJ d 50000) (hw : Below w.heap.size w wx) (hd : crashD d keep = d') => K.crash h hb hw.size keep p2 cap2 (by omega) hK (hS2.below hw) (fun hn a e => hS2.lt a e hn) d' hd)
  obtain ⟨na, hna⟩ : ∃ na, S.length = na := ⟨_, rfl⟩
  obtain ⟨nc, hnc⟩ : ∃ nc, C.length = nc := ⟨_, rfl⟩
  obtain ⟨nk, hnk⟩ : ∃ nk, keep.length = nk := ⟨_, rfl⟩
  have HNA := Lib.hid hna
  have HNC := Lib.hid hnc
  rw [hna] at HS0 h0 ⊢
  rw [hnc] at HS1 ⊢
  rw [hnk] at HCR h0 ⊢
  clear hna hnc hnk hS0 hS1 hS2 hK
  have g0 : ¬ (30 : Int) < (na : Int) := by omega
  have g0' : decide ((30 : Int) < (na : Int)) = false := decide_eq_false g0
  have g1 : ¬ (50 : Int) < (nk : Int) := by omega
  have g1' : decide ((50 : Int) < (nk : Int)) = false := decide_eq_false g1
  have A30 : na ≤ 30 := by omega
  have HI0 := Lib.hid inv_new
  have HN := Lib.hid (fun (wx : World) (h : w.heap.size ≤ wx.heap.size) => K.new_yes 30 wx w.heap.size (by decide) (by decide) h)
  clear h0
  go_enter Try.func3, Try.ntmps3
  go_wp2_with fail
  (with_reducible refine (HSh.out _).mono ?_)
  rintro e v1 ⟨rfl, c1⟩
  have B1 := Lib.hid c1
  clear c1
  go_wp2_with fail
  refine (HN.out v1 B1.out.size).mono ?_
  rintro e v2 ⟨D, rfl, r2, c2⟩
  have R2 := Lib.hid r2
  have B2 := Lib.hid (B1.out.trans (c2.mono B1.out.size))
  clear r2 c2 HN
  unfold ptD
  go_wp2_with fail
  go_loopw [8, 9, 10, 11, 12, 13, 14] (fun want n i _ _ _ _ wr => ∃ (j : Nat) (d : DiskM) (W : ByteArray), want = .string W ∧ n = .int .u64 (j : Int) ∧ i = .int .i64 (j : Int) ∧ j ≤ na ∧ InvK j d W ∧ K.Rep w.heap.size wr D d ∧ Below w.heap.size w wr) (fun _ _ i _ _ _ _ _ => na - (intOf i).toNat)
  case atStart => exact ⟨0, newD 30, ⟨#[]⟩, rfl, rfl, rfl, by omega, HI0.out, R2.out, B2.out⟩
  case round =>
    obtain ⟨j, d, W, rfl, rfl, rfl, hj, hi, hr, gb⟩ := hrel
    have HI := Lib.hid hi
    have RJ := Lib.hid hr
    have GB := Lib.hid gb
    clear hi hr gb HI0 R2 B2
    by_cases hlt : j < na
    · have d1 : (j : Int) < (na : Int) := by omega
      obtain ⟨ad, rfl, c1⟩ := SlS.cell (HS0.out.below GB.out) (by rw [HNA.out]; exact hlt)
      have CELL0 := Lib.hid (fun wx (h : Below w.heap.size w wx) => SlS.cell (HS0.out.below h) (j := j) (by rw [HNA.out]; exact hlt))
      obtain ⟨X, hX⟩ : ∃ X, tx (S.getD j []) = X := ⟨_, rfl⟩
      rw [hX] at c1 CELL0
      have CELL : Hid (∀ wx, Below w.heap.size w wx → wx.cell? (ad.add j) = some (.string X)) := Lib.hid fun wx h => by
        obtain ⟨a', e, q0⟩ := CELL0.out wx h
        cases e
        exact q0
      clear hX CELL0
      by_cases xa : 300 < X.size
      · have d2 : (300 : Int) < (X.size : Int) := by omega
        clear xa
        go_wp2_with fail
        (with_reducible refine (HSh.out _).mono ?_)
        rintro e w1 ⟨rfl, hb1⟩
        have B9 := Lib.hid (GB.out.trans (hb1.mono GB.out.size))
        clear hb1
        go_wp2
        go_ret
        exact ⟨rfl, B9.out⟩
      · have d2 : ¬ (300 : Int) < (X.size : Int) := by omega
        have d3 : (X.size : Int) ≤ 306 := by omega
        have d3' : decide ((X.size : Int) ≤ 306) = true := decide_eq_true d3
        have hi' := inv_save HI.out (X := X) (by omega) (by omega)
        have HSV := Lib.hid (K.save RJ.out (HI.out.dk.more (by omega)) GB.out.size 3 10 HI.out.may (by rw [HI.out.ok.next]; omega) X (by omega) 0 _ (by unfold svE slSize; rw [if_pos (by omega)]) rfl)
        generalize svD d 3 10 (sl X) = d' at *
        have IK := Lib.hid hi'
        obtain ⟨q, hq⟩ : ∃ q : Nat, j + 1 = q := ⟨_, rfl⟩
        have eq1 : (j : Int) + 1 = (q : Int) := by omega
        have eq2 : IntKind.u64.wrap (q : Int) = (q : Int) := IntWalk.u64_in _ (by omega)
        have q0 : (0 : Int) < (q : Int) := by omega
        have q0' : decide ((0 : Int) < (q : Int)) = true := decide_eq_true q0
        have HQ := Lib.hid hq
        have t1 := txt_same X
        clear hi' xa hq
        by_cases hcl : j < nc
        · have e1 : (j : Int) < (nc : Int) := by omega
          have e1' : decide ((j : Int) < (nc : Int)) = true := decide_eq_true e1
          obtain ⟨cd, rfl, cc0⟩ := SlO.cell (HS1.out.below GB.out) (by rw [HNC.out]; exact hcl)
          have CELLC0 := Lib.hid (fun wx (h : Below w.heap.size w wx) => SlO.cell (HS1.out.below h) (j := j) (by rw [HNC.out]; exact hcl))
          obtain ⟨bv, hbv⟩ : ∃ bv, C.getD j false = bv := ⟨_, rfl⟩
          rw [hbv] at CELLC0
          have CELLC : Hid (∀ wx, Below w.heap.size w wx → wx.cell? (cd.add j) = some (.bool bv)) := Lib.hid fun wx h => by
            obtain ⟨a', e, q0⟩ := CELLC0.out wx h
            cases e
            exact q0
          clear CELLC0 hbv cc0 hcl
          cases bv with
          | true =>
            go_wp2_with fail
            refine HSV.out.mono ?_
            rintro e v5 ⟨rfl, r5, b5⟩
            have R5 := Lib.hid r5
            have B5 := Lib.hid (GB.out.trans b5)
            clear r5 b5 HSV
            have c5 := CELL.out v5 B5.out
            have cc5 := CELLC.out v5 B5.out
            go_wp2_with fail
            have hcr := HCR.out v5 D d' _ R5.out (IK.out.dk.more (by omega)) B5.out rfl
            refine hcr.mono ?_
            rintro e v6 ⟨rfl, r6, b6⟩
            have IC := Lib.hid (IK.out.crash keep)
            clear hcr
            generalize crashD d' keep = dc at *
            have R6 := Lib.hid r6
            have B6 := Lib.hid (B5.out.trans b6)
            clear r6 b6
            go_wp2_with fail
            have HLD := Lib.hid (K.load_some R6.out (IC.out.dk.more (by omega)) B6.out.size 3 10 IC.out.may q X (by rw [← HQ.out]; exact IC.out.load))
            refine HLD.out.mono ?_
            rintro e v7 ⟨rfl, r7, b7⟩
            have R7 := Lib.hid r7
            have B7 := Lib.hid (B6.out.trans b7)
            clear b7 r7 HLD
            go_wp2
            go_roundw
            case rel => exact ⟨q, dc, X, rfl, rfl, by first | rfl | go_num, (by have := HQ.out; omega), (by rw [← HQ.out]; exact IC.out), R7.out, B7.out⟩
            case measure => (have := HQ.out; simp [intOf]; omega)
          | false =>
            go_wp2_with fail
            refine HSV.out.mono ?_
            rintro e v5 ⟨rfl, r5, b5⟩
            have R5 := Lib.hid r5
            have B5 := Lib.hid (GB.out.trans b5)
            clear r5 b5 HSV
            have c5 := CELL.out v5 B5.out
            have cc5 := CELLC.out v5 B5.out
            go_wp2_with fail
            have HLD := Lib.hid (K.load_some R5.out (IK.out.dk.more (by omega)) B5.out.size 3 10 IK.out.may q X (by rw [← HQ.out]; exact IK.out.load))
            refine HLD.out.mono ?_
            rintro e v7 ⟨rfl, r7, b7⟩
            have R7 := Lib.hid r7
            have B7 := Lib.hid (B5.out.trans b7)
            clear b7 r7 HLD
            go_wp2
            go_roundw
            case rel => exact ⟨q, d', X, rfl, rfl, by first | rfl | go_num, (by have := HQ.out; omega), (by rw [← HQ.out]; exact IK.out), R7.out, B7.out⟩
            case measure => (have := HQ.out; simp [intOf]; omega)
        · have e1 : ¬ (j : Int) < (nc : Int) := by omega
          have e1' : decide ((j : Int) < (nc : Int)) = false := decide_eq_false e1
          clear hcl
          go_wp2_with fail
          refine HSV.out.mono ?_
          rintro e v5 ⟨rfl, r5, b5⟩
          have R5 := Lib.hid r5
          have B5 := Lib.hid (GB.out.trans b5)
          clear r5 b5 HSV
          have c5 := CELL.out v5 B5.out
          go_wp2_with fail
          have HLD := Lib.hid (K.load_some R5.out (IK.out.dk.more (by omega)) B5.out.size 3 10 IK.out.may q X (by rw [← HQ.out]; exact IK.out.load))
          refine HLD.out.mono ?_
          rintro e v7 ⟨rfl, r7, b7⟩
          have R7 := Lib.hid r7
          have B7 := Lib.hid (B5.out.trans b7)
          clear b7 r7 HLD
          go_wp2
          go_roundw
          case rel => exact ⟨q, d', X, rfl, rfl, by first | rfl | go_num, (by have := HQ.out; omega), (by rw [← HQ.out]; exact IK.out), R7.out, B7.out⟩
          case measure => (have := HQ.out; simp [intOf]; omega)
    · obtain rfl : j = na := by omega
      have d1 : ¬ (j : Int) < (j : Int) := by omega
      go_wp2
      go_ret
      exact ⟨rfl, GB.out⟩
theorem walk (S : List (List Nat)) (p0 : Option Addr) (cap0 : Nat) (C : List Bool) (p1 : Option Addr) (cap1 : Nat) (keep : List Nat) (p2 : Option Addr) (cap2 : Nat) {Q0 Q1 : Prop} (h0 : Q0) (h1 : Q1) (h2 : ∀ q ∈ keep, q < 256) (w : World) (hS0 : Sl w 1 (.slice p0 S.length cap0) (rowsS S)) (hS1 : Sl w 1 (.slice p1 C.length cap1) (rowsO C)) (hS2 : Sl w 1 (.slice p2 keep.length cap2) (rowsU .u8 keep)) :
    Calls Try.prog 3 #[.slice p0 S.length cap0, .slice p1 C.length cap1, .slice p2 keep.length cap2] w fun e w' => e = .returned (.bool true) ∧ Below w.heap.size w w' := walkK theSlots.old S C keep p0 p1 p2 cap0 cap1 cap2 (Bys.of h2) w hS0 hS1 hS2
set_option maxRecDepth 100000 in
theorem lifted (os : Os) (started : os.Started) (H : Type) (enc : TypeId × Value → H) :
    ReturnsInHanded {} Try.checked os 3 .any (Rows.slotsKeepsSpec.pre6 enc Try.prog Try.f3 Rows.slotsKeepsRow.domain false) (Rows.slotsKeepsSpec.post enc Try.prog Try.f3 false true false false) := by
  refine returnsInHanded_of_change (C := Try.checked) own started (by kernel_rfl) Try.func3
    (ChangeSpec.witness6 (enc := enc) (C := Try.checked) false ⟨#[], #[.slice none 0 0, .slice none 0 0, .slice none 0 0], []⟩ 8 (by kernel_rfl) (by kernel_rfl) (by kernel_rfl) (by kernel_rfl)) ?_
  intro W base args ds gs before hval0 hW hcnd _
  have hval : ∀ (j : Nat) t v, Try.f3.params[j]? = some t → args[j]? = some v → Value.okWide Try.prog W .any base t v := hval0
  have hW' := hW
  obtain ⟨p, q, hA0, hV, rfl, hfz, hnd⟩ := hW
  have hA : DataW.TrodAll enc Try.prog W 0 (fun _ => true) true Try.f3.params.toList args.toList ds p := hA0
  rw [Try.params3] at hA hval
  obtain ⟨v0, vs0, d0, ds0, p0, q0, hargs, rfl, rfl, h0, r0⟩ := trodAll_cons hA
  obtain ⟨v1, vs1, d1, ds1, p1, q1, rfl, rfl, rfl, h1, r1⟩ := trodAll_cons r0
  obtain ⟨v2, vs2, d2, ds2, p2, q2, rfl, rfl, rfl, h2, r2⟩ := trodAll_cons r1
  obtain ⟨rfl, rfl, rfl⟩ := trodAll_nil r2
  obtain rfl : args = #[v0, v1, v2] := by cases args; simp_all
  obtain ⟨rfl, rfl⟩ := trodVars_none hV
  have k0 := h0
  have lt0 : ∀ x ∈ p0, x.block < W.heap.size := by obtain ⟨m, hm⟩ := k0; exact DataW.trod_lt m _ _ _ hm
  obtain ⟨a0, m0, c0, rfl⟩ := Go.WideShapes.okWide_slice Try.underlying22 (hval 0 22 v0 rfl rfl)
  obtain ⟨l0, rfl, S0, n0⟩ := open_texts h0
  have k1 := h1
  have lt1 : ∀ x ∈ p1, x.block < W.heap.size := by obtain ⟨m, hm⟩ := k1; exact DataW.trod_lt m _ _ _ hm
  obtain ⟨a1, m1, c1, rfl⟩ := Go.WideShapes.okWide_slice Try.underlying23 (hval 1 23 v1 rfl rfl)
  obtain ⟨l1, rfl, S1, n1⟩ := open_bools h1
  have k2 := h2
  have lt2 : ∀ x ∈ p2, x.block < W.heap.size := by obtain ⟨m, hm⟩ := k2; exact DataW.trod_lt m _ _ _ hm
  obtain ⟨a2, m2, c2, rfl⟩ := Go.WideShapes.okWide_slice Try.underlying24 (hval 2 24 v2 rfl rfl)
  obtain ⟨l2, rfl, S2, n2⟩ := open_u8s h2
  clear hA0 hval0
  simp only [List.append_nil] at hW'
  refine (walk l0 a0 c0 l1 a1 c1 l2 a2 c2 n0 n1 n2 W S0 S1 S2).mono fun e W' ⟨he, bel⟩ => ?_
  subst he
  exact ⟨_, rfl, _, _, _, [], _, [], hW', trodAll_mk1 (shut_bool Try.underlying4 _), (trodAll_cons_mk (Below.trod laidOut (by kernel_rfl) (of_decide_eq_true (by kernel_rfl)) k0 bel lt0) (trodAll_cons_mk (Below.trod laidOut (by kernel_rfl) (of_decide_eq_true (by kernel_rfl)) k1 bel lt1) (trodAll_cons_mk (Below.trod laidOut (by kernel_rfl) (of_decide_eq_true (by kernel_rfl)) k2 bel lt2) trodAll_mk0))), rfl, bel.frame _, fun h => by cases h⟩

theorem over : Rows.slotsKeepsRow.holds Try.pinned (OpenSpec.ofChange Rows.slotsKeepsSpec) :=
  OpenClaim.holds_of_wide 3 Try.f3 rfl rfl rfl rfl rfl rfl rfl ⟨rfl, rfl, rfl, rfl, rfl⟩ rfl rfl rfl rfl rfl (by kernel_rfl) Try.func3 (by kernel_rfl)
    (of_decide_eq_true (by kernel_rfl)) (by unfold Func.isWrapper; first | (rw [if_pos (by decide +kernel)]; kernel_rfl) | (rw [if_neg (by decide +kernel)]; exact ⟨rfl, rfl⟩))
    (fun os started H enc _ => lifted os started H enc)

theorem proved : Rows.SlotsKeepsSaid :=
  over
#print axioms proved
end Go.Proofs.Ytccplgicfbfjiaa.slotsKeeps
