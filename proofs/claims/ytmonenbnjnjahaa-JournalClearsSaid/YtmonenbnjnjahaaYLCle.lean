/-
  For every two lists of texts: a journal that is cleared has no frames, whatever it had; the other one beside it stays. No condition.
-/
import Derived.Test.YtmonenbnjnjahaaRows
import Derived.Test.YtmonenbnjnjahaaYShw
import Derived.Test.YtmonenbnjnjahaaYThe
import Derived.ShutString
import Derived.ChangeOld
namespace Go.Proofs.Ytmonenbnjnjahaa.journalClears
open Go.ChangeShapes Go.WideShapes Go.ChangeAt Go.RowKit
open Go.ChangeMaps (open_string shut_string)
set_option linter.unusedVariables false

/-- what stays true of two journals on one disk -/
structure InvC (A B : List (List Nat)) (i1 i2 : Nat) (d : DiskM) (m1 m2 : JurM) : Prop where
  dk : DkJ d (36 * (i1 + i2))
  ja : JurOk d m1 (A.take i1)
  jb : JurOk d m2 (B.take i2)
  fa : m1.fr = 0
  ta : m1.to = 60
  fb : m2.fr = 60
  tb : m2.to = 120
  na : m1.nx ≤ 5 * i1
  nb : m2.nx ≤ 60 + 5 * i2
  len : d.sec.length = 120
theorem inv_new (A B : List (List Nat)) : InvC A B 0 0 (newD 120) ⟨0, 60, 0⟩ ⟨60, 120, 60⟩ :=
  ⟨dkj_new (by decide), jur_new (by decide) (by decide), jur_new (by decide) (by decide), rfl, rfl, rfl, rfl, Nat.le_refl _, Nat.le_refl _, by simp [newD]⟩
theorem take_more {A : List (List Nat)} {i : Nat} (h : i < A.length) : A.take (i + 1) = A.take i ++ [A.getD i []] := by
  rw [List.take_add_one, List.getD_eq_getElem?_getD, List.getElem?_eq_getElem h]
  rfl
theorem sec5 {n : Nat} (h : n ≤ 150) : secK n ≤ 5 := by unfold secK; omega
theorem inv_a {A B : List (List Nat)} {i1 i2 : Nat} {d : DiskM} {m1 m2 : JurM} (h : InvC A B i1 i2 d m1 m2) (hi : i1 < A.length) (hA : A.length ≤ 8) {s : List Nat} (hs : A.getD i1 [] = s) (hb : Bys s) (hl : s.length ≤ 150) : apE m1 s.length = 0 ∧ InvC A B (i1 + 1) i2 (apD d m1 s) (apM m1 s.length) m2 := by
  have h1 := h.ta
  have h2 := h.na
  have h3 := h.fa
  have h4 := sec5 hl
  have h5 := h.fb
  have he : apE m1 s.length = 0 := by unfold apE; rw [if_pos (by omega)]
  have hM : apM m1 s.length = ⟨m1.fr, m1.to, m1.nx + secK s.length⟩ := by unfold apM; rw [if_pos he]
  refine ⟨he, (dkj_append h.dk h.ja hb (by omega)).more (by omega), by rw [take_more hi, hs]; exact jur_append h.ja he hb (by omega), jur_other h.jb h.ja (.inl (by omega)) s, by rw [hM]; exact h3, by rw [hM]; exact h1, h5, h.tb, by rw [hM]; show m1.nx + _ ≤ _; omega, h.nb, by rw [ap_len]; exact h.len⟩
theorem inv_b {A B : List (List Nat)} {i1 i2 : Nat} {d : DiskM} {m1 m2 : JurM} (h : InvC A B i1 i2 d m1 m2) (hi : i2 < B.length) (hB : B.length ≤ 8) {s : List Nat} (hs : B.getD i2 [] = s) (hb : Bys s) (hl : s.length ≤ 150) : apE m2 s.length = 0 ∧ InvC A B i1 (i2 + 1) (apD d m2 s) m1 (apM m2 s.length) := by
  have h1 := h.tb
  have h2 := h.nb
  have h3 := h.fb
  have h4 := sec5 hl
  have h5 := h.ta
  have he : apE m2 s.length = 0 := by unfold apE; rw [if_pos (by omega)]
  have hM : apM m2 s.length = ⟨m2.fr, m2.to, m2.nx + secK s.length⟩ := by unfold apM; rw [if_pos he]
  refine ⟨he, (dkj_append h.dk h.jb hb (by omega)).more (by omega), jur_other h.ja h.jb (.inr (by omega)) s, by rw [take_more hi, hs]; exact jur_append h.jb he hb (by omega), h.fa, h5, by rw [hM]; exact h3, by rw [hM]; exact h1, h.na, by rw [hM]; show m2.nx + _ ≤ _; omega, by rw [ap_len]; exact h.len⟩
theorem inv_a0 {A B : List (List Nat)} {i1 i2 : Nat} {d : DiskM} {m1 m2 : JurM} (h : InvC A B i1 i2 d m1 m2) (hi : A.length ≤ i1) : InvC A B (i1 + 1) i2 d m1 m2 :=
  ⟨h.dk.more (by omega), by rw [List.take_of_length_le (by omega)]; have := h.ja; rwa [List.take_of_length_le hi] at this, h.jb, h.fa, h.ta, h.fb, h.tb, (by have := h.na; omega), h.nb, h.len⟩
theorem inv_b0 {A B : List (List Nat)} {i1 i2 : Nat} {d : DiskM} {m1 m2 : JurM} (h : InvC A B i1 i2 d m1 m2) (hi : B.length ≤ i2) : InvC A B i1 (i2 + 1) d m1 m2 :=
  ⟨h.dk.more (by omega), h.ja, by rw [List.take_of_length_le (by omega)]; have := h.jb; rwa [List.take_of_length_le hi] at this, h.fa, h.ta, h.fb, h.tb, h.na, (by have := h.nb; omega), h.len⟩
theorem getD_byst {A : List (List Nat)} (h : ∀ x ∈ A, Bys x) {i : Nat} (hi : i < A.length) : Bys (A.getD i []) := by
  rw [List.getD_eq_getElem?_getD, List.getElem?_eq_getElem hi]
  exact h _ (List.getElem_mem _)
set_option maxHeartbeats 4000000 in
set_option maxRecDepth 100000 in
theorem walkK (K : JurKit) (A B : List (List Nat)) (p0 p1 : Option Addr) (cap0 cap1 : Nat) (hA : ∀ x ∈ A, Bys x) (hB : ∀ x ∈ B, Bys x) (w : World) (hS0 : Sl w 1 (.slice p0 A.length cap0) (rowsS A)) (hS1 : Sl w 1 (.slice p1 B.length cap1) (rowsS B)) :
    Calls Try.prog 5 #[.slice p0 A.length cap0, .slice p1 B.length cap1] w fun e w' => e = .returned (.bool true) ∧ Below w.heap.size w w' := by
  have HSh := Lib.hid (fun w => l14_shown K w)
  have HS0 := Lib.hid hS0
  have HS1 := Lib.hid hS1
  have HBA := Lib.hid hA
  have HBB := Lib.hid hB
  clear hS0 hS1 hA hB
  obtain ⟨na, hna⟩ : ∃ na, A.length = na := ⟨_, rfl⟩
  obtain ⟨nb, hnb⟩ : ∃ nb, B.length = nb := ⟨_, rfl⟩
  have HNA := Lib.hid hna
  have HNB := Lib.hid hnb
  rw [hna] at HS0 ⊢
  rw [hnb] at HS1 ⊢
  clear hna hnb
  by_cases h0 : 8 < na ∨ 8 < nb
  · by_cases h8 : 8 < na
    · have g0 : (8 : Int) < (na : Int) := by omega
      have g0' : decide ((8 : Int) < (na : Int)) = true := decide_eq_true g0
      clear h0 h8
      go_enter Try.func5, Try.ntmps5
      go_wp2_with (go_at_call 6; (with_reducible refine (HSh.out _).mono ?_); rintro e w1 ⟨rfl, hb1⟩)
      go_ret
      exact ⟨rfl, hb1⟩
    · have g0 : ¬ (8 : Int) < (na : Int) := by omega
      have g0' : decide ((8 : Int) < (na : Int)) = false := decide_eq_false g0
      have g1 : (8 : Int) < (nb : Int) := by omega
      have g1' : decide ((8 : Int) < (nb : Int)) = true := decide_eq_true g1
      clear h0 h8
      go_enter Try.func5, Try.ntmps5
      go_wp2_with (go_at_call 6; (with_reducible refine (HSh.out _).mono ?_); rintro e w1 ⟨rfl, hb1⟩)
      go_ret
      exact ⟨rfl, hb1⟩
  have g0 : ¬ (8 : Int) < (na : Int) := by omega
  have g0' : decide ((8 : Int) < (na : Int)) = false := decide_eq_false g0
  have g1 : ¬ (8 : Int) < (nb : Int) := by omega
  have g1' : decide ((8 : Int) < (nb : Int)) = false := decide_eq_false g1
  have A8 : na ≤ 8 := by omega
  have B8 : nb ≤ 8 := by omega
  have I0 := inv_new A B
  have HI0 := Lib.hid I0
  have oa := jur_open I0.ja
  have ob := jur_open I0.jb
  have HN := Lib.hid (fun (wx : World) (h : w.heap.size ≤ wx.heap.size) => K.new_yes 120 wx w.heap.size (by decide) (by decide) h)
  have HOA := Lib.hid (fun (wx : World) (D : Nat) (F : Nat → Prop) (h : K.St w.heap.size wx D (newD 120) [] F) (hw : w.heap.size ≤ wx.heap.size) => K.open_ h (I0.dk.more (by omega)) hw 0 60 (by decide) (by rw [I0.len]; decide) (by decide) [] 0 oa)
  have HOB := Lib.hid (fun (wx : World) (D : Nat) (js : List (Nat × JurM)) (F : Nat → Prop) (h : K.St w.heap.size wx D (newD 120) js F) (hw : w.heap.size ≤ wx.heap.size) => K.open_ h (I0.dk.more (by omega)) hw 60 120 (by decide) (by rw [I0.len]; decide) (by decide) [] 0 ob)
  clear I0 oa ob h0
  go_enter Try.func5, Try.ntmps5
  go_wp2_with fail
  (with_reducible refine (HSh.out _).mono ?_)
  rintro e v1 ⟨rfl, c1⟩
  have B1 := Lib.hid c1
  clear c1
  go_wp2_with fail
  refine (HN.out v1 B1.out.size).mono ?_
  rintro e v2 ⟨D, F2, rfl, r2, c2, _⟩
  have R2 := Lib.hid r2
  have B2 := Lib.hid (B1.out.trans (c2.mono B1.out.size))
  clear r2 c2 HN
  unfold ptD
  go_wp2_with fail
  refine (HOA.out v2 D F2 R2.out B2.out.size).mono ?_
  rintro e v3 ⟨J, p3, c3, F3, rfl, r3, _, t3⟩
  have R3 := Lib.hid r3
  have B3 := Lib.hid (B2.out.trans t3.b)
  clear r3 t3 HOA
  unfold ptD
  go_wp2_with fail
  refine (HOB.out v3 D _ F3 R3.out B3.out.size).mono ?_
  rintro e v4 ⟨J2, p4, c4, F4, rfl, r4, _, t4⟩
  have R4 := Lib.hid r4
  have B4 := Lib.hid (B3.out.trans t4.b)
  clear r4 t4 HOB
  unfold ptD
  go_wp2_with fail
  go_loopw [12] (fun i wr => ∃ (j : Nat) (d : DiskM) (m1 m2 : JurM) (F : Nat → Prop), i = .int .i64 (j : Int) ∧ j ≤ max na nb ∧ InvC A B j j d m1 m2 ∧ K.St w.heap.size wr D d [(J2, m2), (J, m1)] F ∧ Below w.heap.size w wr) (fun i _ => max na nb - (intOf i).toNat)
  case atStart => exact ⟨0, newD 120, ⟨0, 60, 0⟩, ⟨60, 120, 60⟩, F4, rfl, by omega, HI0.out, R4.out, B4.out⟩
  case round =>
    obtain ⟨j, d, m1, m2, F, rfl, hj, hi, hr, gb⟩ := hrel
    have HI := Lib.hid hi
    have RJ := Lib.hid hr
    have GB := Lib.hid gb
    have hj8 : j ≤ 8 := by omega
    have HJM := Lib.hid hj
    clear hi hr gb HI0 R3 B3 R4 B4 hj
    by_cases ha : j < na
    · have d1 : (j : Int) < (na : Int) := by omega
      have d1' : decide ((j : Int) < (na : Int)) = true := decide_eq_true d1
      obtain ⟨ad, rfl, c1⟩ := SlS.cell (HS0.out.below GB.out) (by rw [HNA.out]; exact ha)
      obtain ⟨X0, hX0⟩ : ∃ X0, A.getD j [] = X0 := ⟨_, rfl⟩
      have hb0 : Bys X0 := by rw [← hX0]; exact getD_byst HBA.out (by rw [HNA.out]; exact ha)
      rw [hX0] at c1
      have hz0 := tx_size X0
      have ht0 : sl (tx X0) = X0 := sl_tx hb0
      obtain ⟨X, hX⟩ : ∃ X, tx X0 = X := ⟨_, rfl⟩
      rw [hX] at c1 hz0 ht0
      have HX0 := Lib.hid hX0
      have HT0 := Lib.hid ht0
      have HZ0 := Lib.hid hz0
      have HB0 := Lib.hid hb0
      have HA := Lib.hid ha
      clear hX0 hX ht0 hz0 hb0 ha
      by_cases xa : 150 < X.size
      · have d2 : (150 : Int) < (X.size : Int) := by omega
        have d2' : decide ((150 : Int) < (X.size : Int)) = true := decide_eq_true d2
        clear xa
        go_wp2_with fail
        (with_reducible refine (HSh.out _).mono ?_)
        rintro e w1 ⟨rfl, hb1⟩
        have B9 := Lib.hid (GB.out.trans (hb1.mono GB.out.size))
        clear hb1
        go_wp2
        go_ret
        exact ⟨rfl, B9.out⟩
      · have d2 : ¬ (150 : Int) < (X.size : Int) := by omega
        have d2' : decide ((150 : Int) < (X.size : Int)) = false := decide_eq_false d2
        have hxl : X0.length ≤ 150 := by have := HZ0.out; omega
        obtain ⟨he, hi'⟩ := inv_a HI.out (by rw [HNA.out]; exact HA.out) (by rw [HNA.out]; omega) HX0.out HB0.out hxl
        have hto := HI.out.ta
        have hfr := HI.out.fa
        have hnx := HI.out.ja.le
        have hlen := HI.out.len
        have HAP := Lib.hid (K.append (K.swap RJ.out) (HI.out.dk.more (by omega)) GB.out.size ⟨by omega, hnx, by omega⟩ X (by omega) 0 (apD d m1 X0) (apM m1 X0.length) (by rw [HZ0.out]; exact he) (by rw [HT0.out]) (by rw [HZ0.out]))
        generalize apD d m1 X0 = d' at *
        generalize apM m1 X0.length = m1' at *
        have HI' := Lib.hid hi'
        clear he hi' hto hfr hnx hlen hxl xa
        go_wp2_with fail
        refine HAP.out.mono ?_
        rintro e v5 ⟨F5, rfl, r5, t5⟩
        have RK := Lib.hid (K.swap r5)
        have BK := Lib.hid (GB.out.trans t5.b)
        clear r5 t5
        by_cases hlt : j < nb
        · have e1 : (j : Int) < (nb : Int) := by omega
          have e1' : decide ((j : Int) < (nb : Int)) = true := decide_eq_true e1
          obtain ⟨bd, rfl, c2⟩ := SlS.cell (HS1.out.below BK.out) (by rw [HNB.out]; exact hlt)
          obtain ⟨Y0, hY0⟩ : ∃ Y0, B.getD j [] = Y0 := ⟨_, rfl⟩
          have hb1 : Bys Y0 := by rw [← hY0]; exact getD_byst HBB.out (by rw [HNB.out]; exact hlt)
          rw [hY0] at c2
          have hz1 := tx_size Y0
          have ht1 : sl (tx Y0) = Y0 := sl_tx hb1
          obtain ⟨Y, hY⟩ : ∃ Y, tx Y0 = Y := ⟨_, rfl⟩
          rw [hY] at c2 hz1 ht1
          by_cases xb : 150 < Y.size
          · have d3 : (150 : Int) < (Y.size : Int) := by omega
            have d3' : decide ((150 : Int) < (Y.size : Int)) = true := decide_eq_true d3
            clear xb hY0 hY ht1 hz1 hb1 hlt
            go_wp2_with fail
            (with_reducible refine (HSh.out _).mono ?_)
            rintro e w1 ⟨rfl, hb1⟩
            have B9 := Lib.hid (BK.out.trans (hb1.mono BK.out.size))
            clear hb1
            go_wp2
            go_ret
            exact ⟨rfl, B9.out⟩
          · have d3 : ¬ (150 : Int) < (Y.size : Int) := by omega
            have d3' : decide ((150 : Int) < (Y.size : Int)) = false := decide_eq_false d3
            have hxl : Y0.length ≤ 150 := by omega
            obtain ⟨he, hi'⟩ := inv_b HI'.out (by rw [HNB.out]; exact hlt) (by rw [HNB.out]; omega) hY0 hb1 hxl
            have hto := HI'.out.tb
            have hfr := HI'.out.jb.nx
            have hnx := HI'.out.jb.le
            have hlen := HI'.out.len
            have HBP := Lib.hid (K.append RK.out (HI'.out.dk.more (by omega)) BK.out.size ⟨by omega, hnx, by omega⟩ Y (by omega) 0 (apD d' m2 Y0) (apM m2 Y0.length) (by rw [hz1]; exact he) (by rw [ht1]) (by rw [hz1]))
            generalize apD d' m2 Y0 = d'' at *
            generalize apM m2 Y0.length = m2' at *
            have HI'' := Lib.hid hi'
            have HLT := Lib.hid hlt
            clear he hi' hto hfr hnx hlen hxl xb hY0 hY ht1 hz1 hb1 hlt
            go_wp2_with fail
            refine HBP.out.mono ?_
            rintro e v6 ⟨F6, rfl, r6, t6⟩
            have R6 := Lib.hid r6
            have B6 := Lib.hid (BK.out.trans t6.b)
            clear r6 t6
            go_wp2
            go_roundw
            case rel => exact ⟨j + 1, d'', m1', m2', F6, by go_num, (by have := HLT.out; omega), HI''.out, R6.out, B6.out⟩
            case measure => (have := HLT.out; simp [intOf]; omega)
        · have e1 : ¬ (j : Int) < (nb : Int) := by omega
          have e1' : decide ((j : Int) < (nb : Int)) = false := decide_eq_false e1
          have HI'' := Lib.hid (inv_b0 HI'.out (by rw [HNB.out]; omega))
          clear hlt
          go_wp2
          go_roundw
          case rel => exact ⟨j + 1, d', m1', m2, F5, by go_num, (by have := HA.out; omega), HI''.out, RK.out, BK.out⟩
          case measure => (have := HA.out; simp [intOf]; omega)
    · have d1 : ¬ (j : Int) < (na : Int) := by omega
      have d1' : decide ((j : Int) < (na : Int)) = false := decide_eq_false d1
      by_cases hlt : j < nb
      · have HI' := Lib.hid (inv_a0 HI.out (by rw [HNA.out]; omega))
        have RK := RJ
        have BK := GB
        clear ha
        have e1 : (j : Int) < (nb : Int) := by omega
        have e1' : decide ((j : Int) < (nb : Int)) = true := decide_eq_true e1
        obtain ⟨bd, rfl, c2⟩ := SlS.cell (HS1.out.below BK.out) (by rw [HNB.out]; exact hlt)
        obtain ⟨Y0, hY0⟩ : ∃ Y0, B.getD j [] = Y0 := ⟨_, rfl⟩
        have hb1 : Bys Y0 := by rw [← hY0]; exact getD_byst HBB.out (by rw [HNB.out]; exact hlt)
        rw [hY0] at c2
        have hz1 := tx_size Y0
        have ht1 : sl (tx Y0) = Y0 := sl_tx hb1
        obtain ⟨Y, hY⟩ : ∃ Y, tx Y0 = Y := ⟨_, rfl⟩
        rw [hY] at c2 hz1 ht1
        by_cases xb : 150 < Y.size
        · have d3 : (150 : Int) < (Y.size : Int) := by omega
          have d3' : decide ((150 : Int) < (Y.size : Int)) = true := decide_eq_true d3
          clear xb hY0 hY ht1 hz1 hb1 hlt
          go_wp2_with fail
          (with_reducible refine (HSh.out _).mono ?_)
          rintro e w1 ⟨rfl, hb1⟩
          have B9 := Lib.hid (BK.out.trans (hb1.mono BK.out.size))
          clear hb1
          go_wp2
          go_ret
          exact ⟨rfl, B9.out⟩
        · have d3 : ¬ (150 : Int) < (Y.size : Int) := by omega
          have d3' : decide ((150 : Int) < (Y.size : Int)) = false := decide_eq_false d3
          have hxl : Y0.length ≤ 150 := by omega
          obtain ⟨he, hi'⟩ := inv_b HI'.out (by rw [HNB.out]; exact hlt) (by rw [HNB.out]; omega) hY0 hb1 hxl
          have hto := HI'.out.tb
          have hfr := HI'.out.jb.nx
          have hnx := HI'.out.jb.le
          have hlen := HI'.out.len
          have HBP := Lib.hid (K.append RK.out (HI'.out.dk.more (by omega)) BK.out.size ⟨by omega, hnx, by omega⟩ Y (by omega) 0 (apD d m2 Y0) (apM m2 Y0.length) (by rw [hz1]; exact he) (by rw [ht1]) (by rw [hz1]))
          generalize apD d m2 Y0 = d'' at *
          generalize apM m2 Y0.length = m2' at *
          have HI'' := Lib.hid hi'
          have HLT := Lib.hid hlt
          clear he hi' hto hfr hnx hlen hxl xb hY0 hY ht1 hz1 hb1 hlt
          go_wp2_with fail
          refine HBP.out.mono ?_
          rintro e v6 ⟨F6, rfl, r6, t6⟩
          have R6 := Lib.hid r6
          have B6 := Lib.hid (BK.out.trans t6.b)
          clear r6 t6
          go_wp2
          go_roundw
          case rel => exact ⟨j + 1, d'', m1, m2', F6, by go_num, (by have := HLT.out; omega), HI''.out, R6.out, B6.out⟩
          case measure => (have := HLT.out; simp [intOf]; omega)
      · have e1 : ¬ (j : Int) < (nb : Int) := by omega
        have e1' : decide ((j : Int) < (nb : Int)) = false := decide_eq_false e1
        have jb := HI.out.jb
        rw [List.take_of_length_le (by rw [HNB.out]; omega)] at jb
        have hto := HI.out.tb
        have hfr := HI.out.fb
        have hlen := HI.out.len
        have jc := @jur_clear d 0 60 (by decide) (by omega)
        have jo := jur_clear_other jb (fr := 0) (.inl (by omega))
        have oc := jur_open jc
        have oo := jur_open jo
        rw [hto, hfr] at oo
        have hdk := dkj_clear HI.out.dk (fr := 0) (by omega)
        have hl2 := cl_len d 0
        have HCL := Lib.hid (K.clear RJ.out (HI.out.dk.more (by omega)) GB.out.size 0 60 (by decide) (by omega) (by decide) _ rfl)
        obtain ⟨d', hd'⟩ : ∃ d', clD d 0 = d' := ⟨_, rfl⟩
        rw [hd'] at HCL oc oo hdk hl2
        have HO1 := Lib.hid (fun (wx : World) (js : List (Nat × JurM)) (F : Nat → Prop) (h : K.St w.heap.size wx D d' js F) (hw : w.heap.size ≤ wx.heap.size) => K.open_ h (hdk.more (by omega)) hw 0 60 (by decide) (by omega) (by decide) [] 0 oc)
        have HO2 := Lib.hid (fun (wx : World) (js : List (Nat × JurM)) (F : Nat → Prop) (h : K.St w.heap.size wx D d' js F) (hw : w.heap.size ≤ wx.heap.size) => K.open_ h (hdk.more (by omega)) hw 60 120 (by decide) (by omega) (by decide) B _ oo)
        rw [HNB.out] at HO2
        have HRM := Lib.hid (fun (wx : World) (J6 : Nat) (js : List (Nat × JurM)) (F : Nat → Prop) (h : K.St w.heap.size wx D d' ((J6, ⟨0, 60, 0⟩) :: js) F) (hw : w.heap.size ≤ wx.heap.size) => K.room h hw (by decide) 60 rfl)
        have HKS := Lib.hid (fun (wx : World) (q : Option Addr) (cq : Nat) (h : Below w.heap.size w wx) (hq : Sl wx 1 (.slice q B.length cq) (rowsS B)) => kr_Same B q p1 cq cap1 wx (by rw [HNB.out]; omega) hq (by rw [HNB.out]; exact HS1.out.below h))
        rw [HNB.out] at HKS
        clear ha hlt jb hto hfr hlen jc jo oc oo hdk hl2 hd'
        go_wp2_with fail
        refine HCL.out.mono ?_
        rintro e v5 ⟨F5, rfl, r5, t5⟩
        have R5 := Lib.hid r5
        have B5 := Lib.hid (GB.out.trans t5.b)
        clear r5 t5 HCL
        go_wp2_with fail
        refine (HO1.out v5 _ F5 R5.out B5.out.size).mono ?_
        rintro e v6 ⟨J6, p6, c6, F6, rfl, r6, _, t6⟩
        have R6 := Lib.hid r6
        have B6 := Lib.hid (B5.out.trans t6.b)
        clear r6 t6 HO1
        unfold ptD
        go_wp2_with fail
        refine (HO2.out v6 _ F6 R6.out B6.out.size).mono ?_
        rintro e v7 ⟨J7, p7, c7, F7, rfl, r7, q7, t7⟩
        have R7 := Lib.hid r7
        have B7 := Lib.hid (B6.out.trans t7.b)
        have Q7 := Lib.hid q7
        clear r7 q7 t7 HO2
        unfold ptD
        go_wp2_with fail
        refine (HRM.out v7 J6 _ F7 (K.swap R7.out) B7.out.size).mono ?_
        rintro e v8 ⟨rfl, c8⟩
        have B8 := Lib.hid (B7.out.trans (c8.mono B7.out.size))
        have Q8 := Lib.hid (Q7.out.below c8)
        clear c8
        go_wp2_with fail
        refine (HKS.out v8 p7 c7 B8.out Q8.out).mono ?_
        rintro e v9 ⟨rfl, c9⟩
        have B9 := Lib.hid (B8.out.trans (c9.mono B8.out.size))
        clear c9
        go_wp2
        go_ret
        exact ⟨rfl, B9.out⟩
theorem walk (A : List (List Nat)) (p0 : Option Addr) (cap0 : Nat) (B : List (List Nat)) (p1 : Option Addr) (cap1 : Nat) {Q0 Q1 : Prop} (h0 : (∀ x ∈ A, Bys x) ∧ Q0) (h1 : (∀ x ∈ B, Bys x) ∧ Q1) (w : World) (hS0 : Sl w 1 (.slice p0 A.length cap0) (rowsS A)) (hS1 : Sl w 1 (.slice p1 B.length cap1) (rowsS B)) :
    Calls Try.prog 5 #[.slice p0 A.length cap0, .slice p1 B.length cap1] w fun e w' => e = .returned (.bool true) ∧ Below w.heap.size w w' := walkK theJur A B p0 p1 cap0 cap1 h0.1 h1.1 w hS0 hS1
set_option maxRecDepth 100000 in
theorem lifted (os : Os) (started : os.Started) (H : Type) (enc : TypeId × Value → H) :
    ReturnsInHanded {} Try.checked os 5 .any (Rows.journalClearsSpec.pre6 enc Try.prog Try.f5 Rows.journalClearsRow.domain false) (Rows.journalClearsSpec.post enc Try.prog Try.f5 false true false false) := by
  refine returnsInHanded_of_change (C := Try.checked) own started (by kernel_rfl) Try.func5
    (ChangeSpec.witness6 (enc := enc) (C := Try.checked) false ⟨#[], #[.slice none 0 0, .slice none 0 0], []⟩ 8 (by kernel_rfl) (by kernel_rfl) (by kernel_rfl) (by kernel_rfl)) ?_
  intro W base args ds gs before hval0 hW hcnd _
  have hval : ∀ (j : Nat) t v, Try.f5.params[j]? = some t → args[j]? = some v → Value.okWide Try.prog W .any base t v := hval0
  have hW' := hW
  obtain ⟨p, q, hA0, hV, rfl, hfz, hnd⟩ := hW
  have hA : DataW.TrodAll enc Try.prog W 0 (fun _ => true) true Try.f5.params.toList args.toList ds p := hA0
  rw [Try.params5] at hA hval
  obtain ⟨v0, vs0, d0, ds0, p0, q0, hargs, rfl, rfl, h0, r0⟩ := trodAll_cons hA
  obtain ⟨v1, vs1, d1, ds1, p1, q1, rfl, rfl, rfl, h1, r1⟩ := trodAll_cons r0
  obtain ⟨rfl, rfl, rfl⟩ := trodAll_nil r1
  obtain rfl : args = #[v0, v1] := by cases args; simp_all
  obtain ⟨rfl, rfl⟩ := trodVars_none hV
  have k0 := h0
  have lt0 : ∀ x ∈ p0, x.block < W.heap.size := by obtain ⟨m, hm⟩ := k0; exact DataW.trod_lt m _ _ _ hm
  obtain ⟨a0, m0, c0, rfl⟩ := Go.WideShapes.okWide_slice Try.underlying22 (hval 0 22 v0 rfl rfl)
  obtain ⟨l0, rfl, S0, n0⟩ := open_texts h0
  have k1 := h1
  have lt1 : ∀ x ∈ p1, x.block < W.heap.size := by obtain ⟨m, hm⟩ := k1; exact DataW.trod_lt m _ _ _ hm
  obtain ⟨a1, m1, c1, rfl⟩ := Go.WideShapes.okWide_slice Try.underlying22 (hval 1 22 v1 rfl rfl)
  obtain ⟨l1, rfl, S1, n1⟩ := open_texts h1
  clear hA0 hval0
  simp only [List.append_nil] at hW'
  refine (walk l0 a0 c0 l1 a1 c1 n0 n1 W S0 S1).mono fun e W' ⟨he, bel⟩ => ?_
  subst he
  exact ⟨_, rfl, _, _, _, [], _, [], hW', trodAll_mk1 (shut_bool Try.underlying4 _), (trodAll_cons_mk (Below.trod laidOut (by kernel_rfl) (of_decide_eq_true (by kernel_rfl)) k0 bel lt0) (trodAll_cons_mk (Below.trod laidOut (by kernel_rfl) (of_decide_eq_true (by kernel_rfl)) k1 bel lt1) trodAll_mk0)), rfl, bel.frame _, fun h => by cases h⟩

theorem over : Rows.journalClearsRow.holds Try.pinned (OpenSpec.ofChange Rows.journalClearsSpec) :=
  OpenClaim.holds_of_wide 5 Try.f5 rfl rfl rfl rfl rfl rfl rfl ⟨rfl, rfl, rfl, rfl, rfl⟩ rfl rfl rfl rfl rfl (by kernel_rfl) Try.func5 (by kernel_rfl)
    (of_decide_eq_true (by kernel_rfl)) (by unfold Func.isWrapper; first | (rw [if_pos (by decide +kernel)]; kernel_rfl) | (rw [if_neg (by decide +kernel)]; exact ⟨rfl, rfl⟩))
    (fun os started H enc _ => lifted os started H enc)

theorem proved : Rows.JournalClearsSaid :=
  over
#print axioms proved
end Go.Proofs.Ytmonenbnjnjahaa.journalClears
