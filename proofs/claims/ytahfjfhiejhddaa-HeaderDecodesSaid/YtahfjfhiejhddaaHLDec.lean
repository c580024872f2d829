/-
  For every text: which version it is, or begins by, is the document's, or its error; and what was decoded is encoded to the text again. Texts beyond the bound are answered by the case shown alone. No condition.
-/
import Derived.Test.YtahfjfhiejhddaaRows
import Derived.Test.YtahfjfhiejhddaaHShw
import Derived.Test.YtahfjfhiejhddaaHTol
import Derived.ShutString
import Derived.ChangeOld
namespace Go.Proofs.Ytahfjfhiejhddaa.headerDecodes
open Go.ChangeShapes Go.WideShapes Go.ChangeAt Go.RowKit
open Go.ChangeMaps (open_string shut_string)
set_option linter.unusedVariables false

set_option maxHeartbeats 4000000 in
set_option maxRecDepth 100000 in
theorem walk (s : ByteArray) (n0 : s.size ≤ maxLen) (w : World) :
    Calls Try.prog 4 #[.string s] w fun e w' => e = .returned (.bool true) ∧ Below w.heap.size w w' := by
  have HSh := Lib.hid (fun w => l12_shown w)
  by_cases q0 : 1500 < s.size
  · have d0 : (1500 : Int) < (s.size : Int) := by omega
    clear q0 n0
    go_enter Try.func4, Try.ntmps4
    go_wp2_with (go_at_call 9; (with_reducible refine (HSh.out _).mono ?_); rintro e w0 ⟨rfl, hb0⟩)
    go_ret
    exact ⟨rfl, hb0⟩
  have d0 : ¬ (1500 : Int) < (s.size : Int) := by omega
  obtain ⟨D, hD⟩ : ∃ D, decT (tellA (sl s)) = D := ⟨_, rfl⟩
  obtain ⟨T, hT⟩ : ∃ T, tellA (sl s) = T := ⟨_, rfl⟩
  have Q1 := Lib.hid (fun wx => h_Decode s D wx (by omega) hD)
  have Q2 := Lib.hid (fun wx => hr_Decode s D wx (by omega) hD)
  have Q3 := Lib.hid (fun wx => h_Read s T wx (by omega) hT)
  have Q4 := Lib.hid (fun wx => hr_Read s T wx (by omega) hT)
  have okD := dec_ok (sl_bys s)
  have okT := tell_ok (sl_bys s)
  have hen := dec_enc (s := s)
  rw [hD] at okD hen
  rw [hT] at okT
  have OD := Lib.hid okD
  have OT := Lib.hid okT
  have HEN := Lib.hid hen
  obtain ⟨aD, eD⟩ := D
  obtain ⟨aT, rT, eT⟩ := T
  clear hD hT okD okT hen q0 n0
  unfold DeRet at Q1 Q2
  unfold RdRet at Q3 Q4
  dsimp only at *
  obtain ⟨ED, hED⟩ : ∃ ED : Int, ((eD : Nat) : Int) = ED := ⟨_, rfl⟩
  have HED := Lib.hid hED
  obtain ⟨ET, hET⟩ : ∃ ET : Int, ((eT : Nat) : Int) = ET := ⟨_, rfl⟩
  rw [hED] at Q1 Q2
  rw [hET] at Q3 Q4
  clear hED hET
  obtain ⟨RT, hRT⟩ : ∃ RT, tx rT = RT := ⟨_, rfl⟩
  rw [hRT] at Q3 Q4
  clear hRT
  have t1 : (ED != ED) = false := by simp
  have t2 : (ET != ET) = false := by simp
  have t3 := txt_same RT
  have t4 := txt_same s
  go_enter Try.func4, Try.ntmps4
  go_wp2_with (go_at_call 9; (with_reducible refine (HSh.out _).mono ?_); rintro e w0 ⟨rfl, hb0⟩)
  have HB0 := Lib.hid hb0
  clear hb0
  refine (Q1.out w0).mono ?_
  rintro e w1 ⟨v1, rfl, hv1, hb1⟩
  obtain ⟨C1, rfl, hl1, ho1⟩ := hv1.cells
  obtain ⟨N1, hN1⟩ : ∃ N, w1.heap.size = N := ⟨_, rfl⟩
  have k1 := Blk.newAt w1 N1 hN1 27 (c := zV.toArray) _ rfl
  have K1 := Lib.hid k1
  have hs1 := below_setRow ((Below.refl w1.heap.size w1).alloc (Nat.le_refl _) (.cells zV.toArray 27)) (show w1.heap.size ≤ N1 by omega) C1.toArray
  have R1 := Lib.hid (k1.row C1 (by rw [hl1]; rfl))
  have HB1 := Lib.hid ((HB0.out.trans (hb1.mono HB0.out.size)).trans (hs1.mono (HB0.out.trans (hb1.mono HB0.out.size)).size))
  have V1 := Lib.hid (hv1.keep hs1).vv
  clear hb1 hv1 k1 hs1 Q1
  go_wp2_with (first | (refine wpList_alloc_n rfl 27 rfl N1 hN1 _ (alloc_ver _) ?_) | (refine wpList_store_blk rfl 27 _ _ rfl N1 C1 rfl rfl K1.out (by rw [size_ver, hl1]) (by rw [hl1]; rfl) ho1 ?_))
  clear K1 hN1
  generalize (w1.alloc (.cells zV.toArray 27)).setRow N1 C1.toArray = u1 at *
  refine (Q2.out u1).mono ?_
  rintro e w2 ⟨v2, rfl, hv2, hb2⟩
  obtain ⟨C2, rfl, hl2, ho2⟩ := hv2.cells
  obtain ⟨N2, hN2⟩ : ∃ N, w2.heap.size = N := ⟨_, rfl⟩
  have k2 := Blk.newAt w2 N2 hN2 27 (c := zV.toArray) _ rfl
  have K2 := Lib.hid k2
  have hs2 := below_setRow ((Below.refl w2.heap.size w2).alloc (Nat.le_refl _) (.cells zV.toArray 27)) (show w2.heap.size ≤ N2 by omega) C2.toArray
  have R2 := Lib.hid (k2.row C2 (by rw [hl2]; rfl))
  have HB2 := Lib.hid ((HB1.out.trans (hb2.mono HB1.out.size)).trans (hs2.mono (HB1.out.trans (hb2.mono HB1.out.size)).size))
  have V2 := Lib.hid (hv2.keep hs2).vv
  have V1 := Lib.hid ((V1.out.below hb2).below hs2)
  have r1 := R1.out.below hb2 R1.out.lt
  have R1 := Lib.hid (r1.below hs2 r1.lt)
  clear hb2 hv2 k2 hs2 Q2 r1
  go_wp2_with (first | (refine wpList_alloc_n rfl 27 rfl N2 hN2 _ (alloc_ver _) ?_) | (refine wpList_store_blk rfl 27 _ _ rfl N2 C2 rfl rfl K2.out (by rw [size_ver, hl2]) (by rw [hl2]; rfl) ho2 ?_))
  clear K2 hN2
  generalize (w2.alloc (.cells zV.toArray 27)).setRow N2 C2.toArray = u2 at *
  refine (Q3.out u2).mono ?_
  rintro e w3 ⟨v3, rfl, hv3, hb3⟩
  obtain ⟨C3, rfl, hl3, ho3⟩ := hv3.cells
  obtain ⟨N3, hN3⟩ : ∃ N, w3.heap.size = N := ⟨_, rfl⟩
  have k3 := Blk.newAt w3 N3 hN3 27 (c := zV.toArray) _ rfl
  have K3 := Lib.hid k3
  have hs3 := below_setRow ((Below.refl w3.heap.size w3).alloc (Nat.le_refl _) (.cells zV.toArray 27)) (show w3.heap.size ≤ N3 by omega) C3.toArray
  have R3 := Lib.hid (k3.row C3 (by rw [hl3]; rfl))
  have HB3 := Lib.hid ((HB2.out.trans (hb3.mono HB2.out.size)).trans (hs3.mono (HB2.out.trans (hb3.mono HB2.out.size)).size))
  have V3 := Lib.hid (hv3.keep hs3).vv
  have V1 := Lib.hid ((V1.out.below hb3).below hs3)
  have r1 := R1.out.below hb3 R1.out.lt
  have R1 := Lib.hid (r1.below hs3 r1.lt)
  have V2 := Lib.hid ((V2.out.below hb3).below hs3)
  have r2 := R2.out.below hb3 R2.out.lt
  have R2 := Lib.hid (r2.below hs3 r2.lt)
  clear hb3 hv3 k3 hs3 Q3 r1 r2
  go_wp2_with (first | (refine wpList_alloc_n rfl 27 rfl N3 hN3 _ (alloc_ver _) ?_) | (refine wpList_store_blk rfl 27 _ _ rfl N3 C3 rfl rfl K3.out (by rw [size_ver, hl3]) (by rw [hl3]; rfl) ho3 ?_))
  clear K3 hN3
  generalize (w3.alloc (.cells zV.toArray 27)).setRow N3 C3.toArray = u3 at *
  refine (Q4.out u3).mono ?_
  rintro e w4 ⟨v4, rfl, hv4, hb4⟩
  obtain ⟨C4, rfl, hl4, ho4⟩ := hv4.cells
  obtain ⟨N4, hN4⟩ : ∃ N, w4.heap.size = N := ⟨_, rfl⟩
  have k4 := Blk.newAt w4 N4 hN4 27 (c := zV.toArray) _ rfl
  have K4 := Lib.hid k4
  have hs4 := below_setRow ((Below.refl w4.heap.size w4).alloc (Nat.le_refl _) (.cells zV.toArray 27)) (show w4.heap.size ≤ N4 by omega) C4.toArray
  have R4 := Lib.hid (k4.row C4 (by rw [hl4]; rfl))
  have HB4 := Lib.hid ((HB3.out.trans (hb4.mono HB3.out.size)).trans (hs4.mono (HB3.out.trans (hb4.mono HB3.out.size)).size))
  have V4 := Lib.hid (hv4.keep hs4).vv
  have V1 := Lib.hid ((V1.out.below hb4).below hs4)
  have r1 := R1.out.below hb4 R1.out.lt
  have R1 := Lib.hid (r1.below hs4 r1.lt)
  have V2 := Lib.hid ((V2.out.below hb4).below hs4)
  have r2 := R2.out.below hb4 R2.out.lt
  have R2 := Lib.hid (r2.below hs4 r2.lt)
  have V3 := Lib.hid ((V3.out.below hb4).below hs4)
  have r3 := R3.out.below hb4 R3.out.lt
  have R3 := Lib.hid (r3.below hs4 r3.lt)
  clear hb4 hv4 k4 hs4 Q4 r1 r2 r3
  have QS1 := Lib.hid (hr_Same aD aD (.agg C1.toArray) (.agg C2.toArray) true ((w4.alloc (.cells zV.toArray 27)).setRow N4 C4.toArray) (same_self aD) V1.out V2.out OD.out.1 OD.out.1 (by have := OD.out.2; omega) (by have := OD.out.2; omega) (by have := OD.out.2; omega))
  have QS2 := Lib.hid (fun wx (h : Below ((w4.alloc (.cells zV.toArray 27)).setRow N4 C4.toArray).heap.size ((w4.alloc (.cells zV.toArray 27)).setRow N4 C4.toArray) wx) => hr_Same aT aT (.agg C3.toArray) (.agg C4.toArray) true wx (same_self aT) (V3.out.below h) (V4.out.below h) OT.out.1 OT.out.1 (by have := OT.out.2; omega) (by have := OT.out.2; omega) (by have := OT.out.2; omega))
  by_cases hd : eD = 0
  · have hEn := HEN.out hd
    have QE := Lib.hid (fun wx (h : Below ((w4.alloc (.cells zV.toArray 27)).setRow N4 C4.toArray).heap.size ((w4.alloc (.cells zV.toArray 27)).setRow N4 C4.toArray) wx) => h_Encode aD (.agg C1.toArray) s 0 wx hEn (V1.out.below h) OD.out.1 (by have := OD.out.2; omega) (by have := OD.out.2; omega) (by have := OD.out.2; omega))
    have z0 : ED = 0 := by rw [← HED.out, hd]; rfl
    subst z0
    clear hEn hd HED HEN OD OT V1 V2 V3 V4
    go_wp2_with (first | (refine wpList_alloc_n rfl 27 rfl N4 hN4 _ (alloc_ver _) ?_) | (refine wpList_store_blk rfl 27 _ _ rfl N4 C4 rfl rfl K4.out (by rw [size_ver, hl4]) (by rw [hl4]; rfl) ho4 ?_) | (refine wpList_load_blkV rfl 27 _ rfl N1 rfl R1.out Try.underlying27 rfl (by rw [size_ver, hl1]) ?_) | (refine wpList_load_blkV rfl 27 _ rfl N2 rfl R2.out Try.underlying27 rfl (by rw [size_ver, hl2]) ?_) | (refine wpList_load_blkV rfl 27 _ rfl N3 rfl R3.out Try.underlying27 rfl (by rw [size_ver, hl3]) ?_) | (refine wpList_load_blkV rfl 27 _ rfl N4 rfl R4.out Try.underlying27 rfl (by rw [size_ver, hl4]) ?_) | (go_at_call 17; (with_reducible refine QS1.out.mono ?_); rintro e w5 ⟨rfl, hb5⟩; have B5 := Lib.hid hb5; have G1 := Lib.hid (R1.out.below hb5 R1.out.lt); have G2 := Lib.hid (R2.out.below hb5 R2.out.lt); have G3 := Lib.hid (R3.out.below hb5 R3.out.lt); have G4 := Lib.hid (R4.out.below hb5 R4.out.lt); clear hb5) | (refine wpList_load_blkV rfl 27 _ rfl N1 rfl G1.out Try.underlying27 rfl (by rw [size_ver, hl1]) ?_) | (refine wpList_load_blkV rfl 27 _ rfl N2 rfl G2.out Try.underlying27 rfl (by rw [size_ver, hl2]) ?_) | (refine wpList_load_blkV rfl 27 _ rfl N3 rfl G3.out Try.underlying27 rfl (by rw [size_ver, hl3]) ?_) | (refine wpList_load_blkV rfl 27 _ rfl N4 rfl G4.out Try.underlying27 rfl (by rw [size_ver, hl4]) ?_) | (go_at_call 17; (with_reducible refine (QS2.out _ B5.out).mono ?_); rintro e w6 ⟨rfl, hb6⟩; have B6 := Lib.hid (B5.out.trans (hb6.mono B5.out.size)); have J1 := Lib.hid (G1.out.below hb6 G1.out.lt); clear hb6) | (refine wpList_load_blkV rfl 27 _ rfl N1 rfl J1.out Try.underlying27 rfl (by rw [size_ver, hl1]) ?_) | (go_at_call 10; (with_reducible refine (QE.out _ B6.out).mono ?_); rintro e w7 ⟨rfl, hb7⟩; have B7 := Lib.hid (B6.out.trans (hb7.mono B6.out.size)); clear hb7))
    go_ret
    exact ⟨by simp, HB4.out.trans (B7.out.mono HB4.out.size)⟩
  · have t5 : (ED != 0) = true := by rw [← HED.out, bne_iff_ne]; omega
    clear hd HED HEN OD OT V1 V2 V3 V4
    go_wp2_with (first | (refine wpList_alloc_n rfl 27 rfl N4 hN4 _ (alloc_ver _) ?_) | (refine wpList_store_blk rfl 27 _ _ rfl N4 C4 rfl rfl K4.out (by rw [size_ver, hl4]) (by rw [hl4]; rfl) ho4 ?_) | (refine wpList_load_blkV rfl 27 _ rfl N1 rfl R1.out Try.underlying27 rfl (by rw [size_ver, hl1]) ?_) | (refine wpList_load_blkV rfl 27 _ rfl N2 rfl R2.out Try.underlying27 rfl (by rw [size_ver, hl2]) ?_) | (refine wpList_load_blkV rfl 27 _ rfl N3 rfl R3.out Try.underlying27 rfl (by rw [size_ver, hl3]) ?_) | (refine wpList_load_blkV rfl 27 _ rfl N4 rfl R4.out Try.underlying27 rfl (by rw [size_ver, hl4]) ?_) | (go_at_call 17; (with_reducible refine QS1.out.mono ?_); rintro e w5 ⟨rfl, hb5⟩; have B5 := Lib.hid hb5; have G1 := Lib.hid (R1.out.below hb5 R1.out.lt); have G2 := Lib.hid (R2.out.below hb5 R2.out.lt); have G3 := Lib.hid (R3.out.below hb5 R3.out.lt); have G4 := Lib.hid (R4.out.below hb5 R4.out.lt); clear hb5) | (refine wpList_load_blkV rfl 27 _ rfl N1 rfl G1.out Try.underlying27 rfl (by rw [size_ver, hl1]) ?_) | (refine wpList_load_blkV rfl 27 _ rfl N2 rfl G2.out Try.underlying27 rfl (by rw [size_ver, hl2]) ?_) | (refine wpList_load_blkV rfl 27 _ rfl N3 rfl G3.out Try.underlying27 rfl (by rw [size_ver, hl3]) ?_) | (refine wpList_load_blkV rfl 27 _ rfl N4 rfl G4.out Try.underlying27 rfl (by rw [size_ver, hl4]) ?_) | (go_at_call 17; (with_reducible refine (QS2.out _ B5.out).mono ?_); rintro e w6 ⟨rfl, hb6⟩; have B6 := Lib.hid (B5.out.trans (hb6.mono B5.out.size)); clear hb6))
    go_ret
    exact ⟨by simp, HB4.out.trans (B6.out.mono HB4.out.size)⟩

set_option maxRecDepth 100000 in
theorem lifted (os : Os) (started : os.Started) (H : Type) (enc : TypeId × Value → H) :
    ReturnsInHanded {} Try.checked os 4 .any (Rows.headerDecodesSpec.pre6 enc Try.prog Try.f4 Rows.headerDecodesRow.domain false) (Rows.headerDecodesSpec.post enc Try.prog Try.f4 false true false false) := by
  refine returnsInHanded_of_change (C := Try.checked) own started (by kernel_rfl) Try.func4
    (ChangeSpec.witness6 (enc := enc) (C := Try.checked) false ⟨#[], #[.string ByteArray.empty], []⟩ 8 (by kernel_rfl) (by kernel_rfl) (by kernel_rfl) (by kernel_rfl)) ?_
  intro W base args ds gs before hval0 hW hcnd _
  have hval : ∀ (j : Nat) t v, Try.f4.params[j]? = some t → args[j]? = some v → Value.okWide Try.prog W .any base t v := hval0
  have hW' := hW
  obtain ⟨p, q, hA0, hV, rfl, hfz, hnd⟩ := hW
  have hA : DataW.TrodAll enc Try.prog W 0 (fun _ => true) true Try.f4.params.toList args.toList ds p := hA0
  rw [Try.params4] at hA hval
  obtain ⟨v0, vs0, d0, ds0, p0, q0, hargs, rfl, rfl, h0, r0⟩ := trodAll_cons hA
  obtain ⟨rfl, rfl, rfl⟩ := trodAll_nil r0
  obtain rfl : args = #[v0] := by cases args; simp_all
  obtain ⟨rfl, rfl⟩ := trodVars_none hV
  obtain ⟨l0, rfl, rfl, rfl, n0⟩ := open_string Try.underlying9 (hval 0 9 v0 rfl rfl) h0
  clear hA0 hval0
  simp only [List.append_nil] at hW'
  refine (walk l0 n0 W).mono fun e W' ⟨he, bel⟩ => ?_
  subst he
  exact ⟨_, rfl, _, _, _, [], _, [], hW', trodAll_mk1 (shut_bool Try.underlying4 _), (trodAll_cons_mk (shut_string Try.underlying9 n0) trodAll_mk0), rfl, bel.frame _, fun h => by cases h⟩

theorem over : Rows.headerDecodesRow.holds Try.pinned (OpenSpec.ofChange Rows.headerDecodesSpec) :=
  OpenClaim.holds_of_wide 4 Try.f4 rfl rfl rfl rfl rfl rfl rfl ⟨rfl, rfl, rfl, rfl, rfl⟩ rfl rfl rfl rfl rfl (by kernel_rfl) Try.func4 (by kernel_rfl)
    (of_decide_eq_true (by kernel_rfl)) (by unfold Func.isWrapper; first | (rw [if_pos (by decide +kernel)]; kernel_rfl) | (rw [if_neg (by decide +kernel)]; exact ⟨rfl, rfl⟩))
    (fun os started H enc _ => lifted os started H enc)

theorem proved : Rows.HeaderDecodesSaid :=
  over
#print axioms proved
end Go.Proofs.Ytahfjfhiejhddaa.headerDecodes
