/-
  For every version, every text and every place: what was encoded is read, with the text that is behind it; its beginnings are none; with more it is none. Versions and texts beyond the bound are answered by the case shown alone. No condition.
-/
import Derived.Test.YtahfjfhiejhddaaRows
import Derived.Test.YtahfjfhiejhddaaHShw
import Derived.Test.YtahfjfhiejhddaaHTol
import Derived.ShutString
import Derived.ChangeOld
namespace Go.Proofs.Ytahfjfhiejhddaa.headerBack
open Go.ChangeShapes Go.WideShapes Go.ChangeAt Go.RowKit
open Go.ChangeMaps (open_string shut_string)
set_option linter.unusedVariables false

theorem nat_u16 (x : Int) (h : (Lit.int .u16 x).wf = true) : ∃ n : Nat, x = (n : Int) ∧ n < 65536 := by
  have := bounds_u16 h
  exact ⟨x.toNat, by omega, by omega⟩
set_option maxHeartbeats 4000000 in
set_option maxRecDepth 100000 in
theorem walk (a : RawV) (v0 : Value) (rest : ByteArray) (c : Int) (hx : a.ok ∧ a.bl.length ≤ maxLen ∧ a.ns.length ≤ maxLen ∧ a.zs.length ≤ maxLen) (n1 : rest.size ≤ maxLen) (n2 : (Lit.int .u16 c).wf = true) (w : World) (hV : VV w v0 a) :
    Calls Try.prog 5 #[v0, .string rest, .int .u16 c] w fun e w' => e = .returned (.bool true) ∧ Below w.heap.size w w' := by
  have HSh := Lib.hid (fun w => l12_shown w)
  obtain ⟨cut, rfl, hcut⟩ := nat_u16 c n2
  obtain ⟨b0, hb0⟩ : ∃ b0, heavyV a = b0 := ⟨_, rfl⟩
  have HH0 := Lib.hid (fun (wx : World) (h : Below w.heap.size w wx) => l12_heavy a v0 b0 wx hb0 (hV.below h))
  obtain ⟨s, er, hE⟩ : ∃ s er, encT a = (s, er) := ⟨_, _, rfl⟩
  have HEh := Lib.hid (fun (h40 : a.bl.length ≤ 40 ∧ a.ns.length ≤ 40 ∧ a.zs.length ≤ 40) (wx : World) (h : Below w.heap.size w wx) => h_Encode a v0 s er wx hE (hV.below h) hx.1 (by omega) (by omega) (by omega))
  have HVV := Lib.hid hV
  have HK := Lib.hid hx.1
  obtain ⟨e1, e2, e3, rfl, ⟨pb, cb, rfl⟩, ⟨pn, cn, rfl⟩, ⟨pz, cz, rfl⟩, sb, sn, sz⟩ := hV
  obtain ⟨B, hB⟩ : ∃ B, w.heap.size = B := ⟨_, rfl⟩
  have HBE := Lib.hid hB
  have KA0 := Lib.hid (Blk.newAt w B hB 27 (c := (cellsV a.id (.slice pb a.bl.length cb) (.slice pn a.ns.length cn) (.slice pz a.zs.length cz)).toArray) _ rfl)
  have HBa := Lib.hid ((Below.refl w.heap.size w).alloc (Nat.le_refl _) (.cells (cellsV a.id (.slice pb a.bl.length cb) (.slice pn a.ns.length cn) (.slice pz a.zs.length cz)).toArray 27))
  clear sb sn sz hx n2
  cases b0 with
  | true =>
    clear hb0 hE hcut n1
    go_enter Try.func5, Try.ntmps5
    go_wp2_with (first | (refine wpList_load_blkV rfl 27 _ rfl B rfl KA0.out Try.underlying27 rfl (by rw [size_ver]; rfl) ?_) | (go_at_call 8; (with_reducible refine (HH0.out _ HBa.out).mono ?_); rintro e w3 ⟨rfl, hb3⟩; have HBx := Lib.hid (HBa.out.trans (hb3.mono HBa.out.size)); have KAx := Lib.hid (KA0.out.below hb3 KA0.out.lt); clear hb3) | (go_at_call 9; (with_reducible refine (HSh.out _).mono ?_); rintro e w4 ⟨rfl, hb4⟩; have HB4 := Lib.hid (HBx.out.trans (hb4.mono HBx.out.size)); have KA4 := Lib.hid (KAx.out.below hb4 KAx.out.lt); clear hb4))
    go_ret
    exact ⟨rfl, by first | exact HB4.out | (have h := HB4.out; rw [hB] at h; exact h)⟩
  | false =>
    obtain ⟨h40, n40, z40, x100⟩ := heavyV_no.1 hb0
    have EH := Lib.hid (HEh.out ⟨h40, n40, z40⟩)
    have H40 := Lib.hid (show a.bl.length ≤ 1000000 ∧ a.ns.length ≤ 1000000 ∧ a.zs.length ≤ 1000000 by omega)
    clear hb0 h40 n40 z40 x100 HEh
    by_cases q0 : 200 < rest.size
    · have d0 : (200 : Int) < (rest.size : Int) := by omega
      clear q0 hE hcut n1
      go_enter Try.func5, Try.ntmps5
      go_wp2_with (first | (refine wpList_load_blkV rfl 27 _ rfl B rfl KA0.out Try.underlying27 rfl (by rw [size_ver]; rfl) ?_) | (go_at_call 8; (with_reducible refine (HH0.out _ HBa.out).mono ?_); rintro e w3 ⟨rfl, hb3⟩; have HBx := Lib.hid (HBa.out.trans (hb3.mono HBa.out.size)); have KAx := Lib.hid (KA0.out.below hb3 KA0.out.lt); clear hb3) | (go_at_call 9; (with_reducible refine (HSh.out _).mono ?_); rintro e w4 ⟨rfl, hb4⟩; have HB4 := Lib.hid (HBx.out.trans (hb4.mono HBx.out.size)); have KA4 := Lib.hid (KAx.out.below hb4 KAx.out.lt); clear hb4))
      go_ret
      exact ⟨rfl, by first | exact HB4.out | (have h := HB4.out; rw [hB] at h; exact h)⟩
    have d0 : ¬ (200 : Int) < (rest.size : Int) := by omega
    by_cases hm : mayH a.bl.length a.ns a.zs = true
    rotate_left
    · have hes : (⟨#[]⟩ : ByteArray) = s ∧ 1 = er := by
        unfold encT at hE
        rw [if_neg hm] at hE
        simpa using hE
      obtain ⟨rfl, rfl⟩ := hes
      clear hE hm q0 hcut n1
      go_enter Try.func5, Try.ntmps5
      go_wp2_with (first | (refine wpList_load_blkV rfl 27 _ rfl B rfl KA0.out Try.underlying27 rfl (by rw [size_ver]; rfl) ?_) | (go_at_call 8; (with_reducible refine (HH0.out _ HBa.out).mono ?_); rintro e w3 ⟨rfl, hb3⟩; have HBx := Lib.hid (HBa.out.trans (hb3.mono HBa.out.size)); have KAx := Lib.hid (KA0.out.below hb3 KA0.out.lt); clear hb3) | (go_at_call 9; (with_reducible refine (HSh.out _).mono ?_); rintro e w4 ⟨rfl, hb4⟩; have HB4 := Lib.hid (HBx.out.trans (hb4.mono HBx.out.size)); have KA4 := Lib.hid (KAx.out.below hb4 KAx.out.lt); clear hb4) | (refine wpList_load_blkV rfl 27 _ rfl B rfl KA4.out Try.underlying27 rfl (by rw [size_ver]; rfl) ?_) | (go_at_call 10; (with_reducible refine (EH.out _ HB4.out).mono ?_); rintro e w5 ⟨rfl, hb5⟩; have HB0 := Lib.hid (HB4.out.trans (hb5.mono HB4.out.size)); have KA5 := Lib.hid (KA4.out.below hb5 KA4.out.lt); clear hb5))
      go_ret
      exact ⟨rfl, by first | exact HB0.out | (have h := HB0.out; rw [hB] at h; exact h)⟩
    have hes : tx (verE a.ver) = s ∧ 0 = er := by
      unfold encT at hE
      rw [if_pos hm] at hE
      simpa using hE
    obtain ⟨hok, _, _⟩ := ver_okR HK.out hm
    have hrv := raw_ver HK.out hm
    obtain ⟨hz1, hz2⟩ := ver_small hok
    have hbys := ver_codes.bys a.ver hok
    obtain ⟨rfl, rfl⟩ := hes
    obtain ⟨z, hz⟩ : ∃ z, tx (verE a.ver) = z := ⟨_, rfl⟩
    have hsz : z.size = (verE a.ver).length := by rw [← hz]; exact tx_size _
    have hsl : sl z = verE a.ver := by rw [← hz]; exact sl_tx hbys
    simp only [hz] at EH
    rw [← hsz] at hz1 hz2
    have hz0 : z.size ≠ 0 := by omega
    have hz65 : z.size + rest.size ≤ 65536 := by omega
    obtain ⟨m, hm1, hmK⟩ : ∃ m : Nat, cut % z.size = m ∧ m < z.size := ⟨_, rfl, Nat.mod_lt _ (by omega)⟩
    have hT1 : tellA (sl (z ++ rest)) = (a, sl rest, 0) := by rw [sl_app, hsl, tell_back hok, hrv]
    have hT2 : decT (tellA (sl (z.extract 0 m))) = (noV, 40) := by
      rw [sl_head, hsl, tell_cut hok (by rw [← hsz]; exact hmK)]
      rfl
    have hT3 : decT (tellA (sl (z ++ ⟨#[120]⟩))) = (noV, 42) := by
      rw [sl_app, hsl, tell_back hok]
      rfl
    have s1 : (z ++ rest).size ≤ 65536 := by rw [ByteArray.size_append]; exact hz65
    have s2 : (z.extract 0 m).size ≤ 65536 := by rw [ByteArray.size_extract]; omega
    have s3 : (z ++ ⟨#[120]⟩).size ≤ 65536 := by
      rw [ByteArray.size_append]
      have : (⟨#[120]⟩ : ByteArray).size = 1 := rfl
      omega
    have Q1 := Lib.hid (fun wx => h_Read (z ++ rest) (a, sl rest, 0) wx s1 hT1)
    have Q2 := Lib.hid (fun wx => h_Decode (z.extract 0 m) (noV, 40) wx s2 hT2)
    have Q3 := Lib.hid (fun wx => h_Decode (z ++ ⟨#[120]⟩) (noV, 42) wx s3 hT3)
    clear hT1 hT2 hT3 s1 s2 s3 hok hrv hbys hsl hsz hE hm hz hz65 hz0
    unfold RdRet at Q1
    unfold DeRet at Q2 Q3
    dsimp only at *
    rw [tx_sl] at Q1
    have add1 := fun w' => run_string_add_sum (P := Try.prog) w' z rest (by omega)
    have add2 := fun w' => run_string_add_sum (P := Try.prog) w' z ⟨#[120]⟩ (by have : (⟨#[120]⟩ : ByteArray).size = 1 := rfl; omega)
    have ex1 : (cut : Int) % (z.size : Int) = (m : Int) := by rw [← hm1]; simp
    have ex2 : (cut : Int).tmod (z.size : Int) = (m : Int) := by rw [Int.tmod_eq_emod_of_nonneg (by omega)]; exact ex1
    have j1 : ((z.size : Int) == 0) = false := by rw [beq_eq_false_iff_ne]; omega
    have j2 : ¬ (z.size : Int) = 0 := by omega
    have j3 : (m : Int) ≤ (z.size : Int) := by omega
    have j4 : (m : Int).toNat = m := by omega
    have j5 : (0 : Int) ≤ (m : Int) := by omega
    have j6 : (z.size : Int) ≤ 20000 := by omega
    have j7 : (m : Int) ≤ 20000 := by omega
    have j8 : IntKind.i64.wrap (m : Int) = (m : Int) := IntWalk.i64_in _ (by omega)
    have j9 : (cut : Int) < 65536 := by omega
    have htx := txt_same rest
    generalize z ++ rest = Z1 at *
    generalize z ++ ⟨#[120]⟩ = Z2 at *
    obtain ⟨Z3, hZ3⟩ : ∃ Z3, z.extract 0 m = Z3 := ⟨_, rfl⟩
    rw [hZ3] at Q2
    have HZ3 := Lib.hid hZ3
    have JJ := Lib.hid (And.intro ex1 (And.intro ex2 (And.intro j1 (And.intro j2 (And.intro j3 (And.intro j4 (And.intro j5 (And.intro j6 (And.intro j7 (And.intro j8 j9))))))))))
    clear hZ3 ex1 ex2 j1 j2 j3 j4 j5 j6 j7 j8 j9
    clear hm1 hmK hz1 hz2 q0 hcut n1
    go_enter Try.func5, Try.ntmps5
    go_wp2_with (first | (refine wpList_load_blkV rfl 27 _ rfl B rfl KA0.out Try.underlying27 rfl (by rw [size_ver]; rfl) ?_) | (go_at_call 8; (with_reducible refine (HH0.out _ HBa.out).mono ?_); rintro e w3 ⟨rfl, hb3⟩; have HBx := Lib.hid (HBa.out.trans (hb3.mono HBa.out.size)); have KAx := Lib.hid (KA0.out.below hb3 KA0.out.lt); clear hb3) | (go_at_call 9; (with_reducible refine (HSh.out _).mono ?_); rintro e w4 ⟨rfl, hb4⟩; have HB4 := Lib.hid (HBx.out.trans (hb4.mono HBx.out.size)); have KA4 := Lib.hid (KAx.out.below hb4 KAx.out.lt); clear hb4) | (refine wpList_load_blkV rfl 27 _ rfl B rfl KA4.out Try.underlying27 rfl (by rw [size_ver]; rfl) ?_) | (go_at_call 10; (with_reducible refine (EH.out _ HB4.out).mono ?_); rintro e w5 ⟨rfl, hb5⟩; have HB0 := Lib.hid (HB4.out.trans (hb5.mono HB4.out.size)); have KA5 := Lib.hid (KA4.out.below hb5 KA4.out.lt); clear hb5))
    clear KA0 HBa HBx KAx HB4 KA4 EH HH0 HSh
    refine (Q1.out w5).mono ?_
    rintro e w11 ⟨v1, rfl, hv1, hb1⟩
    obtain ⟨C1, rfl, hl1, ho1⟩ := hv1.cells
    obtain ⟨N1, hN1⟩ : ∃ N, w11.heap.size = N := ⟨_, rfl⟩
    have k1 := Blk.newAt w11 N1 hN1 27 (c := zV.toArray) _ rfl
    have K1 := Lib.hid k1
    have hs1 := below_setRow ((Below.refl w11.heap.size w11).alloc (Nat.le_refl _) (.cells zV.toArray 27)) (show w11.heap.size ≤ N1 by omega) C1.toArray
    have HB1 := Lib.hid ((HB0.out.trans (hb1.mono HB0.out.size)).trans (hs1.mono (HB0.out.trans (hb1.mono HB0.out.size)).size))
    have a5 := KA5.out.below hb1 KA5.out.lt
    have KA5 := Lib.hid (a5.below hs1 a5.lt)
    have R1 := Lib.hid (k1.row C1 (by rw [hl1]; rfl))
    have V1 := Lib.hid (hv1.keep hs1).vv
    clear hb1 hv1 k1 hs1 Q1 a5
    obtain ⟨ex1, ex2, j1, j2, j3, j4, j5, j6, j7, j8, j9⟩ := JJ.out
    go_wp2_with (first | (refine wpList_alloc_n rfl 27 rfl N1 hN1 _ (alloc_ver _) ?_) | (refine wpList_store_blk rfl 27 _ _ rfl N1 C1 rfl rfl K1.out (by rw [size_ver, hl1]) (by rw [hl1]; rfl) ho1 ?_))
    clear K1 hN1
    generalize (w11.alloc (.cells zV.toArray 27)).setRow N1 C1.toArray = u1 at *
    rw [HZ3.out]
    clear ex1 ex2 j1 j2 j3 j4 j5 j6 j7 j8 j9 JJ
    refine (Q2.out u1).mono ?_
    rintro e w12 ⟨v2, rfl, hv2, hb2⟩
    obtain ⟨C2, rfl, hl2, ho2⟩ := hv2.cells
    obtain ⟨N2, hN2⟩ : ∃ N, w12.heap.size = N := ⟨_, rfl⟩
    have k2 := Blk.newAt w12 N2 hN2 27 (c := zV.toArray) _ rfl
    have K2 := Lib.hid k2
    have hs2 := below_setRow ((Below.refl w12.heap.size w12).alloc (Nat.le_refl _) (.cells zV.toArray 27)) (show w12.heap.size ≤ N2 by omega) C2.toArray
    have HB2 := Lib.hid ((HB1.out.trans (hb2.mono HB1.out.size)).trans (hs2.mono (HB1.out.trans (hb2.mono HB1.out.size)).size))
    have a5 := KA5.out.below hb2 KA5.out.lt
    have KA5 := Lib.hid (a5.below hs2 a5.lt)
    have V1 := Lib.hid ((V1.out.below hb2).below hs2)
    have r1 := R1.out.below hb2 R1.out.lt
    have R1 := Lib.hid (r1.below hs2 r1.lt)
    clear r1
    clear hb2 hv2 k2 hs2 Q2 a5
    go_wp2_with (first | (refine wpList_alloc_n rfl 27 rfl N2 hN2 _ (alloc_ver _) ?_) | (refine wpList_store_blk rfl 27 _ _ rfl N2 C2 rfl rfl K2.out (by rw [size_ver, hl2]) (by rw [hl2]; rfl) ho2 ?_))
    clear K2 hN2
    generalize (w12.alloc (.cells zV.toArray 27)).setRow N2 C2.toArray = u2 at *
    refine (Q3.out u2).mono ?_
    rintro e w13 ⟨v3, rfl, hv3, hb3⟩
    obtain ⟨C3, rfl, hl3, ho3⟩ := hv3.cells
    obtain ⟨N3, hN3⟩ : ∃ N, w13.heap.size = N := ⟨_, rfl⟩
    have k3 := Blk.newAt w13 N3 hN3 27 (c := zV.toArray) _ rfl
    have K3 := Lib.hid k3
    have hs3 := below_setRow ((Below.refl w13.heap.size w13).alloc (Nat.le_refl _) (.cells zV.toArray 27)) (show w13.heap.size ≤ N3 by omega) C3.toArray
    have HB3 := Lib.hid ((HB2.out.trans (hb3.mono HB2.out.size)).trans (hs3.mono (HB2.out.trans (hb3.mono HB2.out.size)).size))
    have a5 := KA5.out.below hb3 KA5.out.lt
    have KA5 := Lib.hid (a5.below hs3 a5.lt)
    have V1 := Lib.hid ((V1.out.below hb3).below hs3)
    have r1 := R1.out.below hb3 R1.out.lt
    have R1 := Lib.hid (r1.below hs3 r1.lt)
    clear r1
    clear hb3 hv3 k3 hs3 Q3 a5
    have QS1 := Lib.hid (hr_Same a a (.agg C1.toArray) (.agg (cellsV a.id (.slice pb a.bl.length cb) (.slice pn a.ns.length cn) (.slice pz a.zs.length cz)).toArray) true ((w13.alloc (.cells zV.toArray 27)).setRow N3 C3.toArray) (same_self a) V1.out (HVV.out.below HB3.out) HK.out HK.out H40.out.1 H40.out.2.1 H40.out.2.2)
    go_wp2_with (first | (refine wpList_alloc_n rfl 27 rfl N3 hN3 _ (alloc_ver _) ?_) | (refine wpList_store_blk rfl 27 _ _ rfl N3 C3 rfl rfl K3.out (by rw [size_ver, hl3]) (by rw [hl3]; rfl) ho3 ?_) | (refine wpList_load_blkV rfl 27 _ rfl N1 rfl R1.out Try.underlying27 rfl (by rw [size_ver, hl1]) ?_) | (refine wpList_load_blkV rfl 27 _ rfl B rfl KA5.out Try.underlying27 rfl (by rw [size_ver]; rfl) ?_) | (go_at_call 17; (with_reducible refine QS1.out.mono ?_); rintro e w9 ⟨rfl, hb9⟩; have HB9 := Lib.hid (HB3.out.trans (hb9.mono HB3.out.size)); clear hb9))
    go_ret
    exact ⟨by simp, by first | exact HB9.out | (have h := HB9.out; rw [hB] at h; exact h)⟩

set_option maxRecDepth 100000 in
theorem lifted (os : Os) (started : os.Started) (H : Type) (enc : TypeId × Value → H) :
    ReturnsInHanded {} Try.checked os 5 .any (Rows.headerBackSpec.pre6 enc Try.prog Try.f5 Rows.headerBackRow.domain false) (Rows.headerBackSpec.post enc Try.prog Try.f5 false true false false) := by
  refine returnsInHanded_of_change (C := Try.checked) own started (by kernel_rfl) Try.func5
    (ChangeSpec.witness6 (enc := enc) (C := Try.checked) false ⟨#[], #[.agg #[.int .u32 0, .slice none 0 0, .slice none 0 0, .slice none 0 0], .string ByteArray.empty, .int .u16 0], []⟩ 8 (by kernel_rfl) (by kernel_rfl) (by kernel_rfl) (by kernel_rfl)) ?_
  intro W base args ds gs before hval0 hW hcnd _
  have hval : ∀ (j : Nat) t v, Try.f5.params[j]? = some t → args[j]? = some v → Value.okWide Try.prog W .any base t v := hval0
  have hW' := hW
  obtain ⟨p, q, hA0, hV, rfl, hfz, hnd⟩ := hW
  have hA : DataW.TrodAll enc Try.prog W 0 (fun _ => true) true Try.f5.params.toList args.toList ds p := hA0
  rw [Try.params5] at hA hval
  obtain ⟨v0, vs0, d0, ds0, p0, q0, hargs, rfl, rfl, h0, r0⟩ := trodAll_cons hA
  obtain ⟨v1, vs1, d1, ds1, p1, q1, rfl, rfl, rfl, h1, r1⟩ := trodAll_cons r0
  obtain ⟨v2, vs2, d2, ds2, p2, q2, rfl, rfl, rfl, h2, r2⟩ := trodAll_cons r1
  obtain ⟨rfl, rfl, rfl⟩ := trodAll_nil r2
  obtain rfl : args = #[v0, v1, v2] := by cases args; simp_all
  obtain ⟨rfl, rfl⟩ := trodVars_none hV
  have k0 := h0
  have lt0 : ∀ x ∈ p0, x.block < W.heap.size := by obtain ⟨m, hm⟩ := k0; exact DataW.trod_lt m _ _ _ hm
  obtain ⟨l0, S0, n0⟩ := open_version (hval 0 27 v0 rfl rfl) h0
  obtain ⟨l1, rfl, rfl, rfl, n1⟩ := open_string Try.underlying9 (hval 1 9 v1 rfl rfl) h1
  obtain ⟨l2, rfl, rfl, rfl, n2⟩ := open_int Try.underlying40 (hval 2 40 v2 rfl rfl) h2
  clear hA0 hval0
  simp only [List.append_nil] at hW'
  refine (walk l0 v0 l1 l2 n0 n1 n2 W S0).mono fun e W' ⟨he, bel⟩ => ?_
  subst he
  exact ⟨_, rfl, _, _, _, [], _, [], hW', trodAll_mk1 (shut_bool Try.underlying4 _), (trodAll_cons_mk (Below.trod laidOut (by kernel_rfl) (of_decide_eq_true (by kernel_rfl)) k0 bel lt0) (trodAll_cons_mk (shut_string Try.underlying9 n1) (trodAll_cons_mk (shut_int Try.underlying40 n2) trodAll_mk0))), rfl, bel.frame _, fun h => by cases h⟩

theorem over : Rows.headerBackRow.holds Try.pinned (OpenSpec.ofChange Rows.headerBackSpec) :=
  OpenClaim.holds_of_wide 5 Try.f5 rfl rfl rfl rfl rfl rfl rfl ⟨rfl, rfl, rfl, rfl, rfl⟩ rfl rfl rfl rfl rfl (by kernel_rfl) Try.func5 (by kernel_rfl)
    (of_decide_eq_true (by kernel_rfl)) (by unfold Func.isWrapper; first | (rw [if_pos (by decide +kernel)]; kernel_rfl) | (rw [if_neg (by decide +kernel)]; exact ⟨rfl, rfl⟩))
    (fun os started H enc _ => lifted os started H enc)

theorem proved : Rows.HeaderBackSaid :=
  over
#print axioms proved
end Go.Proofs.Ytahfjfhiejhddaa.headerBack
