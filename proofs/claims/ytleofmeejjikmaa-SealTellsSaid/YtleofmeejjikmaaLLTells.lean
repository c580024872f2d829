/-
  For all keys, nonces and texts: how any bytes are sealed, what any bytes are opened to, the two keys and the nonce are the document's, or its error. Longer keys and texts than the bound are answered by the case shown alone. No condition.
-/
import Derived.Test.YtleofmeejjikmaaRows
import Derived.Test.YtleofmeejjikmaaLTwo
import Derived.Test.YtleofmeejjikmaaG2
import Derived.ShutString
import Derived.ChangeOld
namespace Go.Proofs.Ytleofmeejjikmaa.sealTells
open Go.ChangeShapes Go.WideShapes Go.ChangeAt Go.RowKit
open Go.ChangeMaps (open_string shut_string)
set_option linter.unusedVariables false

set_option maxHeartbeats 4000000 in
set_option maxRecDepth 100000 in
theorem walk (key : ByteArray) (nc : List Nat) (s t : ByteArray) (n0 : key.size ≤ maxLen) (n1 : nc.length = 16) (o1 : Bys nc) (n2 : s.size ≤ maxLen) (n3 : t.size ≤ maxLen) (w : World) :
    Calls Try.prog 3 #[.string key, .agg (ints .u8 (nn nc)).toArray, .string s, .string t] w fun e w' => e = .returned (.bool true) ∧ Below w.heap.size w w' := by
  have HS := Lib.hid (fun w => l5_shown w)
  have kb := (Below.refl w.heap.size w).alloc (Nat.le_refl _) (.cells (ints .u8 (nn nc)).toArray 23)
  by_cases h1 : 100 < key.size
  · have g1 : (100 : Int) < (key.size : Int) := by omega
    go_enter Try.func3, Try.ntmps3
    go_wp2_with (go_at_call 7; (with_reducible refine (HS.out _).mono ?_); rintro e w1 ⟨rfl, hb1⟩)
    go_ret
    exact ⟨rfl, kb.trans (hb1.mono kb.size)⟩
  have g1 : ¬ (100 : Int) < (key.size : Int) := by omega
  by_cases h2 : 300 < s.size
  · have g2 : (300 : Int) < (s.size : Int) := by omega
    go_enter Try.func3, Try.ntmps3
    go_wp2_with (go_at_call 7; (with_reducible refine (HS.out _).mono ?_); rintro e w1 ⟨rfl, hb1⟩)
    go_ret
    exact ⟨rfl, kb.trans (hb1.mono kb.size)⟩
  have g2 : ¬ (300 : Int) < (s.size : Int) := by omega
  by_cases h3 : 400 < t.size
  · have g3 : (400 : Int) < (t.size : Int) := by omega
    go_enter Try.func3, Try.ntmps3
    go_wp2_with (go_at_call 7; (with_reducible refine (HS.out _).mono ?_); rintro e w1 ⟨rfl, hb1⟩)
    go_ret
    exact ⟨rfl, kb.trans (hb1.mono kb.size)⟩
  have g3 : ¬ (400 : Int) < (t.size : Int) := by omega
  obtain ⟨x, er, hx⟩ : ∃ x er, openT key t = (x, er) := ⟨_, _, rfl⟩
  have HO := Lib.hid (fun w => l_Open key t w (by omega) (by omega) x er hx)
  have HRO := Lib.hid (fun w => r5_Open key t w (by omega) (by omega) x er hx)
  have hK := fun w => l_Keys key w (by omega)
  have hRK := fun w => r5_Keys key w (by omega)
  have hN := fun w => l_Nonce t w (by omega)
  have hRN := fun w => r5_Nonce t w (by omega)
  have hA := fun w => l_Seal key nc s w (by omega) n1 o1 (by omega)
  have hRA := fun w => r5_Seal key nc s w (by omega) n1 o1 (by omega)
  have lA : (keyA key).length = 32 := macN_len _ _
  have lB : (keyB key).length = 32 := macN_len _ _
  have lN := nonceN_len t
  generalize decide (16 ≤ t.size) = b16 at *
  generalize sealT key nc s = Z at *
  generalize keyA key = A at *
  generalize keyB key = B at *
  generalize nonceN t = N at *
  have eqA := run_eql_ints (P := Try.prog) w 29 5 32 .u8 Try.underlying29 Try.underlying5 sizeOf_u8 (nn A) (nn A) (by rw [nn_length, lA]) (by rw [nn_length, lA])
  have eqAA : ∀ w, (binOp .eql 29 (.agg (ints .u8 (nn A)).toArray) (.agg (ints .u8 (nn A)).toArray)).run Try.prog w = .ok (.bool true) w := fun w => by
    have h := run_eql_ints (P := Try.prog) w 29 5 32 .u8 Try.underlying29 Try.underlying5 sizeOf_u8 (nn A) (nn A) (by rw [nn_length, lA]) (by rw [nn_length, lA])
    rw [show (nn A == nn A) = true by simp] at h
    exact h
  have eqBB : ∀ w, (binOp .eql 29 (.agg (ints .u8 (nn B)).toArray) (.agg (ints .u8 (nn B)).toArray)).run Try.prog w = .ok (.bool true) w := fun w => by
    have h := run_eql_ints (P := Try.prog) w 29 5 32 .u8 Try.underlying29 Try.underlying5 sizeOf_u8 (nn B) (nn B) (by rw [nn_length, lB]) (by rw [nn_length, lB])
    rw [show (nn B == nn B) = true by simp] at h
    exact h
  have eqNN := eql_same N lN
  have txZ := txt_same Z
  have txx := txt_same x
  have HK := Lib.hid hK
  have HRK := Lib.hid hRK
  have HN := Lib.hid hN
  have HRN := Lib.hid hRN
  have HA := Lib.hid hA
  have HRA := Lib.hid hRA
  have LA := Lib.hid lA
  have LB := Lib.hid lB
  have LN := Lib.hid lN
  have L1 := Lib.hid n1
  have k0 := Lib.hid (Blk.new w 23 (ints .u8 (nn nc)))
  have kb := Lib.hid kb
  clear hx hK hRK hN hRN hA hRA lA lB lN n1 o1 eqA
  go_enter Try.func3, Try.ntmps3
  go_wp2_with fail
  refine (HS.out _).mono ?_
  rintro e w1 ⟨rfl, hb1⟩
  go_wp2_with fail
  refine (HO.out _).mono ?_
  rintro e w2 ⟨rfl, hb2⟩
  go_wp2_with fail
  refine (HRO.out _).mono ?_
  rintro e w3 ⟨rfl, hb3⟩
  go_wp2_with fail
  refine (HK.out _).mono ?_
  rintro e w4 ⟨rfl, hb4⟩
  have a1 := kb.out.trans (hb1.mono kb.out.size)
  have a2 := a1.trans (hb2.mono a1.size)
  have a3 := a2.trans (hb3.mono a2.size)
  have a4 := a3.trans (hb4.mono a3.size)
  have b1 := k0.out.below hb1 k0.out.lt
  have b2 := b1.below hb2 b1.lt
  have b3 := b2.below hb3 b2.lt
  have b4 := b3.below hb4 b3.lt
  obtain ⟨P1, Q2, M1, M2, Mb⟩ := two_hash w4 A B LA.out LB.out
  have J0 := b4.below Mb b4.lt
  have Jb := a4.trans (Mb.mono a4.size)
  have P1 := Lib.hid P1
  have Q2 := Lib.hid Q2
  have M1 := Lib.hid M1
  have M2 := Lib.hid M2
  have J0 := Lib.hid J0
  have Jb := Lib.hid Jb
  clear hb1 hb2 hb3 hb4 a1 a2 a3 a4 b1 b2 b3 b4 Mb
  go_wp2_with (first | (refine wpList_alloc_n rfl 29 rfl w4.heap.size rfl _ (alloc_hash _) ?_) | (refine wpList_alloc_n rfl 29 rfl (w4.heap.size + 1) (by simp) _ (alloc_hash _) ?_) | (refine wpList_store_blk rfl 29 _ _ rfl w4.heap.size (ints .u8 (nn A)) rfl rfl P1.out (by rw [size_hash, ints_length, nn_length, LA.out]) (by rw [ints_length, ints_length, nn_length, nn_length, LA.out]; rfl) (ints_one _ _) ?_) | (refine wpList_store_blk rfl 29 _ _ rfl (w4.heap.size + 1) (ints .u8 (nn B)) rfl rfl Q2.out (by rw [size_hash, ints_length, nn_length, LB.out]) (by rw [ints_length, ints_length, nn_length, nn_length, LB.out]; rfl) (ints_one _ _) ?_))
  refine (HRK.out _).mono ?_
  rintro e w5 ⟨rfl, hb5⟩
  have c0 := J0.out.below hb5 J0.out.lt
  have c1 := M1.out.below hb5 M1.out.lt
  have c2 := M2.out.below hb5 M2.out.lt
  have cb := Jb.out.trans (hb5.mono Jb.out.size)
  clear P1 Q2 M1 M2 J0 Jb hb5
  generalize w4.heap.size = y1 at *
  obtain ⟨P1, Q2, M1, M2, Mb⟩ := two_hash w5 A B LA.out LB.out
  have d0 := c0.below Mb c0.lt
  have d1 := c1.below Mb c1.lt
  have d2 := c2.below Mb c2.lt
  have db := cb.trans (Mb.mono cb.size)
  have P1 := Lib.hid P1
  have Q2 := Lib.hid Q2
  have M1 := Lib.hid M1
  have M2 := Lib.hid M2
  have d0 := Lib.hid d0
  have d1 := Lib.hid d1
  have d2 := Lib.hid d2
  have db := Lib.hid db
  clear c0 c1 c2 cb Mb
  go_wp2_with (first | (refine wpList_alloc_n rfl 29 rfl w5.heap.size rfl _ (alloc_hash _) ?_) | (refine wpList_alloc_n rfl 29 rfl (w5.heap.size + 1) (by simp) _ (alloc_hash _) ?_) | (refine wpList_store_blk rfl 29 _ _ rfl w5.heap.size (ints .u8 (nn A)) rfl rfl P1.out (by rw [size_hash, ints_length, nn_length, LA.out]) (by rw [ints_length, ints_length, nn_length, nn_length, LA.out]; rfl) (ints_one _ _) ?_) | (refine wpList_store_blk rfl 29 _ _ rfl (w5.heap.size + 1) (ints .u8 (nn B)) rfl rfl Q2.out (by rw [size_hash, ints_length, nn_length, LB.out]) (by rw [ints_length, ints_length, nn_length, nn_length, LB.out]; rfl) (ints_one _ _) ?_))
  refine (HN.out _).mono ?_
  rintro e w6 ⟨rfl, hb6⟩
  have e0 := d0.out.below hb6 d0.out.lt
  have e1 := d1.out.below hb6 d1.out.lt
  have e2 := d2.out.below hb6 d2.out.lt
  have e3 := M1.out.below hb6 M1.out.lt
  have e4 := M2.out.below hb6 M2.out.lt
  have eb := db.out.trans (hb6.mono db.out.size)
  clear P1 Q2 M1 M2 d0 d1 d2 db hb6
  generalize w5.heap.size = y2 at *
  obtain ⟨P3, M3, Mb⟩ := one_16 w6 23 N LN.out
  have f0 := e0.below Mb e0.lt
  have f1 := e1.below Mb e1.lt
  have f2 := e2.below Mb e2.lt
  have f3 := e3.below Mb e3.lt
  have f4 := e4.below Mb e4.lt
  have fb := eb.trans (Mb.mono eb.size)
  have P3 := Lib.hid P3
  have M3 := Lib.hid M3
  have f0 := Lib.hid f0
  have f1 := Lib.hid f1
  have f2 := Lib.hid f2
  have f3 := Lib.hid f3
  have f4 := Lib.hid f4
  have fb := Lib.hid fb
  clear e0 e1 e2 e3 e4 eb Mb
  go_wp2_with (first | (refine wpList_alloc_n rfl 23 rfl w6.heap.size rfl _ (alloc_b16 _) ?_) | (refine wpList_store_blk rfl 23 _ _ rfl w6.heap.size (ints .u8 (nn N)) rfl rfl P3.out (by rw [size_b16', nc_len LN.out]) (by rw [nc_len LN.out]; rfl) (ints_one _ _) ?_))
  refine (HRN.out _).mono ?_
  rintro e w7 ⟨rfl, hb7⟩
  have i0 := f0.out.below hb7 f0.out.lt
  have i1 := f1.out.below hb7 f1.out.lt
  have i2 := f2.out.below hb7 f2.out.lt
  have i3 := f3.out.below hb7 f3.out.lt
  have i4 := f4.out.below hb7 f4.out.lt
  have i5 := M3.out.below hb7 M3.out.lt
  have ib := fb.out.trans (hb7.mono fb.out.size)
  clear P3 M3 f0 f1 f2 f3 f4 fb hb7
  generalize w6.heap.size = y3 at *
  obtain ⟨P4, M4, Mb⟩ := one_16 w7 34 N LN.out
  have m0 := i0.below Mb i0.lt
  have m1 := i1.below Mb i1.lt
  have m2 := i2.below Mb i2.lt
  have m3 := i3.below Mb i3.lt
  have m4 := i4.below Mb i4.lt
  have m5 := i5.below Mb i5.lt
  have mb := ib.trans (Mb.mono ib.size)
  have P4 := Lib.hid P4
  have M4 := Lib.hid M4
  have m0 := Lib.hid m0
  have m1 := Lib.hid m1
  have m2 := Lib.hid m2
  have m3 := Lib.hid m3
  have m4 := Lib.hid m4
  have m5 := Lib.hid m5
  have mb := Lib.hid mb
  clear i0 i1 i2 i3 i4 i5 ib Mb
  go_wp2_with (first | (refine wpList_alloc_n rfl 34 rfl w7.heap.size rfl _ (alloc_b16r _) ?_) | (refine wpList_store_blk rfl 34 _ _ rfl w7.heap.size (ints .u8 (nn N)) rfl rfl P4.out (by rw [size_b16r, nc_len LN.out]) (by rw [nc_len LN.out]; rfl) (ints_one _ _) ?_))
  have q0 := m0.out
  have q1 := m1.out
  have q2 := m2.out
  have q3 := m3.out
  have q4 := m4.out
  have q5 := m5.out
  have q6 := M4.out
  have qb := mb.out
  clear P4 M4 m0 m1 m2 m3 m4 m5 mb
  generalize World.setRow (World.alloc w7 _) _ _ = w8 at *
  generalize w7.heap.size = y4 at *
  have v0 := Lib.hid (fun wx (hx : NewBut w8 wx) => (q0.below hx q0.lt).whole)
  have v1 := Lib.hid (fun wx (hx : NewBut w8 wx) => (q1.below hx q1.lt).whole)
  have v2 := Lib.hid (fun wx (hx : NewBut w8 wx) => (q2.below hx q2.lt).whole)
  have v3 := Lib.hid (fun wx (hx : NewBut w8 wx) => (q3.below hx q3.lt).whole)
  have v4 := Lib.hid (fun wx (hx : NewBut w8 wx) => (q4.below hx q4.lt).whole)
  have v5 := Lib.hid (fun wx (hx : NewBut w8 wx) => (q5.below hx q5.lt).whole)
  have v6 := Lib.hid (fun wx (hx : NewBut w8 wx) => (q6.below hx q6.lt).whole)
  have HA1 := Lib.hid (inBut (wr := w8) HA.out)
  have HRA1 := Lib.hid (inBut (wr := w8) HRA.out)
  clear q0 q1 q2 q3 q4 q5 q6
  refine region_quiet_tail (C := NewBut w8) 39 mixed (by kernel_rfl) (show Below _ _ _ from (Below.refl _ _).drew) ?_
  simp only [List.take_succ_cons, List.take_zero, List.drop_succ_cons, List.drop_zero]
  repeat (first | (refine wpQuiet_load_row rfl 23 _ rfl w.heap.size 0 rfl (ints .u8 (nn nc)) v0.out Try.underlying23 rfl (by rw [size_b16', nc_len L1.out]) ?_) | (refine wpQuiet_load_row rfl 29 _ rfl y1 0 rfl (ints .u8 (nn A)) v1.out Try.underlying29 rfl (by rw [size_hash, ints_length, nn_length, LA.out]) ?_) | (refine wpQuiet_load_row rfl 29 _ rfl (y1 + 1) 0 rfl (ints .u8 (nn B)) v2.out Try.underlying29 rfl (by rw [size_hash, ints_length, nn_length, LB.out]) ?_) | (refine wpQuiet_load_row rfl 29 _ rfl y2 0 rfl (ints .u8 (nn A)) v3.out Try.underlying29 rfl (by rw [size_hash, ints_length, nn_length, LA.out]) ?_) | (refine wpQuiet_load_row rfl 29 _ rfl (y2 + 1) 0 rfl (ints .u8 (nn B)) v4.out Try.underlying29 rfl (by rw [size_hash, ints_length, nn_length, LB.out]) ?_) | (refine wpQuiet_load_row rfl 23 _ rfl y3 0 rfl (ints .u8 (nn N)) v5.out Try.underlying23 rfl (by rw [size_b16', nc_len LN.out]) ?_) | (refine wpQuiet_load_row rfl 34 _ rfl y4 0 rfl (ints .u8 (nn N)) v6.out underlying_b16r rfl (by rw [size_b16r, nc_len LN.out]) ?_) | (refine wpQuiet_step (fun K' hK' => ?_); go_simp; first | (refine ⟨_, fun _ _ => rfl, hK' _ ?_⟩; clear hK' K') | ((with_reducible refine ⟨_, fun wx hx => HA1.out wx hx, hK' _ ?_⟩); clear hK' K') | ((with_reducible refine ⟨_, fun wx hx => HRA1.out wx hx, hK' _ ?_⟩); clear hK' K')))
  refine wpQuiet_nil ?_
  intro w9 hb9
  go_wp2
  go_ret
  exact ⟨rfl, qb.trans (hb9.mono qb.size)⟩

set_option maxRecDepth 100000 in
theorem lifted (os : Os) (started : os.Started) (H : Type) (enc : TypeId × Value → H) :
    ReturnsInHanded {} Try.checked os 3 .any (Rows.sealTellsSpec.pre6 enc Try.prog Try.f3 Rows.sealTellsRow.domain false) (Rows.sealTellsSpec.post enc Try.prog Try.f3 false true false false) := by
  refine returnsInHanded_of_change (C := Try.checked) own started (by kernel_rfl) Try.func3
    (ChangeSpec.witness6 (enc := enc) (C := Try.checked) false ⟨#[], #[.string ByteArray.empty, .agg (ints .u8 (List.replicate 16 0)).toArray, .string ByteArray.empty, .string ByteArray.empty], []⟩ 8 (by kernel_rfl) (by kernel_rfl) (by kernel_rfl) (by kernel_rfl)) ?_
  intro W base args ds gs before hval0 hW hcnd _
  have hval : ∀ (j : Nat) t v, Try.f3.params[j]? = some t → args[j]? = some v → Value.okWide Try.prog W .any base t v := hval0
  have hW' := hW
  obtain ⟨p, q, hA0, hV, rfl, hfz, hnd⟩ := hW
  have hA : DataW.TrodAll enc Try.prog W 0 (fun _ => true) true Try.f3.params.toList args.toList ds p := hA0
  rw [Try.params3] at hA hval
  obtain ⟨v0, vs0, d0, ds0, p0, q0, hargs, rfl, rfl, h0, r0⟩ := trodAll_cons hA
  obtain ⟨v1, vs1, d1, ds1, p1, q1, rfl, rfl, rfl, h1, r1⟩ := trodAll_cons r0
  obtain ⟨v2, vs2, d2, ds2, p2, q2, rfl, rfl, rfl, h2, r2⟩ := trodAll_cons r1
  obtain ⟨v3, vs3, d3, ds3, p3, q3, rfl, rfl, rfl, h3, r3⟩ := trodAll_cons r2
  obtain ⟨rfl, rfl, rfl⟩ := trodAll_nil r3
  obtain rfl : args = #[v0, v1, v2, v3] := by cases args; simp_all
  obtain ⟨rfl, rfl⟩ := trodVars_none hV
  obtain ⟨l0, rfl, rfl, rfl, n0⟩ := open_string Try.underlying9 (hval 0 9 v0 rfl rfl) h0
  have k1 := h1
  have lt1 : ∀ x ∈ p1, x.block < W.heap.size := by obtain ⟨m, hm⟩ := k1; exact DataW.trod_lt m _ _ _ hm
  obtain ⟨cs1, hcs1, _, _⟩ : ∃ cs, v1 = .agg cs ∧ cs.size = Try.prog.cellsOf 23 ∧ Row.okWide Try.prog W .any base 23 cs := by
    have := hval 1 23 v1 rfl rfl
    simpa [Value.okWide, Try.underlying23] using this
  obtain ⟨l1, hl1, n1, o1⟩ := open_bys Try.underlying23 Try.underlying5 cells_u8 cells_b16 cs1 hcs1 h1
  obtain ⟨l2, rfl, rfl, rfl, n2⟩ := open_string Try.underlying9 (hval 2 9 v2 rfl rfl) h2
  obtain ⟨l3, rfl, rfl, rfl, n3⟩ := open_string Try.underlying9 (hval 3 9 v3 rfl rfl) h3
  clear hcs1
  subst hl1
  clear hA0 hval0
  simp only [List.append_nil] at hW'
  refine (walk l0 l1 l2 l3 n0 n1 o1 n2 n3 W).mono fun e W' ⟨he, bel⟩ => ?_
  subst he
  exact ⟨_, rfl, _, _, _, [], _, [], hW', trodAll_mk1 (shut_bool Try.underlying4 _), (trodAll_cons_mk (shut_string Try.underlying9 n0) (trodAll_cons_mk (Below.trod laidOut (by kernel_rfl) (of_decide_eq_true (by kernel_rfl)) k1 bel lt1) (trodAll_cons_mk (shut_string Try.underlying9 n2) (trodAll_cons_mk (shut_string Try.underlying9 n3) trodAll_mk0)))), rfl, bel.frame _, fun h => by cases h⟩

theorem over : Rows.sealTellsRow.holds Try.pinned (OpenSpec.ofChange Rows.sealTellsSpec) :=
  OpenClaim.holds_of_wide 3 Try.f3 rfl rfl rfl rfl rfl rfl rfl ⟨rfl, rfl, rfl, rfl, rfl⟩ rfl rfl rfl rfl rfl (by kernel_rfl) Try.func3 (by kernel_rfl)
    (of_decide_eq_true (by kernel_rfl)) (by unfold Func.isWrapper; first | (rw [if_pos (by decide +kernel)]; kernel_rfl) | (rw [if_neg (by decide +kernel)]; exact ⟨rfl, rfl⟩))
    (fun os started H enc _ => lifted os started H enc)

theorem proved : Rows.SealTellsSaid :=
  over
#print axioms proved
end Go.Proofs.Ytleofmeejjikmaa.sealTells
