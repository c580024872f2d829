/-
  For all keys, nonces, texts and cuts: what was sealed is opened by its key, is 48 bytes longer, and begins by its nonce; its beginnings that are too short are opened to nothing. Longer keys and texts than the bound are answered by the case shown alone. No condition.
-/
import Derived.Test.YtleofmeejjikmaaRows
import Derived.Test.YtleofmeejjikmaaLShown
import Derived.Test.YtleofmeejjikmaaG2
import Derived.ShutString
import Derived.ChangeOld
namespace Go.Proofs.Ytleofmeejjikmaa.sealBack
open Go.ChangeShapes Go.WideShapes Go.ChangeAt Go.RowKit
open Go.ChangeMaps (open_string shut_string)
set_option linter.unusedVariables false

set_option maxHeartbeats 2000000 in
set_option maxRecDepth 100000 in
theorem walk (key : ByteArray) (nc : List Nat) (s : ByteArray) (x3 : Int) (n0 : key.size ≤ maxLen) (n1 : nc.length = 16) (o1 : Bys nc) (n2 : s.size ≤ maxLen) (n3 : (Lit.int .u8 x3).wf = true) (w : World) :
    Calls Try.prog 4 #[.string key, .agg (ints .u8 (nn nc)).toArray, .string s, .int .u8 x3] w fun e w' => e = .returned (.bool true) ∧ Below w.heap.size w w' := by
  obtain ⟨c, rfl, hc⟩ := nat_u8 x3 n3
  have HS := Lib.hid (fun w => l5_shown w)
  have kb := (Below.refl w.heap.size w).alloc (Nat.le_refl _) (.cells (ints .u8 (nn nc)).toArray 23)
  clear n3
  by_cases h1 : 100 < key.size
  · have g1 : (100 : Int) < (key.size : Int) := by omega
    go_enter Try.func4, Try.ntmps4
    go_wp2_with (go_at_call 7; (with_reducible refine (HS.out _).mono ?_); rintro e w1 ⟨rfl, hb1⟩)
    go_ret
    exact ⟨rfl, kb.trans (hb1.mono kb.size)⟩
  have g1 : ¬ (100 : Int) < (key.size : Int) := by omega
  by_cases h2 : 400 < s.size
  · have g2 : (400 : Int) < (s.size : Int) := by omega
    go_enter Try.func4, Try.ntmps4
    go_wp2_with (go_at_call 7; (with_reducible refine (HS.out _).mono ?_); rintro e w1 ⟨rfl, hb1⟩)
    go_ret
    exact ⟨rfl, kb.trans (hb1.mono kb.size)⟩
  have g2 : ¬ (400 : Int) < (s.size : Int) := by omega
  obtain ⟨m, hm, hm1⟩ : ∃ m : Nat, c % 48 = m ∧ m < 48 := ⟨_, rfl, Nat.mod_lt _ (by decide)⟩
  have e1 : (c : Int) % 48 = (m : Int) := by omega
  have e2 : (m : Int).toNat = m := by omega
  have e3 : (0 : Int) ≤ (m : Int) := by omega
  have hz := sealT_size key s n1
  have e4 : (m : Int) ≤ ((sealT key nc s).size : Int) := by omega
  have e5 : ((sealT key nc s).size : Int) = (s.size : Int) + 48 := by omega
  have eN := nonce_seal key s n1 o1
  have hxs : openT key ((sealT key nc s).extract 0 m) = (⟨#[]⟩, 40) := by
    unfold openT
    rw [if_pos (by rw [ByteArray.size_extract]; omega)]
  have HA := Lib.hid (fun w => l_Seal key nc s w (by omega) n1 o1 (by omega))
  have HB := Lib.hid (fun w => l_Open key (sealT key nc s) w (by omega) (by omega) _ _ (open_seal key s n1 o1))
  have HC := Lib.hid (fun w => l_Open key ((sealT key nc s).extract 0 m) w (by omega) (by rw [ByteArray.size_extract]; omega) _ _ hxs)
  have hN := fun w => l_Nonce (sealT key nc s) w (by omega)
  rw [eN, show decide (16 ≤ (sealT key nc s).size) = true by simp; omega] at hN
  have HN := Lib.hid hN
  have HL := Lib.hid n1
  have k0 := Lib.hid (Blk.new w 23 (ints .u8 (nn nc)))
  have heq := eql_same nc n1
  have htx := txt_same s
  clear hxs hN eN hz n1 o1
  generalize sealT key nc s = t at *
  have t1 : IntKind.i64.wrap ((s.size : Int) + 48) = (s.size : Int) + 48 := IntWalk.i64_in _ (by omega)
  go_enter Try.func4, Try.ntmps4
  go_wp2_with fail
  refine (HS.out _).mono ?_
  rintro e w1 ⟨rfl, hb1⟩
  have j0 := k0.out.below hb1 k0.out.lt
  have jb := kb.trans (hb1.mono kb.size)
  have j0' := Lib.hid j0
  go_wp2_with (first | (refine wpList_load_blk rfl 23 _ rfl _ rfl j0'.out Try.underlying23 rfl (by rw [size_b16', nc_len HL.out]) ?_) | (go_at_call 14; (with_reducible refine (HA.out _).mono ?_); rintro e w2 ⟨rfl, hb2⟩) | (go_at_call 8; (with_reducible refine (HB.out _).mono ?_); rintro e w3 ⟨rfl, hb3⟩) | (go_at_call 12; (with_reducible refine (HN.out _).mono ?_); rintro e w4 ⟨rfl, hb4⟩; have a2 := jb.trans (hb2.mono jb.size); have a3 := a2.trans (hb3.mono a2.size); have a4 := a3.trans (hb4.mono a3.size); have c2 := j0.below hb2 j0.lt; have c3 := c2.below hb3 c2.lt; have c4 := c3.below hb4 c3.lt; have l4 := c4.lt; have K := Lib.hid (Blk.new w4 23 (ints .u8 (nn (zerN 16)))); have K2 := Lib.hid ((Blk.new w4 23 (ints .u8 (nn (zerN 16)))).row (ints .u8 (nn nc)) (by rw [nc_len HL.out]; rfl)); have K3 := Lib.hid ((c4.alloc (.cells (ints .u8 (nn (zerN 16))).toArray 23)).rowOther (g := w4.heap.size) (by omega) (ints .u8 (nn nc)).toArray); have Kb := below_setRow (a4.alloc a4.size (.cells (ints .u8 (nn (zerN 16))).toArray 23)) (b := w4.heap.size) a4.size (ints .u8 (nn nc)).toArray; clear c2 c3 c4 hb2 hb3 hb4) | (refine wpList_alloc_n rfl 23 rfl w4.heap.size rfl _ (alloc_b16 _) ?_) | (refine wpList_store_blk rfl 23 _ _ rfl w4.heap.size (ints .u8 (nn nc)) rfl rfl K.out (by rw [size_b16', nc_len HL.out]) (by rw [nc_len HL.out]; rfl) (ints_one _ _) ?_))
  refine (HC.out _).mono ?_
  rintro e w5 ⟨rfl, hb5⟩
  have r2 := Lib.hid (K2.out.below hb5 K2.out.lt)
  have r3 := Lib.hid (K3.out.below hb5 K3.out.lt)
  go_wp2_with (first | (refine wpList_load_blkG rfl 23 _ rfl w4.heap.size rfl r2.out Try.underlying23 rfl (by rw [size_b16', nc_len HL.out]) ?_) | (refine wpList_load_blkG rfl 23 _ rfl w.heap.size rfl r3.out Try.underlying23 rfl (by rw [size_b16', nc_len HL.out]) ?_))
  go_ret
  exact ⟨rfl, Kb.trans (hb5.mono Kb.size)⟩

set_option maxRecDepth 100000 in
theorem lifted (os : Os) (started : os.Started) (H : Type) (enc : TypeId × Value → H) :
    ReturnsInHanded {} Try.checked os 4 .any (Rows.sealBackSpec.pre6 enc Try.prog Try.f4 Rows.sealBackRow.domain false) (Rows.sealBackSpec.post enc Try.prog Try.f4 false true false false) := by
  refine returnsInHanded_of_change (C := Try.checked) own started (by kernel_rfl) Try.func4
    (ChangeSpec.witness6 (enc := enc) (C := Try.checked) false ⟨#[], #[.string ByteArray.empty, .agg (ints .u8 (List.replicate 16 0)).toArray, .string ByteArray.empty, .int .u8 0], []⟩ 8 (by kernel_rfl) (by kernel_rfl) (by kernel_rfl) (by kernel_rfl)) ?_
  intro W base args ds gs before hval0 hW hcnd _
  have hval : ∀ (j : Nat) t v, Try.f4.params[j]? = some t → args[j]? = some v → Value.okWide Try.prog W .any base t v := hval0
  have hW' := hW
  obtain ⟨p, q, hA0, hV, rfl, hfz, hnd⟩ := hW
  have hA : DataW.TrodAll enc Try.prog W 0 (fun _ => true) true Try.f4.params.toList args.toList ds p := hA0
  rw [Try.params4] at hA hval
  obtain ⟨v0, vs0, d0, ds0, p0, q0, hargs, rfl, rfl, h0, r0⟩ := trodAll_cons hA
  obtain ⟨v1, vs1, d1, ds1, p1, q1, rfl, rfl, rfl, h1, r1⟩ := trodAll_cons r0
  obtain ⟨v2, vs2, d2, ds2, p2, q2, rfl, rfl, rfl, h2, r2⟩ := trodAll_cons r1
  obtain ⟨v3, vs3, d3, ds3, p3, q3, rfl, rfl, rfl, h3, r3⟩ := trodAll_cons r2
  obtain ⟨rfl, rfl, rfl⟩ := trodAll_nil r3
  obtain rfl : args = #[v0, v1, v2, v3] := by cases args; simp_all
  obtain ⟨rfl, rfl⟩ := trodVars_none hV
  obtain ⟨l0, rfl, rfl, rfl, n0⟩ := open_string Try.underlying9 (hval 0 9 v0 rfl rfl) h0
  have k1 := h1
  have lt1 : ∀ x ∈ p1, x.block < W.heap.size := by obtain ⟨m, hm⟩ := k1; exact DataW.trod_lt m _ _ _ hm
  obtain ⟨cs1, hcs1, _, _⟩ : ∃ cs, v1 = .agg cs ∧ cs.size = Try.prog.cellsOf 23 ∧ Row.okWide Try.prog W .any base 23 cs := by
    have := hval 1 23 v1 rfl rfl
    simpa [Value.okWide, Try.underlying23] using this
  obtain ⟨l1, hl1, n1, o1⟩ := open_bys Try.underlying23 Try.underlying5 cells_u8 cells_b16 cs1 hcs1 h1
  obtain ⟨l2, rfl, rfl, rfl, n2⟩ := open_string Try.underlying9 (hval 2 9 v2 rfl rfl) h2
  obtain ⟨l3, rfl, rfl, rfl, n3⟩ := open_int Try.underlying5 (hval 3 5 v3 rfl rfl) h3
  clear hcs1
  subst hl1
  clear hA0 hval0
  simp only [List.append_nil] at hW'
  refine (walk l0 l1 l2 l3 n0 n1 o1 n2 n3 W).mono fun e W' ⟨he, bel⟩ => ?_
  subst he
  exact ⟨_, rfl, _, _, _, [], _, [], hW', trodAll_mk1 (shut_bool Try.underlying4 _), (trodAll_cons_mk (shut_string Try.underlying9 n0) (trodAll_cons_mk (Below.trod laidOut (by kernel_rfl) (of_decide_eq_true (by kernel_rfl)) k1 bel lt1) (trodAll_cons_mk (shut_string Try.underlying9 n2) (trodAll_cons_mk (shut_int Try.underlying5 n3) trodAll_mk0)))), rfl, bel.frame _, fun h => by cases h⟩

theorem over : Rows.sealBackRow.holds Try.pinned (OpenSpec.ofChange Rows.sealBackSpec) :=
  OpenClaim.holds_of_wide 4 Try.f4 rfl rfl rfl rfl rfl rfl rfl ⟨rfl, rfl, rfl, rfl, rfl⟩ rfl rfl rfl rfl rfl (by kernel_rfl) Try.func4 (by kernel_rfl)
    (of_decide_eq_true (by kernel_rfl)) (by unfold Func.isWrapper; first | (rw [if_pos (by decide +kernel)]; kernel_rfl) | (rw [if_neg (by decide +kernel)]; exact ⟨rfl, rfl⟩))
    (fun os started H enc _ => lifted os started H enc)

theorem proved : Rows.SealBackSaid :=
  over
#print axioms proved
end Go.Proofs.Ytleofmeejjikmaa.sealBack
