/-
  For any two requests: one that may be has bytes, one that may not has none; two that may be have the same bytes just if they are the same. Requests whose versions are beyond the document's bound are answered by the case shown alone. No condition.
-/
import Derived.Test.YtloogjdojojehaaRows
import Derived.Test.YtloogjdojojehaaMF
import Derived.Test.YtloogjdojojehaaMG
import Derived.ShutString
import Derived.ChangeOld
namespace Go.Proofs.Ytloogjdojojehaa.wireRequests
open Go.ChangeShapes Go.WideShapes Go.ChangeAt Go.RowKit
open Go.ChangeMaps (open_string shut_string)
set_option linter.unusedVariables false

set_option maxHeartbeats 4000000 in
set_option maxRecDepth 100000 in
theorem walk (a : ReqU RawV) (va : Value) (b : ReqU RawV) (vb : Value) (ia : ReqIn a) (ib : ReqIn b) (w : World) (hA : ReqTold w va a) (hB : ReqTold w vb b) :
    Calls Try.prog 4 #[va, vb] w fun e w' => e = .returned (.bool true) ∧ Below w.heap.size w w' := by
  obtain ⟨R, rfl, hRl, -, -, -, -, hVA⟩ := req_cells hA
  obtain ⟨Q, rfl, hQl, -, -, -, -, hVB⟩ := req_cells hB
  have k0 := (Blk.newAt w w.heap.size rfl 40 (c := R.toArray) R rfl).alloc (.cells Q.toArray 40)
  have k1 := Blk.newAt (w.alloc (.cells R.toArray 40)) (w.heap.size + 1) (by simp) 40 (c := Q.toArray) Q rfl
  have kb := ((Below.refl w.heap.size w).alloc (Nat.le_refl _) (.cells R.toArray 40)).alloc (by simp) (.cells Q.toArray 40)
  have HP : Hid (∀ wx, Blk wx w.heap.size 40 R → ∀ i x, (R.drop 4)[i]? = some x → wx.cell? ((⟨w.heap.size, 4, none⟩ : Addr).add i) = some x) := Lib.hid fun wx h i x hx => by
    rw [Addr.add_mid, h.cell]
    rw [List.getElem?_drop] at hx
    exact hx
  have HQ : Hid (∀ wx, Blk wx (w.heap.size + 1) 40 Q → ∀ i x, (Q.drop 4)[i]? = some x → wx.cell? ((⟨w.heap.size + 1, 4, none⟩ : Addr).add i) = some x) := Lib.hid fun wx h i x hx => by
    rw [Addr.add_mid, h.cell]
    rw [List.getElem?_drop] at hx
    exact hx
  have HD : Hid ((R.drop 4).length = 4 ∧ (Q.drop 4).length = 4) := Lib.hid ⟨by rw [List.length_drop, hRl], by rw [List.length_drop, hQl]⟩
  have HRL : Hid (R.length = 8 ∧ Q.length = 8) := Lib.hid ⟨hRl, hQl⟩
  obtain ⟨ma, hma⟩ : ∃ t, muchV a.ver = t := ⟨_, rfl⟩
  obtain ⟨mb, hmb⟩ : ∃ t, muchV b.ver = t := ⟨_, rfl⟩
  have HMA := Lib.hid (l18_much a.ver (.agg (R.drop 4).toArray) ma _ hma (hVA.below kb))
  have HMB := Lib.hid (fun wx (h : Below w.heap.size w wx) => l18_much b.ver (.agg (Q.drop 4).toArray) mb wx hmb (hVB.below h))
  have HSh := Lib.hid l18_shown
  have K0 := Lib.hid k0
  have K1 := Lib.hid k1
  have KB := Lib.hid kb
  have HA := Lib.hid hA
  have HB := Lib.hid hB
  have IA := Lib.hid ia
  have IB := Lib.hid ib
  have HMa := Lib.hid hma
  have HMb := Lib.hid hmb
  have HPA := Lib.hid (HP.out _ k0)
  clear k0 k1 kb hA hB ia ib hma hmb hVA hVB hRl hQl
  go_enter Try.func4, Try.ntmps4
  go_wp2_with (first | (go_skip) | (refine wpList_load_addrV rfl 30 _ rfl ⟨w.heap.size, 4, none⟩ rfl (R.drop 4) HPA.out Try.underlying30 rfl (by rw [size_ver, HD.out.1]) ?_))
  refine HMA.out.mono ?_
  rintro e w2 ⟨rfl, b2⟩
  have B2 := Lib.hid (KB.out.trans (b2.mono KB.out.size))
  have K02 := Lib.hid (K0.out.below b2 K0.out.lt)
  have K12 := Lib.hid (K1.out.below b2 K1.out.lt)
  have HQA := Lib.hid (HQ.out _ K12.out)
  clear b2 HMA K0 K1 KB
  cases ma with
  | true =>
    go_wp2_with (first | (go_skip) | fail)
    refine (HSh.out _).mono ?_
    rintro e w3 ⟨rfl, b3⟩
    have B3 := Lib.hid (B2.out.trans (b3.mono B2.out.size))
    clear b3
    go_wp2
    go_ret
    exact ⟨rfl, B3.out⟩
  | false =>
  go_wp2_with (first | (go_skip) | (refine wpList_load_addrV rfl 30 _ rfl ⟨w.heap.size + 1, 4, none⟩ rfl (Q.drop 4) HQA.out Try.underlying30 rfl (by rw [size_ver, HD.out.2]) ?_))
  refine (HMB.out _ B2.out).mono ?_
  rintro e w3 ⟨rfl, b3⟩
  have B3 := Lib.hid (B2.out.trans (b3.mono B2.out.size))
  have K03 := Lib.hid (K02.out.below b3 K02.out.lt)
  have K13 := Lib.hid (K12.out.below b3 K12.out.lt)
  clear b3 HMB K02 K12 B2 HQA
  cases mb with
  | true =>
    go_wp2_with (first | (go_skip) | fail)
    refine (HSh.out _).mono ?_
    rintro e w4 ⟨rfl, b4⟩
    have B4 := Lib.hid (B3.out.trans (b4.mono B3.out.size))
    clear b4
    go_wp2
    go_ret
    exact ⟨rfl, B4.out⟩
  | false =>
  have hsa := ver_S IA.out.2.2.2.2 HMa.out
  have hsb := ver_S IB.out.2.2.2.2 HMb.out
  obtain ⟨z, hz1, hz2, hz3⟩ := put_any a IA.out hsa
  obtain ⟨y, hy1, hy2, hy3⟩ := put_any b IB.out hsb
  obtain ⟨α, hα⟩ : ∃ t, mayBeR a = t := ⟨_, rfl⟩
  obtain ⟨β, hβ⟩ : ∃ t, mayBeR b = t := ⟨_, rfl⟩
  rw [hα] at hz2 hz3
  rw [hβ] at hy2 hy3
  have Z1 := Lib.hid hz1
  have Z2 := Lib.hid hz2
  have Z3 := Lib.hid hz3
  have Y1 := Lib.hid hy1
  have Y2 := Lib.hid hy2
  have Y3 := Lib.hid hy3
  have HAL := Lib.hid (fun wx (h : Below w.heap.size w wx) => mr_MayBe a (.agg R.toArray) α wx hα (HA.out.below h) hsa)
  have HSQ := Lib.hid (fun wx (h : Below w.heap.size w wx) => mr_SameQ a b (.agg R.toArray) (.agg Q.toArray) (sameQ a b) wx rfl (HA.out.below h) (HB.out.below h) hsa hsb)
  clear hz1 hz2 hz3 hy1 hy2 hy3 hα hβ hsa hsb
  go_wp2_with (first | (go_skip) | fail)
  refine (HSh.out _).mono ?_
  rintro e w4 ⟨rfl, b4⟩
  have B4 := Lib.hid (B3.out.trans (b4.mono B3.out.size))
  have K04 := Lib.hid (K03.out.below b4 K03.out.lt)
  have K14 := Lib.hid (K13.out.below b4 K13.out.lt)
  clear b4 K03 K13 B3
  go_wp2_with (first | (go_skip) | (refine wpList_load_blkW rfl 40 _ rfl w.heap.size rfl K04.out Try.underlying40 rfl (by rw [size_req, HRL.out.1]) ?_))
  refine (Z1.out _ _ (HA.out.below B4.out)).mono ?_
  rintro e w5 ⟨rfl, b5⟩
  have B5 := Lib.hid (B4.out.trans (b5.mono B4.out.size))
  have K05 := Lib.hid (K04.out.below b5 K04.out.lt)
  have K15 := Lib.hid (K14.out.below b5 K14.out.lt)
  clear b5 K04 K14 B4
  go_wp2_with (first | (go_skip) | (refine wpList_load_blkW rfl 40 _ rfl (w.heap.size + 1) rfl K15.out Try.underlying40 rfl (by rw [size_req, HRL.out.2]) ?_))
  refine (Y1.out _ _ (HB.out.below B5.out)).mono ?_
  rintro e w6 ⟨rfl, b6⟩
  have B6 := Lib.hid (B5.out.trans (b6.mono B5.out.size))
  have K06 := Lib.hid (K05.out.below b6 K05.out.lt)
  have K16 := Lib.hid (K15.out.below b6 K15.out.lt)
  clear b6 K05 K15 B5
  have HA6 := Lib.hid (HAL.out _ B6.out)
  cases α with
  | false =>
    have t1 : z.toList.isEmpty = true := tx_none (by rw [Z3.out rfl]; rfl)
    go_wp2_with (first | (go_skip) | (refine wpList_load_blkW rfl 40 _ rfl w.heap.size rfl K06.out Try.underlying40 rfl (by rw [size_req, HRL.out.1]) ?_))
    refine HA6.out.mono ?_
    rintro e w7 ⟨rfl, b7⟩
    have B7 := Lib.hid (B6.out.trans (b7.mono B6.out.size))
    clear b7
    go_wp2_with (first | (go_skip) | fail)
    go_ret
    exact ⟨rfl, B7.out⟩
  | true =>
  obtain ⟨xa, hxa, hea, hza⟩ := Z2.out rfl
  have t1 : z.toList.isEmpty = false := by rw [hza]; exact tx_some (reqE_pos xa)
  have HXA := Lib.hid (And.intro hxa (And.intro hea hza))
  clear hxa hea hza
  go_wp2_with (first | (go_skip) | (refine wpList_load_blkW rfl 40 _ rfl w.heap.size rfl K06.out Try.underlying40 rfl (by rw [size_req, HRL.out.1]) ?_))
  refine HA6.out.mono ?_
  rintro e w7 ⟨rfl, b7⟩
  have B7 := Lib.hid (B6.out.trans (b7.mono B6.out.size))
  have K07 := Lib.hid (K06.out.below b7 K06.out.lt)
  have K17 := Lib.hid (K16.out.below b7 K16.out.lt)
  clear b7 HA6 K06 K16 B6
  cases β with
  | false =>
    have t2 : y.toList.isEmpty = true := tx_none (by rw [Y3.out rfl]; rfl)
    go_wp2_with (first | (go_skip) | fail)
    go_ret
    exact ⟨rfl, B7.out⟩
  | true =>
  obtain ⟨xb, hxb, heb, hzb⟩ := Y2.out rfl
  have t2 : y.toList.isEmpty = false := by rw [hzb]; exact tx_some (reqE_pos xb)
  obtain ⟨c, hc⟩ : ∃ t, sameQ a b = t := ⟨_, rfl⟩
  have t3 : (z.toList == y.toList) = c := by
    rw [HXA.out.2.2, hzb, same_bytes HXA.out.1 hxb, HXA.out.2.1, heb]
    exact hc
  rw [hc] at HSQ
  have HS7 := Lib.hid (HSQ.out _ B7.out)
  clear hxb heb hzb hc HSQ
  go_wp2_with (first | (go_skip) | (refine wpList_load_blkW rfl 40 _ rfl w.heap.size rfl K07.out Try.underlying40 rfl (by rw [size_req, HRL.out.1]) ?_) | (refine wpList_load_blkW rfl 40 _ rfl (w.heap.size + 1) rfl K17.out Try.underlying40 rfl (by rw [size_req, HRL.out.2]) ?_))
  refine HS7.out.mono ?_
  rintro e w8 ⟨rfl, b8⟩
  have B8 := Lib.hid (B7.out.trans (b8.mono B7.out.size))
  clear b8
  cases c
  · go_wp2_with (first | (go_skip) | fail)
    go_ret
    exact ⟨rfl, B8.out⟩
  · go_wp2_with (first | (go_skip) | fail)
    go_ret
    exact ⟨rfl, B8.out⟩
set_option maxRecDepth 100000 in
theorem lifted (os : Os) (started : os.Started) (H : Type) (enc : TypeId × Value → H) :
    ReturnsInHanded {} Try.checked os 4 .any (Rows.wireRequestsSpec.pre6 enc Try.prog Try.f4 Rows.wireRequestsRow.domain false) (Rows.wireRequestsSpec.post enc Try.prog Try.f4 false true false false) := by
  refine returnsInHanded_of_change (C := Try.checked) own started (by kernel_rfl) Try.func4
    (ChangeSpec.witness6 (enc := enc) (C := Try.checked) false ⟨#[], #[.agg #[.int .i64 0, .int .u32 0, .int .i64 0, .int .u32 0, .int .u32 0, .slice none 0 0, .slice none 0 0, .slice none 0 0], .agg #[.int .i64 0, .int .u32 0, .int .i64 0, .int .u32 0, .int .u32 0, .slice none 0 0, .slice none 0 0, .slice none 0 0]], []⟩ 8 (by kernel_rfl) (by kernel_rfl) (by kernel_rfl) (by kernel_rfl)) ?_
  intro W base args ds gs before hval0 hW hcnd _
  have hval : ∀ (j : Nat) t v, Try.f4.params[j]? = some t → args[j]? = some v → Value.okWide Try.prog W .any base t v := hval0
  have hW' := hW
  obtain ⟨p, q, hA0, hV, rfl, hfz, hnd⟩ := hW
  have hA : DataW.TrodAll enc Try.prog W 0 (fun _ => true) true Try.f4.params.toList args.toList ds p := hA0
  rw [Try.params4] at hA hval
  obtain ⟨v0, vs0, d0, ds0, p0, q0, hargs, rfl, rfl, h0, r0⟩ := trodAll_cons hA
  obtain ⟨v1, vs1, d1, ds1, p1, q1, rfl, rfl, rfl, h1, r1⟩ := trodAll_cons r0
  obtain ⟨rfl, rfl, rfl⟩ := trodAll_nil r1
  obtain rfl : args = #[v0, v1] := by cases args; simp_all
  obtain ⟨rfl, rfl⟩ := trodVars_none hV
  have k0 := h0
  have lt0 : ∀ x ∈ p0, x.block < W.heap.size := by obtain ⟨m, hm⟩ := k0; exact DataW.trod_lt m _ _ _ hm
  obtain ⟨l0, S0, n0⟩ := open_req (hval 0 40 v0 rfl rfl) h0
  have k1 := h1
  have lt1 : ∀ x ∈ p1, x.block < W.heap.size := by obtain ⟨m, hm⟩ := k1; exact DataW.trod_lt m _ _ _ hm
  obtain ⟨l1, S1, n1⟩ := open_req (hval 1 40 v1 rfl rfl) h1
  clear hA0 hval0
  simp only [List.append_nil] at hW'
  refine (walk l0 v0 l1 v1 n0 n1 W S0 S1).mono fun e W' ⟨he, bel⟩ => ?_
  subst he
  exact ⟨_, rfl, _, _, _, [], _, [], hW', trodAll_mk1 (shut_bool Try.underlying4 _), (trodAll_cons_mk (Below.trod laidOut (by kernel_rfl) (of_decide_eq_true (by kernel_rfl)) k0 bel lt0) (trodAll_cons_mk (Below.trod laidOut (by kernel_rfl) (of_decide_eq_true (by kernel_rfl)) k1 bel lt1) trodAll_mk0)), rfl, bel.frame _, fun h => by cases h⟩

theorem over : Rows.wireRequestsRow.holds Try.pinned (OpenSpec.ofChange Rows.wireRequestsSpec) :=
  OpenClaim.holds_of_wide 4 Try.f4 rfl rfl rfl rfl rfl rfl rfl ⟨rfl, rfl, rfl, rfl, rfl⟩ rfl rfl rfl rfl rfl (by kernel_rfl) Try.func4 (by kernel_rfl)
    (of_decide_eq_true (by kernel_rfl)) (by unfold Func.isWrapper; first | (rw [if_pos (by decide +kernel)]; kernel_rfl) | (rw [if_neg (by decide +kernel)]; exact ⟨rfl, rfl⟩))
    (fun os started H enc _ => lifted os started H enc)

theorem proved : Rows.WireRequestsSaid :=
  over
#print axioms proved
end Go.Proofs.Ytloogjdojojehaa.wireRequests
