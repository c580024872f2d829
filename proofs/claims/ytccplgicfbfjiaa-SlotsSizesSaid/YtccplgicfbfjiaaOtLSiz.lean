/-
  For all numbers: a text may have as many bytes as a slot has room for, and no more. No condition.
-/
import Derived.Test.YtccplgicfbfjiaaRows
import Derived.Test.YtccplgicfbfjiaaOgShw
import Derived.Test.YtccplgicfbfjiaaOgThe
import Derived.Test.YtccplgicfbfjiaaG1
import Derived.Test.YtccplgicfbfjiaaG3
import Derived.Test.YtccplgicfbfjiaaG4
import Derived.Maps.AppendAt
import Derived.IntWalk
import Derived.BigQuiet
import Derived.ShutString
import Derived.ChangeOld
namespace Go.Proofs.Ytccplgicfbfjiaa.slotsSizes
open Go.ChangeShapes Go.WideShapes Go.ChangeAt Go.RowKit
open Go.ChangeMaps (open_string shut_string)
set_option linter.unusedVariables false

def cntB (j : Nat) : List Nat := (List.range j).map (· % 256)
theorem cnt_succ (j : Nat) : cntB (j + 1) = cntB j ++ [j % 256] := by unfold cntB; rw [List.range_succ, List.map_append]; rfl
theorem cnt_len (j : Nat) : (cntB j).length = j := by simp [cntB]
theorem cnt_bys (j : Nat) : Bys (cntB j) := Bys.of fun x hx => by
  obtain ⟨i, _, rfl⟩ := List.mem_map.1 hx
  omega
def sliceN : Value → Nat | .slice _ n _ => n | _ => 0
set_option maxHeartbeats 4000000 in
set_option maxRecDepth 100000 in
theorem walkK (K : SlotKit2) (y z : Int) (hy : (Lit.int .u8 y).wf = true) (hz : (Lit.int .u8 z).wf = true) (w : World) :
    Calls Try.prog 5 #[.int .u8 y, .int .u8 z] w fun e w' => e = .returned (.bool true) ∧ Below w.heap.size w w' := by
  have HSh := Lib.hid (fun w => l16_shown K.old w)
  obtain ⟨na, rfl, hna⟩ := nat_u8 y hy
  obtain ⟨nc, rfl, hnc⟩ := nat_u8 z hz
  clear hy hz
  have w0 : IntKind.i64.wrap (na : Int) = (na : Int) := IntWalk.i64_in _ (by omega)
  have w1 : IntKind.i64.wrap (nc : Int) = (nc : Int) := IntWalk.i64_in _ (by omega)
  obtain ⟨r, hr⟩ : ∃ r, na % 40 = r := ⟨_, rfl⟩
  have e1 : (na : Int).tmod 40 = (r : Int) := by rw [Int.tmod_eq_emod_of_nonneg (by omega)]; omega
  obtain ⟨N, hN⟩ : ∃ N, 1 + r = N := ⟨_, rfl⟩
  have e2 : (1 : Int) + (r : Int) = (N : Int) := by omega
  have hN40 : N ≤ 40 := by omega
  have hN1 : 1 ≤ N := by omega
  obtain ⟨q, hq⟩ : ∃ q, nc % 30 = q := ⟨_, rfl⟩
  have e3 : (nc : Int).tmod 30 = (q : Int) := by rw [Int.tmod_eq_emod_of_nonneg (by omega)]; omega
  obtain ⟨m, hm⟩ : ∃ m, 1 + q = m := ⟨_, rfl⟩
  have e4 : (1 : Int) + (q : Int) = (m : Int) := by omega
  have e5 : IntKind.i64.wrap ((1 : Int) + (q : Int)) = (m : Int) := by rw [e4]; exact IntWalk.i64_in _ (by omega)
  have e7 : IntKind.i64.wrap (m : Int) = (m : Int) := IntWalk.i64_in _ (by omega)
  have e6 : IntKind.i64.wrap (q : Int) = (q : Int) := IntWalk.i64_in _ (by omega)
  have hm30 : m ≤ 30 := by omega
  have hm1 : 1 ≤ m := by omega
  obtain ⟨k, hk⟩ : ∃ k, slSize N = k := ⟨_, rfl⟩
  have hk0 : k ≤ 1016 ∧ 18 ≤ k := by rw [← hk]; unfold slSize; omega
  have hmn : (if (1016 : Int) < (32 : Int) * (N : Int) - 14 then (1016 : Int) else (32 : Int) * (N : Int) - 14) = (k : Int) := by
    rw [← hk]
    unfold slSize
    split <;> omega
  -- the text
  obtain ⟨s, hs⟩ : ∃ s, tx (cntB k) = s := ⟨_, rfl⟩
  have hsl : sl s = cntB k := by rw [← hs, sl_tx (cnt_bys k)]
  have hsz : s.size = k := by rw [← hs, tx_size, cnt_len]
  have hF32 := full_size ⟨#[]⟩
  obtain ⟨FU, hFU⟩ : ∃ FU, fullT ⟨#[]⟩ = FU := ⟨_, rfl⟩
  rw [hFU] at hF32
  obtain ⟨G, hG⟩ : ∃ G, FU.extract 0 m = G := ⟨_, rfl⟩
  have hGz : G.size = m := by rw [← hG, ByteArray.size_extract, hF32]; omega
  obtain ⟨L, hL⟩ : ∃ L, s ++ G = L := ⟨_, rfl⟩
  have hLz : L.size = k + m := by rw [← hL, ByteArray.size_append, hsz, hGz]
  have hadd := fun w' => run_string_add_sum (P := Try.prog) w' s G (by rw [hGz]; omega)
  rw [hL] at hadd
  have hFl := l16_full ⟨#[]⟩
  rw [hFU] at hFl
  -- the disk
  have n0 := dkj_new (n := 100) (by decide)
  have m0 : mayS (newD 100) ((1 : Nat) : Int) (N : Int) := ⟨by decide, by omega, by omega, by simp [newD]; omega⟩
  have i0 := sl_new (m := 100) (fr := 1) (k := N) (by omega)
  have i1 := sl_save i0 (by omega) (by decide) (s := sl s) (sl_bys s) (by rw [sl_len, hsz, hk]; exact Nat.le_refl _)
  have n1 := (dkj_save n0 (fr := 1) (k := N) (by omega) (by simp [newD]; omega) (sl_bys s)).more (k' := 60000) (by decide)
  have l1 := sv_len (newD 100) 1 N (sl s)
  have g0 := svG_on n0 m0 (sl s)
  have hv0 : svE N (sl s).length = 0 := by unfold svE; rw [sl_len, hsz, hk, if_pos (Nat.le_refl _)]
  rw [hv0] at g0
  obtain ⟨d1, hd1⟩ : ∃ d1, svD (newD 100) 1 N (sl s) = d1 := ⟨_, rfl⟩
  rw [hd1] at g0 i1 n1 l1
  have m1 : mayS d1 ((1 : Nat) : Int) (N : Int) := by unfold mayS at m0 ⊢; rw [l1]; exact m0
  have ld1 := ldG_some (off_j n1) m1 (by have := i1.load; rw [if_neg (by decide)] at this; exact this)
  have g1 := svG_on n1 m1 (sl L)
  have hv1 : svE N (sl L).length = 90 ∧ svD d1 1 N (sl L) = d1 := by
    unfold svE svD
    rw [sl_len, hLz, hk, if_neg (by omega), if_neg (by omega)]
    exact ⟨rfl, rfl⟩
  rw [hv1.1, hv1.2] at g1
  have nx0 : mayS (newD 100) ((1 : Nat) : Int) (N : Int) → slNext (newD 100) ((1 : Nat) : Int).toNat ((N : Nat) : Int).toNat < 2 ^ 64 := fun _ => by rw [Int.toNat_natCast, Int.toNat_natCast, i0.next]; decide
  have nx1 : mayS d1 ((1 : Nat) : Int) (N : Int) → slNext d1 ((1 : Nat) : Int).toNat ((N : Nat) : Int).toNat < 2 ^ 64 := fun _ => by rw [Int.toNat_natCast, Int.toNat_natCast, i1.next]; decide
  have HN := Lib.hid (d_New_yes 100 w w.heap.size (by decide) (by decide) (Nat.le_refl _))
  have HSZ := Lib.hid (fun wx => K.size N wx hN1 (by omega) k hk)
  have HS0 := Lib.hid (fun (wx : World) (D : Nat) (F : Nat → Prop) (h : DkF w.heap.size wx D (newD 100) F) (hw : w.heap.size ≤ wx.heap.size) => K.save h (n0.n.more (by decide)) hw ((1 : Nat) : Int) (N : Int) (by decide) (wf_small N (by omega)) s (by omega) nx0 0 d1 g0)
  have HL1 := Lib.hid (fun (wx : World) (D : Nat) (F : Nat → Prop) (h : DkF w.heap.size wx D d1 F) (hw : w.heap.size ≤ wx.heap.size) => K.load h n1.n hw ((1 : Nat) : Int) (N : Int) (by decide) (wf_small N (by omega)) s 1 0 ld1)
  have HS1 := Lib.hid (fun (wx : World) (D : Nat) (F : Nat → Prop) (h : DkF w.heap.size wx D d1 F) (hw : w.heap.size ≤ wx.heap.size) => K.save h n1.n hw ((1 : Nat) : Int) (N : Int) (by decide) (wf_small N (by omega)) L (by omega) nx1 90 d1 g1)
  have HMN := Lib.hid hmn
  have HSS := Lib.hid hs
  have HFL := Lib.hid hFl
  have HGG := Lib.hid hG
  have b1 : (N : Int) ≤ 40 := by omega
  have b2 : (1 : Int) ≤ (N : Int) := by omega
  have b3 : (k : Int) ≤ 1016 := by omega
  have b4 : (m : Int) ≤ 32 := by omega
  have b5 : (0 : Int) ≤ (m : Int) := by omega
  have b6 : (m : Int) ≤ (FU.size : Int) := by omega
  have HKB := Lib.hid hk0
  have hsame := txt_same s
  obtain ⟨i0', hi0, hz0, hz1, hz2⟩ := info_parts info_u8
  clear n0 m0 i0 i1 n1 l1 g0 hv0 hd1 m1 ld1 g1 hv1 nx0 nx1 hN40 hN1 hr hN hq hm hk hk0 hmn hs hsl hsz hF32 hFU hG hGz hL hLz hFl hna hnc hm30 hm1
  go_enter Try.func5, Try.ntmps5
  go_wp2_with fail
  refine HN.out.mono ?_
  rintro e v1 ⟨D, F1, rfl, r1, c1, _⟩
  have R1 := Lib.hid r1
  have B1 := Lib.hid c1
  clear r1 c1
  unfold ptD
  go_wp2_with fail
  (with_reducible refine (HSh.out _).mono ?_)
  rintro e v2 ⟨rfl, c2⟩
  have R2 := Lib.hid (R1.out.below c2)
  have B2 := Lib.hid (B1.out.trans (c2.mono B1.out.size))
  clear c2
  go_wp2_with fail
  (with_reducible refine (HSZ.out _).mono ?_)
  rintro e v3 ⟨rfl, c3⟩
  have R3 := Lib.hid (R2.out.below c3)
  have B3 := Lib.hid (B2.out.trans (c3.mono B2.out.size))
  clear c3
  have qe := Blk.new' v3 5 (c := #[]) (ints .u8 (nn [] ++ [])) rfl
  have qo := OwnB.ofBlk (base := w.heap.size) (cap := 0) [] qe B3.out.size rfl (Nat.zero_le _)
  have qb := B3.out.alloc B3.out.size (.cells #[] 5)
  have qr := R3.out.below ((Below.refl v3.heap.size v3).alloc (Nat.le_refl _) (.cells #[] 5))
  clear qe
  go_wp2_with (refine wpList_min2 rfl _ _ 3 rfl _ _ (k : Int) rfl rfl HMN.out ?_)
  generalize World.alloc v3 (.cells #[] 5) = v4 at *
  go_loopw [8] (fun v wr => ∃ (j : Nat) (p : Option Addr) (cap : Nat), v = .slice p j cap ∧ OwnB wr w.heap.size 5 (.slice p j cap) (nn (cntB j)) ∧ j ≤ k ∧ DkF w.heap.size wr D (newD 100) F1 ∧ Below w.heap.size w wr) (fun v _ => k - sliceN v)
  case atStart => exact ⟨0, _, 0, rfl, qo, Nat.zero_le _, qr, qb⟩
  case round =>
    obtain ⟨j, p, cap, rfl, go, hj, gr, gb⟩ := hrel
    clear qo qb qr
    by_cases hlt : j < k
    · have d1' : (j : Int) < (k : Int) := by omega
      obtain ⟨jb, hjb⟩ : ∃ jb : Int, jb = (((j % 256 : Nat)) : Int) := ⟨_, rfl⟩
      have hw8 : IntKind.u8.wrap (j : Int) = jb := by rw [IntKind.wrap_u8, hjb]; omega
      have hsn := cnt_succ j
      have hll : (nn (cntB j)).length = j := by rw [nn_length, cnt_len]
      have hrow : (wr.alloc (.cells #[.int .u8 jb] 5)).ownsRow w.heap.size 5 1 (.slice p j cap) j (ints .u8 (nn (cntB j))) := by
        have := go.alloc (.cells #[.int .u8 jb] 5)
        unfold OwnB at this
        rw [hll] at this
        exact this
      have hnew : ∀ jj u, [Value.int .u8 jb][jj]? = some u → (wr.alloc (.cells #[.int .u8 jb] 5)).cell? ((⟨wr.heap.size, 0, none⟩ : Addr).add jj) = some u := fun jj u h => by
        rw [Addr.add_mid]
        exact (Blk.new' wr 5 [Value.int .u8 jb] rfl).whole jj u h
      have hone : ∀ u ∈ [Value.int .u8 jb], u.oneCell' = true := by simp [Value.oneCell']
      have h63 : j + 1 ≤ maxLen := by have := HKB.out; simp [maxLen]; omega
      have hbyy : (j + 1) * 1 ≤ 140737488355328 := by have := HKB.out; omega
      have hbs := gb.size
      have hbase : w.heap.size ≤ (wr.alloc (.cells #[.int .u8 jb] 5)).heap.size := by simp; omega
      have hgl := fun i hi => (go.lt i hi).1
      have kw := gb.alloc hbs (.cells #[.int .u8 jb] 5)
      have kr := gr.below ((Below.refl wr.heap.size wr).alloc (Nat.le_refl _) (.cells #[.int .u8 jb] 5))
      have hnf := kr.notTy (by decide) (by decide) (by decide) hrow
      have HRow := Lib.hid hrow
      have HNew := Lib.hid hnew
      have HOne := Lib.hid hone
      have H63 := Lib.hid h63
      have HBY := Lib.hid hbyy
      have HBS := Lib.hid hbase
      have HLL := Lib.hid hll
      have HSN := Lib.hid hsn
      have Hgl := Lib.hid hgl
      have HKR := Lib.hid kr
      have HNF := Lib.hid hnf
      have HLT := Lib.hid hlt
      clear hrow hnew hone h63 hbyy hbase hll gb gr hgl hsn kr hnf hlt hj
      generalize cntB j = LJ at *
      have HJB := Lib.hid hjb
      clear hjb
      go_wp2_with (at_builtin; refine wpList_append_own_at _ rfl _ _ 24 rfl w.heap.size 5 i0' (.int .u8 0) 1 1 Try.underlying24 hi0 hz0 hz1 hz2 rfl (by decide) _ j _ rfl HRow.out ⟨wr.heap.size, 0, none⟩ 1 1 [.int .u8 jb] rfl rfl HNew.out HOne.out H63.out HBY.out HBS.out ?_; intro v5 w5 hown5 hg5 hnil5 hat5; obtain ⟨p5, cap5, rfl⟩ := own_slice hown5)
      go_roundw
      case rel =>
        have o5 : OwnB w5 w.heap.size 5 (.slice p5 (j + 1) cap5) (nn (cntB (j + 1))) := by
          rw [HSN.out]
          unfold OwnB
          rw [nn_app, List.length_append, HLL.out, ints_app]
          rw [show nn [j % 256] = [jb] by rw [HJB.out]; rfl]
          exact hown5
        exact ⟨j + 1, p5, cap5, rfl, o5, HLT.out, HKR.out.grown hg5 HNF.out, kw.grown hg5 kw.size (fun i hi => Hgl.out i hi)⟩
      case measure => (have := HLT.out; simp [sliceN]; omega)
    · obtain rfl : j = k := by omega
      have d1' : ¬ (j : Int) < (j : Int) := by omega
      have HOW := Lib.hid go
      have HTL : Hid (bs (nn (cntB j)) = s) := Lib.hid HSS.out
      have R4 := Lib.hid gr
      have B4 := Lib.hid gb
      clear go gr gb hlt hj
      generalize nn (cntB j) = LB at *
      go_wp2_with (refine wpList_string_own rfl 24 9 5 _ rfl w.heap.size _ LB rfl Try.underlying24 Try.underlying5 Try.underlying9 HOW.out ?_; rw [HTL.out])
      refine (HS0.out wr D F1 R4.out B4.out.size).mono ?_
      rintro e v5 ⟨rfl, F5, r5, t5⟩
      have HOW5 := Lib.hid (R4.out.ownB t5 HOW.out)
      have R5 := Lib.hid r5
      have B5 := Lib.hid (B4.out.trans t5.b)
      clear r5 t5 HOW
      go_wp2_with fail
      refine (HL1.out v5 D F5 R5.out B5.out.size).mono ?_
      rintro e v6 ⟨rfl, F6, r6, t6⟩
      have HOW6 := Lib.hid (R5.out.ownB t6 HOW5.out)
      have R6 := Lib.hid r6
      have B6 := Lib.hid (B5.out.trans t6.b)
      clear r6 t6 HOW5
      have hown : ∀ wx, NewBut v6 wx → OwnB wx w.heap.size 5 (.slice p j cap) LB := fun wx hx => HOW6.out.below hx (fun i hi => (HOW6.out.lt i hi).2)
      have hfl : ∀ wx, NewBut v6 wx → Calls Try.prog 15 #[.string ⟨#[]⟩] wx fun e w' => e = .returned (.string FU) ∧ NewBut v6 w' := fun wx hx => (HFL.out wx (by decide)).mono fun _ _ ⟨e1, e2⟩ => ⟨e1, hx.trans (e2.mono hx.size)⟩
      have HON := Lib.hid hown
      have HFN := Lib.hid hfl
      have hGG := HGG.out
      clear hown hfl
      go_wp2_with fail
      refine region_quiet_tail (C := NewBut v6) 9 mixed (by kernel_rfl) (show Below _ _ _ from (Below.refl _ _).drew) ?_
      simp only [List.take_succ_cons, List.take_zero, List.drop_succ_cons, List.drop_zero]
      repeat (first | (refine wpQuiet_string_ownP rfl 24 9 5 _ rfl w.heap.size _ LB rfl Try.underlying24 Try.underlying5 Try.underlying9 HON.out ?_; rw [HTL.out]) | go_big_quiet_step (fail) | (refine wpQuiet_step (fun K' hK' => ?_); go_simp; first | (refine hK' _ ?_; clear hK' K') | (refine ⟨_, fun _ _ => rfl, hK' _ ?_⟩; clear hK' K') | ((with_reducible refine ⟨_, fun wx hx => HFN.out wx hx, hK' _ ?_⟩); clear hK' K')))
      refine wpQuiet_nil ?_
      intro v7 hb7
      have HOW7 := Lib.hid (HON.out v7 hb7)
      have R7 := Lib.hid (R6.out.below hb7)
      have B7 := Lib.hid (B6.out.trans (Below.mono hb7 B6.out.size))
      clear hb7 HOW6 HON HFN
      go_wp2_with fail
      refine (HS1.out v7 D F6 R7.out B7.out.size).mono ?_
      rintro e v8 ⟨rfl, F8, r8, t8⟩
      have HOW8 := Lib.hid (R7.out.ownB t8 HOW7.out)
      have R8 := Lib.hid r8
      have B8 := Lib.hid (B7.out.trans t8.b)
      clear r8 t8 HOW7
      go_wp2_with fail
      refine (HL1.out v8 D F8 R8.out B8.out.size).mono ?_
      rintro e v9 ⟨rfl, F9, r9, t9⟩
      have HOW9 := Lib.hid (R8.out.ownB t9 HOW8.out)
      have B9 := Lib.hid (B8.out.trans t9.b)
      clear r9 t9 HOW8
      go_wp2_with (refine wpList_string_ownG rfl 24 9 5 _ rfl w.heap.size _ LB rfl Try.underlying24 Try.underlying5 Try.underlying9 HOW9.out ?_; rw [HTL.out])
      go_ret
      exact ⟨rfl, B9.out⟩
theorem walk (y z : Int) (h0 : (Lit.int .u8 y).wf = true) (h1 : (Lit.int .u8 z).wf = true) (w : World) :
    Calls Try.prog 5 #[.int .u8 y, .int .u8 z] w fun e w' => e = .returned (.bool true) ∧ Below w.heap.size w w' := walkK theSlots y z h0 h1 w
set_option maxRecDepth 100000 in
theorem lifted (os : Os) (started : os.Started) (H : Type) (enc : TypeId × Value → H) :
    ReturnsInHanded {} Try.checked os 5 .any (Rows.slotsSizesSpec.pre6 enc Try.prog Try.f5 Rows.slotsSizesRow.domain false) (Rows.slotsSizesSpec.post enc Try.prog Try.f5 false true false false) := by
  refine returnsInHanded_of_change (C := Try.checked) own started (by kernel_rfl) Try.func5
    (ChangeSpec.witness6 (enc := enc) (C := Try.checked) false ⟨#[], #[.int .u8 0, .int .u8 0], []⟩ 8 (by kernel_rfl) (by kernel_rfl) (by kernel_rfl) (by kernel_rfl)) ?_
  intro W base args ds gs before hval0 hW hcnd _
  have hval : ∀ (j : Nat) t v, Try.f5.params[j]? = some t → args[j]? = some v → Value.okWide Try.prog W .any base t v := hval0
  have hW' := hW
  obtain ⟨p, q, hA0, hV, rfl, hfz, hnd⟩ := hW
  have hA : DataW.TrodAll enc Try.prog W 0 (fun _ => true) true Try.f5.params.toList args.toList ds p := hA0
  rw [Try.params5] at hA hval
  obtain ⟨v0, vs0, d0, ds0, p0, q0, hargs, rfl, rfl, h0, r0⟩ := trodAll_cons hA
  obtain ⟨v1, vs1, d1, ds1, p1, q1, rfl, rfl, rfl, h1, r1⟩ := trodAll_cons r0
  obtain ⟨rfl, rfl, rfl⟩ := trodAll_nil r1
  obtain rfl : args = #[v0, v1] := by cases args; simp_all
  obtain ⟨rfl, rfl⟩ := trodVars_none hV
  obtain ⟨l0, rfl, rfl, rfl, n0⟩ := open_int Try.underlying5 (hval 0 5 v0 rfl rfl) h0
  obtain ⟨l1, rfl, rfl, rfl, n1⟩ := open_int Try.underlying5 (hval 1 5 v1 rfl rfl) h1
  clear hA0 hval0
  simp only [List.append_nil] at hW'
  refine (walk l0 l1 n0 n1 W).mono fun e W' ⟨he, bel⟩ => ?_
  subst he
  exact ⟨_, rfl, _, _, _, [], _, [], hW', trodAll_mk1 (shut_bool Try.underlying4 _), (trodAll_cons_mk (shut_int Try.underlying5 n0) (trodAll_cons_mk (shut_int Try.underlying5 n1) trodAll_mk0)), rfl, bel.frame _, fun h => by cases h⟩

theorem over : Rows.slotsSizesRow.holds Try.pinned (OpenSpec.ofChange Rows.slotsSizesSpec) :=
  OpenClaim.holds_of_wide 5 Try.f5 rfl rfl rfl rfl rfl rfl rfl ⟨rfl, rfl, rfl, rfl, rfl⟩ rfl rfl rfl rfl rfl (by kernel_rfl) Try.func5 (by kernel_rfl)
    (of_decide_eq_true (by kernel_rfl)) (by unfold Func.isWrapper; first | (rw [if_pos (by decide +kernel)]; kernel_rfl) | (rw [if_neg (by decide +kernel)]; exact ⟨rfl, rfl⟩))
    (fun os started H enc _ => lifted os started H enc)

theorem proved : Rows.SlotsSizesSaid :=
  over
#print axioms proved
end Go.Proofs.Ytccplgicfbfjiaa.slotsSizes
