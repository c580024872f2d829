/-
  For all numbers: a store has no more blocks than may be; one that is there is put again for nothing. No condition.
-/
import Derived.Test.YtbobdbdknapdcaaRows
import Derived.Test.YtbobdbdknapdcaaSoKit
import Derived.Test.YtbobdbdknapdcaaSoThe
import Derived.Test.YtbobdbdknapdcaaG4
import Derived.Test.YtbobdbdknapdcaaGrd
import Derived.Test.YtbobdbdknapdcaaSoReg
import Derived.IntWalk
import Derived.ShutString
import Derived.ChangeOld
namespace Go.Proofs.Ytbobdbdknapdcaa.storeQuota
open Go.ChangeShapes Go.WideShapes Go.ChangeAt Go.RowKit
open Go.ChangeMaps (open_string shut_string)
set_option linter.unusedVariables false

/-- the first blocks -/
def bL (i : Nat) : List (List Nat) := (List.range (min i 20)).map fun j => [j]
theorem bL_len (i : Nat) : (bL i).length = min i 20 := by simp [bL]
theorem bL_succ {i : Nat} (h : i < 20) : bL (i + 1) = bL i ++ [[i]] := by
  unfold bL
  rw [show min (i + 1) 20 = i + 1 by omega, show min i 20 = i by omega, List.range_succ, List.map_append]
  rfl
theorem bL_full {i : Nat} (h : 20 ≤ i) : bL (i + 1) = bL i := by
  unfold bL
  rw [show min (i + 1) 20 = 20 by omega, show min i 20 = 20 by omega]
theorem one_bys {i : Nat} (h : i < 256) : Bys [i] := Bys.of fun x hx => by rw [List.mem_singleton.1 hx]; exact h
theorem not_in {i : Nat} (h : i < 30) : sumL (tx [i]) ∉ (bL i).map nmB := fun hm => by
  obtain ⟨x, hx, e⟩ := List.mem_map.1 hm
  obtain ⟨j, hj, rfl⟩ := List.mem_map.1 hx
  have hj := List.mem_range.1 hj
  have := one_ne (by omega) h e
  omega
theorem is_in {i x : Nat} (h : x < min i 20) : sumL (tx [x]) ∈ (bL i).map nmB :=
  List.mem_map.2 ⟨[x], List.mem_map.2 ⟨x, List.mem_range.2 h, rfl⟩, rfl⟩
set_option maxHeartbeats 4000000 in
set_option maxRecDepth 100000 in
theorem walkK (K : StoreKit) (y z : Int) (hy : (Lit.int .u8 y).wf = true) (hz : (Lit.int .u8 z).wf = true) (w : World) :
    Calls Try.prog 3 #[.int .u8 y, .int .u8 z] w fun e w' => e = .returned (.bool true) ∧ Below w.heap.size w w' := by
  have HSh := Lib.hid (fun w => l15_shown K w)
  obtain ⟨na, rfl, hna⟩ := nat_u8 y hy
  obtain ⟨nc, rfl, hnc⟩ := nat_u8 z hz
  clear hy hz
  have w0 : IntKind.i64.wrap (na : Int) = (na : Int) := IntWalk.i64_in _ (by omega)
  have w1 : IntKind.i64.wrap (nc : Int) = (nc : Int) := IntWalk.i64_in _ (by omega)
  obtain ⟨r, hr⟩ : ∃ r, na % 30 = r := ⟨_, rfl⟩
  have e1 : (na : Int).tmod 30 = (r : Int) := by rw [Int.tmod_eq_emod_of_nonneg (by omega)]; omega
  obtain ⟨k, hk⟩ : ∃ k, 1 + r = k := ⟨_, rfl⟩
  have e2 : (1 : Int) + (r : Int) = (k : Int) := by omega
  have hk30 : k ≤ 30 ∧ 1 ≤ k := by omega
  obtain ⟨mn, hmn⟩ : ∃ mn, min k 20 = mn := ⟨_, rfl⟩
  have hm20 : mn ≤ 20 ∧ 1 ≤ mn := by omega
  have hmi : (if (20 : Int) < (k : Int) then (20 : Int) else (k : Int)) = (mn : Int) := by split <;> omega
  obtain ⟨x, hx⟩ : ∃ x, nc % mn = x := ⟨_, rfl⟩
  have hxl : x < mn := by rw [← hx]; exact Nat.mod_lt _ hm20.2
  have e3 : (nc : Int).tmod (mn : Int) = (x : Int) := by rw [Int.tmod_eq_emod_of_nonneg (by omega), ← hx]; rfl
  have e4 : IntKind.u8.wrap (x : Int) = (x : Int) := IntWalk.u8_in _ (by omega)
  have e5 : ¬ (mn : Int) = 0 := by omega
  have e5' : ((mn : Int) == 0) = false := by rw [beq_eq_false_iff_ne]; exact e5
  have HN := Lib.hid (d_New_yes 200 w w.heap.size (by decide) (by decide) (Nat.le_refl _))
  have HO := Lib.hid (fun (wx : World) (D : Nat) (F : Nat → Prop) (h : DkF w.heap.size wx D (newD 200) F) (hw : w.heap.size ≤ wx.heap.size) => K.open_ 200 100 h hw (by decide) (by decide) (by decide))
  have hsz1 : ∀ i, (tx [i]).size = 1 := fun i => tx_size [i]
  have hsl1 : ∀ i, i < 256 → sl (tx [i]) = [i] := fun i hi => sl_tx (one_bys hi)
  have HPN := Lib.hid (fun (i : Nat) (hi : i < 20) (wx : World) (P : Nat) (h : K.Rep w.heap.size wx P (bL i) (99 - min i 20)) (hw : w.heap.size ≤ wx.heap.size) => K.put_new h hw (tx [i]) (by rw [hsz1]; decide) (not_in (by omega)) (by rw [bL_len]; omega) (by rw [hsz1]; show 1 ≤ _; omega))
  have HPF := Lib.hid (fun (i : Nat) (h20 : 20 ≤ i) (hi : i < 30) (wx : World) (P : Nat) (h : K.Rep w.heap.size wx P (bL i) (99 - min i 20)) (hw : w.heap.size ≤ wx.heap.size) => K.put_full h hw (tx [i]) (by rw [hsz1]; decide) (not_in hi) (by rw [bL_len]; omega))
  have HPO := Lib.hid (fun (wx : World) (P : Nat) (h : K.Rep w.heap.size wx P (bL k) (99 - min k 20)) (hw : w.heap.size ≤ wx.heap.size) => K.put_old h hw (tx [x]) (by rw [hsz1]; decide) (is_in (by omega)))
  have HAL := Lib.hid (fun (wx : World) (P : Nat) (h : K.Rep w.heap.size wx P (bL k) (99 - min k 20)) (hw : w.heap.size ≤ wx.heap.size) => K.all h hw)
  rw [bL_len, hmn] at HAL
  rw [hmn] at HPO
  have HRM := Lib.hid (fun (wx : World) (P : Nat) (h : K.Rep w.heap.size wx P (bL k) (99 - min k 20)) (hw : w.heap.size ≤ wx.heap.size) => K.room h hw)
  rw [hmn] at HRM
  have HMM := Lib.hid hmn
  have HSU := Lib.hid (fun wx => r_Sum' (tx [x]) wx (by rw [hsz1]; decide))
  have HHL : Hid (∀ i, (ints .u8 (sumL (tx [i]))).length = 32) := Lib.hid (fun i => by rw [ints_length, sumL_len])
  have HSZ : Hid (∀ l : List Int, (ints .u8 l).length = 32 → (Try.prog.info? 30).map (·.size) = some (ints .u8 l).length) := Lib.hid (fun l hl => by rw [hl]; kernel_rfl)
  have HEQ := Lib.hid (eql_hash (sumL (tx [x])) (sumL_octets _) (sumL_len _))
  have HMI := Lib.hid hmi
  have HK30 := Lib.hid hk30
  have HM20 := Lib.hid hm20
  have HXL := Lib.hid hxl
  have HSL1 := Lib.hid hsl1
  have b1 : (k : Int) ≤ 30 := by omega
  have b2 : (1 : Int) ≤ (k : Int) := by omega
  have b3 : (mn : Int) ≤ 20 := by omega
  have b4 : (1 : Int) ≤ (mn : Int) := by omega
  have HXX := Lib.hid hx
  have HNC := Lib.hid hnc
  clear hr hk hk30 hmn hm20 hmi hx hxl hsz1 hsl1 hna hnc
  unfold agN at HPN HPF HPO
  go_enter Try.func3, Try.ntmps3
  go_wp2_with fail
  refine HN.out.mono ?_
  rintro e v1 ⟨D, F1, rfl, r1, c1, _⟩
  have R1 := Lib.hid r1
  have B1 := Lib.hid c1
  clear r1 c1
  unfold ptD
  go_wp2_with fail
  (with_reducible refine (HSh.out _).mono ?_)
  rintro e v2 ⟨rfl, c2⟩
  have R2 := Lib.hid (R1.out.keep fun i hi => c2.block i (R1.out.lt i hi).2)
  have B2 := Lib.hid (B1.out.trans (c2.mono B1.out.size))
  clear c2
  go_wp2_with fail
  refine (HO.out v2 D F1 R2.out B2.out.size).mono ?_
  rintro e v3 ⟨P, rfl, r3, c3⟩
  have R3 := Lib.hid r3
  have B3 := Lib.hid (B2.out.trans c3)
  clear r3 c3
  unfold ptD
  go_wp2_with fail
  go_loopw [9, 10, 11] (fun i _ _ wr => ∃ j : Nat, i = .int .i64 (j : Int) ∧ j ≤ k ∧ K.Rep w.heap.size wr P (bL j) (99 - min j 20) ∧ Below w.heap.size w wr) (fun i _ _ _ => k - (intOf i).toNat)
  case atStart => exact ⟨0, rfl, Nat.zero_le _, R3.out, B3.out⟩
  case round =>
    obtain ⟨j, rfl, hj, gr, gb⟩ := hrel
    by_cases hlt : j < k
    · have d1 : (j : Int) < (k : Int) := by omega
      have hw8 : IntKind.u8.wrap (j : Int) = (j : Int) := IntWalk.u8_in _ (by have := HK30.out; omega)
      have qb := Blk.new' wr 5 (c := #[.int .u8 (j : Int)]) (ints .u8 ([(j : Int)] ++ [])) rfl
      have qo := OwnB.ofBlk (l := [(j : Int)]) (base := wr.heap.size) (cap := 1) [] qb (Nat.le_refl _) rfl (by decide)
      have hal := (Below.refl wr.heap.size wr).alloc (Nat.le_refl _) (.cells #[.int .u8 (j : Int)] 5)
      have hT : bs [(j : Int)] = tx [j] := rfl
      have gr5 := K.keep gr hal
      have gb5 := gb.trans (hal.mono gb.size)
      have QO := Lib.hid qo
      have HJ := Lib.hid hlt
      have GB5 := Lib.hid gb5
      have HTX := Lib.hid hT
      by_cases h20 : j < 20
      · have d2 : (j : Int) < 20 := by omega
        have d2' : decide ((j : Int) < 20) = true := decide_eq_true d2
        have hpu := HPN.out j h20 _ P gr5 gb5.size
        have hnx : ∀ wx (r : Nat), K.Rep w.heap.size wx P (bL j ++ [sl (tx [j])]) (99 - min j 20 - secK (1 + (tx [j]).size)) → K.Rep w.heap.size wx P (bL (j + 1)) (99 - min (j + 1) 20) := fun wx _ h => by
          rw [HSL1.out j (by omega), tx_size] at h
          rw [bL_succ h20, show 99 - min (j + 1) 20 = 99 - min j 20 - secK (1 + 1) by show _ = 99 - min j 20 - 1; omega]
          exact h
        have HPU := Lib.hid hpu
        have HNX := Lib.hid hnx
        have HL := Lib.hid (HHL.out j)
        have HTJ : Hid (True) := Lib.hid trivial
        generalize sumL (tx [j]) = H at *
        unfold ptD at HPU
        clear hj gr gb hlt qb qo hal hT gr5 gb5 h20 hpu hnx
        go_wp2_with (refine wpList_string_own rfl 33 9 5 _ rfl wr.heap.size _ [(j : Int)] rfl Try.underlying33 Try.underlying5 Try.underlying9 QO.out ?_; rw [HTX.out])
        (with_reducible refine HPU.out.mono ?_)
        rintro e w6 ⟨rfl, r6, c6⟩
        have b6 := GB5.out.trans c6
        have k1 := Blk.new' w6 30 (c := (ints .u8 (List.replicate 32 0)).toArray) (ints .u8 (List.replicate 32 0)) rfl
        have hnb := (Below.refl w6.heap.size w6).alloc (Nat.le_refl _) (.cells (ints .u8 (List.replicate 32 0)).toArray 30)
        have kb := below_setRow hnb (Nat.le_refl w6.heap.size) (ints .u8 H).toArray
        have K1 := Lib.hid k1
        have R7 := Lib.hid (K.keep r6 kb)
        have B7 := Lib.hid (b6.trans (kb.mono b6.size))
        clear r6 c6 b6 k1 hnb kb
        go_wp2_with (first | (refine wpList_alloc_n rfl 30 rfl w6.heap.size rfl _ (alloc_h32S _) ?_) | (refine wpList_store_blk rfl 30 _ _ rfl w6.heap.size (ints .u8 H) rfl rfl K1.out (HSZ.out H HL.out) (by rw [HL.out]; rfl) (ints_one' H) ?_))
        go_roundw
        case rel => exact ⟨j + 1, by go_num, by have := HJ.out; omega, HNX.out _ 0 R7.out, B7.out⟩
        case measure => (have := HJ.out; simp [intOf]; omega)
      · have d2 : ¬ (j : Int) < 20 := by omega
        have d2' : decide ((j : Int) < 20) = false := decide_eq_false d2
        have hpu := HPF.out j (by omega) (by have := HK30.out; omega) _ P gr5 gb5.size
        have hnx : ∀ wx (r : Nat), K.Rep w.heap.size wx P (bL j) (99 - min j 20) → K.Rep w.heap.size wx P (bL (j + 1)) (99 - min (j + 1) 20) := fun wx _ h => by
          rw [bL_full (by omega), show min (j + 1) 20 = min j 20 by omega]
          exact h
        have HPU := Lib.hid hpu
        have HNX := Lib.hid hnx
        have HL : Hid ((ints .u8 (List.replicate 32 0)).length = 32) := Lib.hid rfl
        obtain ⟨H, hH⟩ : ∃ H : List Int, List.replicate 32 0 = H := ⟨_, rfl⟩
        unfold ptD at HPU
        rw [hH] at HPU HL
        clear hj gr gb hlt qb qo hal hT gr5 gb5 h20 hpu hnx hH
        go_wp2_with (refine wpList_string_own rfl 33 9 5 _ rfl wr.heap.size _ [(j : Int)] rfl Try.underlying33 Try.underlying5 Try.underlying9 QO.out ?_; rw [HTX.out])
        (with_reducible refine HPU.out.mono ?_)
        rintro e w6 ⟨rfl, r6, c6⟩
        have b6 := GB5.out.trans c6
        have k1 := Blk.new' w6 30 (c := (ints .u8 (List.replicate 32 0)).toArray) (ints .u8 (List.replicate 32 0)) rfl
        have hnb := (Below.refl w6.heap.size w6).alloc (Nat.le_refl _) (.cells (ints .u8 (List.replicate 32 0)).toArray 30)
        have kb := below_setRow hnb (Nat.le_refl w6.heap.size) (ints .u8 H).toArray
        have K1 := Lib.hid k1
        have R7 := Lib.hid (K.keep r6 kb)
        have B7 := Lib.hid (b6.trans (kb.mono b6.size))
        clear r6 c6 b6 k1 hnb kb
        go_wp2_with (first | (refine wpList_alloc_n rfl 30 rfl w6.heap.size rfl _ (alloc_h32S _) ?_) | (refine wpList_store_blk rfl 30 _ _ rfl w6.heap.size (ints .u8 H) rfl rfl K1.out (HSZ.out H HL.out) (by rw [HL.out]; rfl) (ints_one' H) ?_))
        go_roundw
        case rel => exact ⟨j + 1, by go_num, by have := HJ.out; omega, HNX.out _ 0 R7.out, B7.out⟩
        case measure => (have := HJ.out; simp [intOf]; omega)
    · obtain rfl : j = k := by omega
      have d1 : ¬ (j : Int) < (j : Int) := by omega
      rw [HMM.out] at gr
      have R4 := Lib.hid gr
      have B4 := Lib.hid gb
      have HRR := Lib.hid (HRM.out wr P gr gb.size)
      unfold ptD at HRR
      obtain ⟨rm, hrm⟩ : ∃ rm, 99 - mn = rm := ⟨_, rfl⟩
      have HRL : Hid (rm ≤ 4096) := Lib.hid (by omega)
      rw [hrm] at HRR HPO HAL HRM R4
      clear hj gr gb hlt hrm
      go_wp2_with fail
      (with_reducible refine HRR.out.mono ?_)
      rintro e v5 ⟨rfl, c5⟩
      have R5 := Lib.hid (K.keep R4.out c5)
      have B5 := Lib.hid (B4.out.trans (c5.mono B4.out.size))
      clear c5
      have qb := Blk.new' v5 5 (c := #[.int .u8 (x : Int)]) (ints .u8 ([(x : Int)] ++ [])) rfl
      have qo := OwnB.ofBlk (l := [(x : Int)]) (base := v5.heap.size) (cap := 1) [] qb (Nat.le_refl _) rfl (by decide)
      have hal := (Below.refl v5.heap.size v5).alloc (Nat.le_refl _) (.cells #[.int .u8 (x : Int)] 5)
      have hT : bs [(x : Int)] = tx [x] := rfl
      have gr5 := K.keep R5.out hal
      have gb5 := B5.out.trans (hal.mono B5.out.size)
      have HPU := Lib.hid (HPO.out _ P gr5 gb5.size)
      have QO := Lib.hid qo
      have GB5 := Lib.hid gb5
      have HTX := Lib.hid hT
      have HL := Lib.hid (HHL.out x)
      unfold ptD at HPU
      clear qb qo hal hT gr5 gb5
      generalize sumL (tx [x]) = H at *
      generalize tx [x] = T at *
      go_wp2_with (first | (refine wpList_min2 rfl _ _ 3 rfl _ _ (mn : Int) rfl rfl HMI.out ?_) | (refine wpList_string_own rfl 33 9 5 _ rfl v5.heap.size _ [(x : Int)] rfl Try.underlying33 Try.underlying5 Try.underlying9 QO.out ?_; rw [HTX.out]))
      (with_reducible refine HPU.out.mono ?_)
      rintro e v6 ⟨rfl, r6, c6⟩
      have b6 := GB5.out.trans c6
      have k1 := Blk.new' v6 30 (c := (ints .u8 (List.replicate 32 0)).toArray) (ints .u8 (List.replicate 32 0)) rfl
      have hnb := (Below.refl v6.heap.size v6).alloc (Nat.le_refl _) (.cells (ints .u8 (List.replicate 32 0)).toArray 30)
      have k2 := k1.row (ints .u8 H) (by rw [HL.out]; rfl)
      have kb := below_setRow hnb (Nat.le_refl v6.heap.size) (ints .u8 H).toArray
      have K1 := Lib.hid k1
      have K2 := Lib.hid k2
      have R7 := Lib.hid (K.keep r6 kb)
      have B7 := Lib.hid (b6.trans (kb.mono b6.size))
      obtain ⟨B, hB⟩ : ∃ B, v6.heap.size = B := ⟨_, rfl⟩
      rw [hB] at K1 K2 R7 B7
      obtain ⟨v7, hv7⟩ : ∃ v7, (v6.alloc (.cells (ints .u8 (List.replicate 32 0)).toArray 30)).setRow B (ints .u8 H).toArray = v7 := ⟨_, rfl⟩
      rw [hv7] at K2 R7 B7
      clear r6 c6 b6 k1 k2 hnb kb
      go_wp2_with (first | (refine wpList_alloc_n rfl 30 rfl B hB _ (alloc_h32S _) ?_) | (refine wpList_store_blk rfl 30 _ _ rfl B (ints .u8 H) rfl rfl K1.out (HSZ.out H HL.out) (by rw [HL.out]; rfl) (ints_one' H) ?_; rw [hv7]))
      clear hv7 hB
      have hk := HK30.out
      refine quo16 nc j rm P B mn x H T _ _ _ _ _ _ _ _ _ _ _ _ _ _ _ _ _ _ _ _ _ _ _ _ _ _ _ _ _ _ _ _ _ _ _ _ _ _ _ _ _ _ _ _ _ _ _ _ _ _ _ _ _ _ _ _ _ _ _ _ _ _ _ _ _ _ _ _ _ _ _ _ _ v7 _ HNC.out ⟨hk.2, hk.1⟩ HMM.out HXX.out HRL.out HTX.out HL.out HEQ.out K2.out HSU.out (fun W hC => ?_) (fun W hC => ?_) (fun u W hC h29 => ?_) _ rfl
      · have := HRM.out W P (K.keep R7.out hC) (Nat.le_trans B7.out.size hC.size)
        unfold ptD at this
        exact this
      · have := HAL.out W P (K.keep R7.out hC) (Nat.le_trans B7.out.size hC.size)
        unfold ptD at this
        exact this
      · unfold qoF
        rw [h29]
        have hfin := B7.out.trans (Below.mono hC B7.out.size)
        clear hC
        go_wp2
        go_ret
        exact ⟨rfl, hfin⟩
theorem walk (y z : Int) (h0 : (Lit.int .u8 y).wf = true) (h1 : (Lit.int .u8 z).wf = true) (w : World) :
    Calls Try.prog 3 #[.int .u8 y, .int .u8 z] w fun e w' => e = .returned (.bool true) ∧ Below w.heap.size w w' := walkK theStore y z h0 h1 w
set_option maxRecDepth 100000 in
theorem lifted (os : Os) (started : os.Started) (H : Type) (enc : TypeId × Value → H) :
    ReturnsInHanded {} Try.checked os 3 .any (Rows.storeQuotaSpec.pre6 enc Try.prog Try.f3 Rows.storeQuotaRow.domain false) (Rows.storeQuotaSpec.post enc Try.prog Try.f3 false true false false) := by
  refine returnsInHanded_of_change (C := Try.checked) own started (by kernel_rfl) Try.func3
    (ChangeSpec.witness6 (enc := enc) (C := Try.checked) false ⟨#[], #[.int .u8 0, .int .u8 0], []⟩ 8 (by kernel_rfl) (by kernel_rfl) (by kernel_rfl) (by kernel_rfl)) ?_
  intro W base args ds gs before hval0 hW hcnd _
  have hval : ∀ (j : Nat) t v, Try.f3.params[j]? = some t → args[j]? = some v → Value.okWide Try.prog W .any base t v := hval0
  have hW' := hW
  obtain ⟨p, q, hA0, hV, rfl, hfz, hnd⟩ := hW
  have hA : DataW.TrodAll enc Try.prog W 0 (fun _ => true) true Try.f3.params.toList args.toList ds p := hA0
  rw [Try.params3] at hA hval
  obtain ⟨v0, vs0, d0, ds0, p0, q0, hargs, rfl, rfl, h0, r0⟩ := trodAll_cons hA
  obtain ⟨v1, vs1, d1, ds1, p1, q1, rfl, rfl, rfl, h1, r1⟩ := trodAll_cons r0
  obtain ⟨rfl, rfl, rfl⟩ := trodAll_nil r1
  obtain rfl : args = #[v0, v1] := by cases args; simp_all
  obtain ⟨rfl, rfl⟩ := trodVars_none hV
  obtain ⟨l0, rfl, rfl, rfl, n0⟩ := open_int Try.underlying5 (hval 0 5 v0 rfl rfl) h0
  obtain ⟨l1, rfl, rfl, rfl, n1⟩ := open_int Try.underlying5 (hval 1 5 v1 rfl rfl) h1
  clear hA0 hval0
  simp only [List.append_nil] at hW'
  refine (walk l0 l1 n0 n1 W).mono fun e W' ⟨he, bel⟩ => ?_
  subst he
  exact ⟨_, rfl, _, _, _, [], _, [], hW', trodAll_mk1 (shut_bool Try.underlying4 _), (trodAll_cons_mk (shut_int Try.underlying5 n0) (trodAll_cons_mk (shut_int Try.underlying5 n1) trodAll_mk0)), rfl, bel.frame _, fun h => by cases h⟩

theorem over : Rows.storeQuotaRow.holds Try.pinned (OpenSpec.ofChange Rows.storeQuotaSpec) :=
  OpenClaim.holds_of_wide 3 Try.f3 rfl rfl rfl rfl rfl rfl rfl ⟨rfl, rfl, rfl, rfl, rfl⟩ rfl rfl rfl rfl rfl (by kernel_rfl) Try.func3 (by kernel_rfl)
    (of_decide_eq_true (by kernel_rfl)) (by unfold Func.isWrapper; first | (rw [if_pos (by decide +kernel)]; kernel_rfl) | (rw [if_neg (by decide +kernel)]; exact ⟨rfl, rfl⟩))
    (fun os started H enc _ => lifted os started H enc)

theorem proved : Rows.StoreQuotaSaid :=
  over
#print axioms proved
end Go.Proofs.Ytbobdbdknapdcaa.storeQuota
