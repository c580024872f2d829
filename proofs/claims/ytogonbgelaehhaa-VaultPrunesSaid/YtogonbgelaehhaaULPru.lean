/- VaultPrunes is proved: the last so many stay; those that go are told, the first ones. Conditions: none besides the statement's own. -/
import Derived.Test.YtogonbgelaehhaaUPrN
import Derived.Test.YtogonbgelaehhaaUWe
namespace Go.Proofs.Ytogonbgelaehhaa.vaultPrunes
open Go.RowKit Go.ChangeShapes Go.WideShapes
set_option linter.unusedVariables false

theorem agg_inj {a b : List Value} (h : Value.agg a.toArray = .agg b.toArray) : a = b := by
  have := congrArg (fun v => match v with | Value.agg c => c.toList | _ => []) h
  simpa using this
theorem rep_cells {w : World} {X : List Value} {x : RepU RawV} (h : RepOkV w X x) : ∃ (pi : Option Addr) (ci : Nat), X[0]? = some (.int .i64 (x.err : Int)) ∧ X[1]? = some (.slice pi x.ids.length ci) ∧ Sl w 1 (.slice pi x.ids.length ci) (rowsU .u32 x.ids) := by
  obtain ⟨vi, q, rfl, ⟨pi, ci, rfl⟩, hs, hv⟩ := h
  exact ⟨pi, ci, rfl, rfl, hs⟩
theorem st_vers {w : World} {S : List Value} {s : StU RawV} (h : StTold w (.agg S.toArray) s) : ∃ (p : Option Addr) (c : Nat), S[0]? = some (.slice p s.vers.length c) ∧ VsV w (.slice p s.vers.length c) s.vers := by
  obtain ⟨S', p, c, e, _, _, h0, hv, _⟩ := st_cells3 h
  rw [agg_inj e]
  exact ⟨p, c, h0, hv⟩
set_option maxRecDepth 100000 in
set_option maxHeartbeats 8000000 in
theorem walkK (K : VaultKit) (n m : Nat) (hn : n < 256) (hm : m < 4294967296) (w : World) :
    Calls Try.prog 8 #[.int .u8 (n : Int), .int .u32 (m : Int)] w fun e w' => e = .returned (.bool true) ∧ Below w.heap.size w w' := by
  obtain ⟨k, hk⟩ : ∃ k, n % 9 = k := ⟨_, rfl⟩
  have hk8 : k ≤ 8 := by omega
  have HS := Lib.hid (fun wx => l17_shown K wx)
  have hr : ((n : Int)).tmod 9 = (k : Int) := by rw [Int.tmod_eq_emod_of_nonneg (by omega)]; omega
  have hn0 : (n : Int) < 256 := by omega
  have HN := Lib.hid hn
  have HM := Lib.hid hm
  have HK8 := Lib.hid hk8
  obtain ⟨y, hy⟩ : ∃ y, w.heap.size = y := ⟨_, rfl⟩
  have HLO : Hid (w.heap.size ≤ y) := Lib.hid (Nat.le_of_eq hy)
  have hz1 : zS.toArray.all (·.oneCell') = true := by simp [zS, zRp, cellsS, cellsR, Value.oneCell']
  have HZ1 := Lib.hid hz1
  obtain ⟨w1, o1⟩ := oneV 42 w y hy zS rfl hz1
  have O1 := Lib.hid o1
  have HZ : Hid ((Try.prog.info? 42).map (·.size) = some zS.length) := Lib.hid (size_sv2 rfl)
  clear hk hn hm hk8 hy o1 hz1
  go_enter Try.func8, Try.ntmps8
  go_wp2_with (first | (refine wpList_build_at rfl 42 _ rfl (.agg zS.toArray) (by simp only [List.map_toArray, List.map_nil]; exact build_s0 _) ?_) | (refine wpList_alloc_n rfl 42 rfl y O1.out.a0 _ (alloc_sv _) ?_) | (refine wpList_store_blk rfl 42 _ _ rfl y zS rfl rfl O1.out.k0 HZ.out O1.out.lT.1 O1.out.lT.2 ?_; rw [O1.out.eq]))
  go_loopw [7] (fun i wr => ∃ (j : Nat) (S : List Value), j ≤ k ∧ i = .int .i64 (j : Int) ∧ Blk wr y 42 S ∧ StTold (er w.heap.size wr) (.agg S.toArray) (stI j) ∧ S.length = 22 ∧ S.toArray.all (·.oneCell') = true ∧ Below w.heap.size w wr) (fun i _ => k - (intOf i).toNat)
  case atStart => exact ⟨0, zS, Nat.zero_le _, rfl, O1.out.kT, st0_told _, rfl, HZ1.out, O1.out.bl⟩
  case round =>
    obtain ⟨j, S, hj, rfl, kS, hst, hSl, hSo, gb⟩ := hrel
    have GB := Lib.hid gb
    have KS := Lib.hid kS
    have HST := Lib.hid hst
    have HSO : Hid (S.length = 22 ∧ S.toArray.all (·.oneCell') = true) := Lib.hid ⟨hSl, hSo⟩
    have HSZ := Lib.hid (size_sv2 hSl)
    clear gb kS hst hSl hSo
    by_cases hlt : j < k
    · have HLT := Lib.hid hlt
      have d1 : (j : Int) < (k : Int) := by omega
      have d2 : (k : Int) ≤ 8 := by have := HK8.out; omega
      have e10 : ((10 + j : Nat) : Int) = 10 + (j : Int) := by omega
      have hop := op_put (er w.heap.size wr) (10 + j)
      rw [e10] at hop
      have HOP := Lib.hid hop
      clear hlt e10 hop
      go_wp2_with (first | (refine wpList_load_blk rfl 42 _ rfl y rfl KS.out Try.underlying42 rfl HSZ.out ?_))
      refine (K.do_ (stI j) (.agg S.toArray) _ 1 0 (verI (10 + j)) wr w.heap.size GB.out.size HST.out HOP.out (stS_I j (by have := HK8.out; omega)) (by decide) (verS_I (by have := HK8.out; have := HLT.out; omega))).mono ?_
      rintro e w2 ⟨v', Y, rfl, hst2, hry, hb2⟩
      have hdo : doR (stI j).vers 1 0 (verI (10 + j)) = (versI (j + 1), ⟨0, [], noV⟩) := do_putI (by have := HK8.out; have := HLT.out; omega)
      rw [hdo] at hst2 hry
      have hst2 : StTold (er w.heap.size w2) v' (stI (j + 1)) := hst2
      obtain ⟨U, rfl, hUl, hUo⟩ := st_row hst2
      obtain ⟨y3, hy3⟩ : ∃ y, w2.heap.size = y := ⟨_, rfl⟩
      obtain ⟨w3, o3⟩ := twoV 42 w2 y3 hy3 U Y hUl hUo (hry.len) (rep_one hry).1
      have G3 := Lib.hid (GB.out.trans ((hb2.mono GB.out.size).trans (o3.bl.mono (by have := GB.out.size; have := hb2.size; omega))))
      have KS3 := Lib.hid ((KS.out.below hb2 KS.out.lt).below o3.bl (by have := KS.out.lt; have := hb2.size; omega))
      have U3 := Lib.hid (hst2.below (er_belowS w.heap.size o3.bl))
      have O3 := Lib.hid o3
      have HUO : Hid (U.length = 22 ∧ U.toArray.all (·.oneCell') = true) := Lib.hid ⟨hUl, hUo⟩
      have HUZ := Lib.hid (size_sv2 hUl)
      have HSU : Hid (S.length = U.length) := Lib.hid (by rw [HSO.out.1, hUl])
      obtain ⟨pi, ci, hY0, hY1, _⟩ := rep_cells hry
      have yc := o3.kX.cell 0
      rw [hY0] at yc
      have yc0 : w3.cell? ⟨y3 + 1, 0, none⟩ = some (.int .i64 0) := yc
      clear hdo hst2 hry hb2 hy3 hUl hUo o3 hY0 hY1 yc
      go_wp2_with (first | (go_skip) | (refine wpList_alloc_n rfl 42 rfl y3 O3.out.a0 _ (alloc_sv _) ?_) | (refine wpList_alloc_n rfl 39 rfl (y3 + 1) O3.out.a1 _ (alloc_rv _) ?_) | (refine wpList_store_blk rfl 42 _ _ rfl y3 U rfl rfl O3.out.k0 HUZ.out O3.out.lT.1 O3.out.lT.2 ?_) | (refine wpList_store_blk rfl 39 _ _ rfl (y3 + 1) Y rfl rfl O3.out.k1 O3.out.lX.1 O3.out.lX.2.1 O3.out.lX.2.2 ?_; rw [O3.out.eq]) | (refine wpList_load_blk rfl 42 _ rfl y3 rfl O3.out.kT Try.underlying42 rfl HUZ.out ?_) | (refine wpList_store_blk rfl 42 _ _ rfl y U rfl rfl KS3.out HUZ.out HSU.out HUO.out.2 ?_))
      go_roundw
      case rel => exact ⟨j + 1, U, by have := HLT.out; omega, by go_num, KS3.out.row U HSU.out.symm, by rw [er_setRow w.heap.size KS3.out rfl HLO.out]; exact U3.out, HUO.out.1, HUO.out.2, below_setRow G3.out HLO.out _⟩
      case measure => (have := HLT.out; simp [intOf]; omega)
    · obtain rfl : k = j := by omega
      clear hlt hj
      have d2 : (k : Int) ≤ 8 := by have := HK8.out; omega
      have d3 : (m : Int) < 4294967296 := by have := HM.out; omega
      obtain ⟨g, hg⟩ : ∃ g, k - m = g := ⟨_, rfl⟩
      obtain ⟨L, hL⟩ : ∃ L, k - g = L := ⟨_, rfl⟩
      have HOP := Lib.hid (op_bare (er w.heap.size wr) 3 m)
      go_wp2_with (first | (refine wpList_load_blk rfl 42 _ rfl y rfl KS.out Try.underlying42 rfl HSZ.out ?_))
      refine (K.do_ (stI k) (.agg S.toArray) _ 3 m noV wr w.heap.size GB.out.size HST.out HOP.out (stS_I k HK8.out) HM.out verS_no).mono ?_
      rintro e w2 ⟨v', Y, rfl, hst2, hry, hb2⟩
      have hdo : doR (stI k).vers 3 m noV = ((versI k).drop (k - m), ⟨0, ((versI k).take (k - m)).map RawV.id, noV⟩) := do_pruneI k m noV
      rw [hdo, hg] at hst2 hry
      have hgk : g ≤ k := by omega
      obtain ⟨U, rfl, hUl, hUo⟩ := st_row hst2
      obtain ⟨y3, hy3⟩ : ∃ y, w2.heap.size = y := ⟨_, rfl⟩
      obtain ⟨w3, o3⟩ := twoV 42 w2 y3 hy3 U Y hUl hUo (hry.len) (rep_one hry).1
      have G3 := Lib.hid (GB.out.trans ((hb2.mono GB.out.size).trans (o3.bl.mono (by have := GB.out.size; have := hb2.size; omega))))
      have u3 := (hst2.below (er_belowS w.heap.size o3.bl)).sub (er_sub w.heap.size w3)
      have x3 := (hry.below (er_belowS w.heap.size o3.bl)).sub (er_sub w.heap.size w3)
      obtain ⟨pv, cv, hU0, hV⟩ := st_vers u3
      obtain ⟨pi, ci, hY0, hY1, hI⟩ := rep_cells x3
      have hlen : ((versI k).drop g).length = L := by rw [left_len, hL]
      have hU0 : U[0]? = some (.slice pv ((versI k).drop g).length cv) := hU0
      have hV : VsV w3 (.slice pv ((versI k).drop g).length cv) ((versI k).drop g) := hV
      rw [hlen] at hU0 hV
      have hY1 : Y[1]? = some (.slice pi (((versI k).take g).map RawV.id).length ci) := hY1
      have hI : Sl w3 1 (.slice pi (((versI k).take g).map RawV.id).length ci) (rowsU .u32 (((versI k).take g).map RawV.id)) := hI
      rw [gone_len k g hgk] at hY1 hI
      have O3 := Lib.hid o3
      have HUZ := Lib.hid (size_sv2 hUl)
      have HU0 := Lib.hid hU0
      have HV := Lib.hid hV
      have HY1 := Lib.hid hY1
      have HI := Lib.hid hI
      have HGK := Lib.hid hgk
      have yc := o3.kX.cell 0
      rw [hY0] at yc
      have yc0 : w3.cell? ⟨y3 + 1, 0, none⟩ = some (.int .i64 0) := yc
      have yc1 := o3.kX.cell 1
      rw [hY1] at yc1
      have yc1 : w3.cell? ⟨y3 + 1, 1, none⟩ = some (.slice pi g ci) := yc1
      have u0 := o3.kT.cell 0
      rw [hU0] at u0
      have u0 : w3.cell? ⟨y3, 0, none⟩ = some (.slice pv L cv) := u0
      clear hdo hst2 hry hb2 hy3 hUl hUo o3 u3 x3 hU0 hV hY0 hY1 hI hlen yc
      by_cases hmk : m < k
      · obtain rfl : m = L := by omega
        have e1 : (m : Int) < (k : Int) := by omega
        have e2 : (k : Int) - (m : Int) = (g : Int) := by omega
        have HLL : Hid (k - g = m) := Lib.hid hL
        clear hmk hg hL hgk
        go_wp2_with (first | (go_skip) | (refine wpList_alloc_n rfl 42 rfl y3 O3.out.a0 _ (alloc_sv _) ?_) | (refine wpList_alloc_n rfl 39 rfl (y3 + 1) O3.out.a1 _ (alloc_rv _) ?_) | (refine wpList_store_blk rfl 42 _ _ rfl y3 U rfl rfl O3.out.k0 HUZ.out O3.out.lT.1 O3.out.lT.2 ?_) | (refine wpList_store_blk rfl 39 _ _ rfl (y3 + 1) Y rfl rfl O3.out.k1 O3.out.lX.1 O3.out.lX.2.1 O3.out.lX.2.2 ?_; rw [O3.out.eq]))
        refine (HS.out _).mono ?_
        rintro e w4 ⟨rfl, hb4⟩
        have G4 := Lib.hid (G3.out.trans (hb4.mono G3.out.size))
        have KU4 := Lib.hid (O3.out.kT.below hb4 O3.out.kT.lt)
        have KY4 := Lib.hid (O3.out.kX.below hb4 O3.out.kX.lt)
        have HV4 := Lib.hid (HV.out.below hb4)
        have HI4 := Lib.hid (HI.out.below hb4)
        clear hb4 u0 yc0 yc1
        go_wp2_with (first | (go_skip) | fail)
        go_loopw [13] (fun i wr => ∃ j : Nat, j ≤ g ∧ i = .int .i64 (j : Int) ∧ Below w4.heap.size w4 wr) (fun i _ => g - (intOf i).toNat)
        case atStart => exact ⟨0, Nat.zero_le _, rfl, Below.refl _ _⟩
        case round =>
          obtain ⟨j, hj, rfl, gq⟩ := hrel
          have GQ := Lib.hid gq
          have yd := (KY4.out.below gq KY4.out.lt).cell 1
          rw [HY1.out] at yd
          have yd1 : wr.cell? ⟨y3 + 1, 1, none⟩ = some (.slice pi g ci) := yd
          clear yd
          by_cases hlt : j < g
          · have hc := SlU.cell (HI4.out.below gq) (j := j) (by rw [gone_len _ _ HGK.out]; exact hlt)
            obtain ⟨a, rfl, hc⟩ := hc
            rw [gone_at HGK.out hlt, show ((10 + j : Nat) : Int) = 10 + (j : Int) by omega] at hc
            have d5 : (j : Int) < ((g : Nat) : Int) := by omega
            have d6 : ((g : Nat) : Int) ≤ 8 := by have := HGK.out; have := HK8.out; omega
            have HLT := Lib.hid hlt
            clear hlt gq
            go_wp2_with (first | (go_skip) | fail)
            go_roundw
            case rel => exact ⟨j + 1, by have := HLT.out; omega, by go_num, GQ.out⟩
            case measure => (have := HLT.out; simp [intOf]; omega)
          · obtain rfl : g = j := by omega
            have G5 := Lib.hid (G4.out.trans (gq.mono G4.out.size))
            by_cases hl0 : m = 0
            · have hz : (((m : Nat) : Int) == 0) = true := by simpa using hl0
              clear hlt hj gq
              go_wp2_with (first | (go_skip) | fail)
              go_ret
              exact ⟨rfl, G5.out⟩
            · obtain ⟨q, hq⟩ : ∃ q, m - 1 = q := ⟨_, rfl⟩
              have hz : (((m : Nat) : Int) == 0) = false := by simpa using hl0
              have hx : ((m : Nat) : Int) - 1 = (q : Int) := by omega
              have hlq : q < ((versI k).drop g).length := by rw [left_len, HLL.out]; omega
              obtain ⟨a, rfl, hc⟩ := (HV4.out.below gq).id_at hlq
              rw [left_at (by have := HLL.out; omega), show (((verI (10 + (g + q))).id : Nat) : Int) = 10 + (k : Int) - 1 by show ((10 + (g + q) : Nat) : Int) = _; have := HLL.out; omega] at hc
              have ud := (KU4.out.below gq KU4.out.lt).cell 0
              rw [HU0.out] at ud
              have ud0 : wr.cell? ⟨y3, 0, none⟩ = some (.slice (some a) m cv) := ud
              have d7 : (q : Int) < ((m : Nat) : Int) := by omega
              have d8 : ((m : Nat) : Int) ≤ 8 := by have := HLL.out; have := HK8.out; omega
              clear hlt hj gq hl0 hq hlq ud
              go_wp2_with (first | (go_skip) | fail)
              go_ret
              exact ⟨rfl, G5.out⟩
      · obtain rfl : k = L := by omega
        have e1 : ¬ (m : Int) < (k : Int) := by omega
        obtain rfl : g = 0 := by omega
        clear d3
        have HLL : Hid (k - 0 = k) := Lib.hid hL
        clear hmk hg hL hgk
        go_wp2_with (first | (go_skip) | (refine wpList_alloc_n rfl 42 rfl y3 O3.out.a0 _ (alloc_sv _) ?_) | (refine wpList_alloc_n rfl 39 rfl (y3 + 1) O3.out.a1 _ (alloc_rv _) ?_) | (refine wpList_store_blk rfl 42 _ _ rfl y3 U rfl rfl O3.out.k0 HUZ.out O3.out.lT.1 O3.out.lT.2 ?_) | (refine wpList_store_blk rfl 39 _ _ rfl (y3 + 1) Y rfl rfl O3.out.k1 O3.out.lX.1 O3.out.lX.2.1 O3.out.lX.2.2 ?_; rw [O3.out.eq]))
        refine (HS.out _).mono ?_
        rintro e w4 ⟨rfl, hb4⟩
        have G4 := Lib.hid (G3.out.trans (hb4.mono G3.out.size))
        have KU4 := Lib.hid (O3.out.kT.below hb4 O3.out.kT.lt)
        have KY4 := Lib.hid (O3.out.kX.below hb4 O3.out.kX.lt)
        have HV4 := Lib.hid (HV.out.below hb4)
        have HI4 := Lib.hid (HI.out.below hb4)
        clear hb4 u0 yc0 yc1
        go_wp2_with (first | (go_skip) | fail)
        go_loopw [13] (fun i wr => ∃ j : Nat, j ≤ 0 ∧ i = .int .i64 (j : Int) ∧ Below w4.heap.size w4 wr) (fun i _ => 0 - (intOf i).toNat)
        case atStart => exact ⟨0, Nat.zero_le _, rfl, Below.refl _ _⟩
        case round =>
          obtain ⟨j, hj, rfl, gq⟩ := hrel
          have GQ := Lib.hid gq
          have yd := (KY4.out.below gq KY4.out.lt).cell 1
          rw [HY1.out] at yd
          have yd1 : wr.cell? ⟨y3 + 1, 1, none⟩ = some (.slice pi 0 ci) := yd
          clear yd
          by_cases hlt : j < 0
          · exact absurd hlt (Nat.not_lt_zero _)
          · obtain rfl : 0 = j := by omega
            have G5 := Lib.hid (G4.out.trans (gq.mono G4.out.size))
            by_cases hl0 : k = 0
            · have hz : (((k : Nat) : Int) == 0) = true := by simpa using hl0
              clear hlt hj gq
              go_wp2_with (first | (go_skip) | fail)
              go_ret
              exact ⟨rfl, G5.out⟩
            · obtain ⟨q, hq⟩ : ∃ q, k - 1 = q := ⟨_, rfl⟩
              have hz : (((k : Nat) : Int) == 0) = false := by simpa using hl0
              have hx : ((k : Nat) : Int) - 1 = (q : Int) := by omega
              have hlq : q < ((versI k).drop 0).length := by rw [left_len, HLL.out]; omega
              obtain ⟨a, rfl, hc⟩ := (HV4.out.below gq).id_at hlq
              rw [left_at (by have := HLL.out; omega), show (((verI (10 + (0 + q))).id : Nat) : Int) = 10 + (k : Int) - 1 by show ((10 + (0 + q) : Nat) : Int) = _; have := HLL.out; omega] at hc
              have ud := (KU4.out.below gq KU4.out.lt).cell 0
              rw [HU0.out] at ud
              have ud0 : wr.cell? ⟨y3, 0, none⟩ = some (.slice (some a) k cv) := ud
              have d7 : (q : Int) < ((k : Nat) : Int) := by omega
              have d8 : ((k : Nat) : Int) ≤ 8 := by have := HLL.out; have := HK8.out; omega
              clear hlt hj gq hl0 hq hlq ud
              go_wp2_with (first | (go_skip) | fail)
              go_ret
              exact ⟨rfl, G5.out⟩
theorem walk (x y : Int) (hx : (Lit.int .u8 x).wf = true) (hy : (Lit.int .u32 y).wf = true) (w : World) :
    Calls Try.prog 8 #[.int .u8 x, .int .u32 y] w fun e w' => e = .returned (.bool true) ∧ Below w.heap.size w w' := by
  have h1 := bounds_u8 hx
  have h2 := bounds_u32 hy
  obtain ⟨n, rfl⟩ : ∃ n : Nat, x = (n : Int) := ⟨x.toNat, by omega⟩
  obtain ⟨m, rfl⟩ : ∃ m : Nat, y = (m : Int) := ⟨y.toNat, by omega⟩
  exact walkK theVault n m (by omega) (by omega) w
set_option maxRecDepth 100000 in
theorem lifted (os : Os) (started : os.Started) (H : Type) (enc : TypeId × Value → H) :
    ReturnsInHanded {} Try.checked os 8 .any (Rows.vaultPrunesSpec.pre6 enc Try.prog Try.f8 Rows.vaultPrunesRow.domain false) (Rows.vaultPrunesSpec.post enc Try.prog Try.f8 false true false false) := by
  refine returnsInHanded_of_change (C := Try.checked) own started (by kernel_rfl) Try.func8
    (ChangeSpec.witness6 (enc := enc) (C := Try.checked) false ⟨#[], #[.int .u8 0, .int .u32 0], []⟩ 8 (by kernel_rfl) (by kernel_rfl) (by kernel_rfl) (by kernel_rfl)) ?_
  intro W base args ds gs before hval0 hW hcnd _
  have hval : ∀ (j : Nat) t v, Try.f8.params[j]? = some t → args[j]? = some v → Value.okWide Try.prog W .any base t v := hval0
  have hW' := hW
  obtain ⟨p, q, hA0, hV, rfl, hfz, hnd⟩ := hW
  have hA : DataW.TrodAll enc Try.prog W 0 (fun _ => true) true Try.f8.params.toList args.toList ds p := hA0
  rw [Try.params8] at hA hval
  obtain ⟨v0, vs0, d0, ds0, p0, q0, hargs, rfl, rfl, h0, r0⟩ := trodAll_cons hA
  obtain ⟨v1, vs1, d1, ds1, p1, q1, rfl, rfl, rfl, h1, r1⟩ := trodAll_cons r0
  obtain ⟨rfl, rfl, rfl⟩ := trodAll_nil r1
  obtain rfl : args = #[v0, v1] := by cases args; simp_all
  obtain ⟨rfl, rfl⟩ := trodVars_none hV
  obtain ⟨l0, rfl, rfl, rfl, n0⟩ := open_int Try.underlying5 (hval 0 5 v0 rfl rfl) h0
  obtain ⟨l1, rfl, rfl, rfl, n1⟩ := open_int Try.underlying23 (hval 1 23 v1 rfl rfl) h1
  clear hA0 hval0
  simp only [List.append_nil] at hW'
  refine (walk l0 l1 n0 n1 W).mono fun e W' ⟨he, bel⟩ => ?_
  subst he
  exact ⟨_, rfl, _, _, _, [], _, [], hW', trodAll_mk1 (shut_bool Try.underlying4 _), (trodAll_cons_mk (shut_int Try.underlying5 n0) (trodAll_cons_mk (shut_int Try.underlying23 n1) trodAll_mk0)), rfl, bel.frame _, fun h => by cases h⟩

theorem over : Rows.vaultPrunesRow.holds Try.pinned (OpenSpec.ofChange Rows.vaultPrunesSpec) :=
  OpenClaim.holds_of_wide 8 Try.f8 rfl rfl rfl rfl rfl rfl rfl ⟨rfl, rfl, rfl, rfl, rfl⟩ rfl rfl rfl rfl rfl (by kernel_rfl) Try.func8 (by kernel_rfl)
    (of_decide_eq_true (by kernel_rfl)) (by unfold Func.isWrapper; first | (rw [if_pos (by decide +kernel)]; kernel_rfl) | (rw [if_neg (by decide +kernel)]; exact ⟨rfl, rfl⟩))
    (fun os started H enc _ => lifted os started H enc)

theorem proved : Rows.VaultPrunesSaid :=
  over
#print axioms proved
end Go.Proofs.Ytogonbgelaehhaa.vaultPrunes
