/- VaultPuts is proved: versions are listed in the order in which they were put, without the one that was deleted; what is got is what was put. Conditions: none besides the statement's own. -/
import Derived.Test.YtogonbgelaehhaaUWDn
import Derived.Test.YtogonbgelaehhaaURfF
import Derived.Test.YtogonbgelaehhaaG1
import Derived.Test.YtogonbgelaehhaaMxu
import Derived.Test.YtogonbgelaehhaaG4
import Derived.Test.YtogonbgelaehhaaUWe
namespace Go.Proofs.Ytogonbgelaehhaa.vaultPuts
open Go.RowKit Go.ChangeShapes Go.WideShapes
set_option linter.unusedVariables false

theorem rep_cellsP {w : World} {X : List Value} {x : RepU RawV} (h : RepOkV w X x) : ∃ (pi : Option Addr) (ci : Nat), X[0]? = some (.int .i64 (x.err : Int)) ∧ X[1]? = some (.slice pi x.ids.length ci) ∧ Sl w 1 (.slice pi x.ids.length ci) (rowsU .u32 x.ids) ∧ X[2]? = some (.int .u32 (x.ver.id : Int)) := by
  obtain ⟨vi, q, rfl, ⟨pi, ci, rfl⟩, hs, hv⟩ := h
  obtain ⟨pb, cb, pn, cn, pz, cz, rfl⟩ := hv.row
  exact ⟨pi, ci, rfl, rfl, hs, rfl⟩
theorem own_slice {w : World} {base : Nat} {v : Value} {L : List Nat} (h : OwnR w base 23 1 v (rowsU .u32 L)) : ∃ p c, v = .slice p L.length c := by
  obtain ⟨p, c, e⟩ := h.isSlice
  rw [rowsU_len] at e
  exact ⟨p, c, e⟩
/-- what the operations of the last loop's getting come to -/
def pgS (lo n0 : Nat) (T : List Value) (vl : Value) (q : Nat) (am : Addr) (X : Nat) (opv : Value) (x : RepU RawV) (i : Nat) (v : Value) (W : World) : Prop :=
  match i with
  | 0 => v = .agg T.toArray
  | 1 => v = vl
  | 2 => v = .int .i64 (q : Int)
  | 3 => v = .pointer (some (am.add q))
  | 4 => v = .int .u32 (X : Int)
  | 5 => v = opv
  | 6 => ∃ U Y : List Value, v = .tuple #[.agg U.toArray, .agg Y.toArray] ∧ U.length = 22 ∧ U.toArray.all (·.oneCell') = true ∧ RepOkV (er lo W) Y x
  | 7 => ∃ U Y : List Value, v = .tuple #[.agg U.toArray, .agg Y.toArray] ∧ U.length = 22 ∧ U.toArray.all (·.oneCell') = true ∧ RepOkV (er lo W) Y x
  | 8 => ∃ U : List Value, v = .agg U.toArray ∧ U.length = 22 ∧ U.toArray.all (·.oneCell') = true
  | 9 => ∃ Y : List Value, v = .agg Y.toArray ∧ RepOkV (er lo W) Y x
  | 10 => ∃ g, v = .pointer (some ⟨g, 0, none⟩) ∧ n0 ≤ g ∧ ∃ U : List Value, U.length = 22 ∧ Blk W g 42 U
  | 11 => ∃ g, v = .pointer (some ⟨g, 0, none⟩) ∧ n0 ≤ g ∧ Blk W g 39 zRp
  | _ => True
theorem pgS_mono {lo n0 : Nat} {T : List Value} {vl : Value} {q : Nat} {am : Addr} {X : Nat} {opv : Value} {x : RepU RawV} (i : Nat) (v : Value) (W W' : World) (h : pgS lo n0 T vl q am X opv x i v W) (hb : Below W.heap.size W W') : pgS lo n0 T vl q am X opv x i v W' := by
  match i with
  | 0 => exact h
  | 1 => exact h
  | 2 => exact h
  | 3 => exact h
  | 4 => exact h
  | 5 => exact h
  | 6 =>
    obtain ⟨U, Y, e, h1, h2, h3⟩ := h
    exact ⟨U, Y, e, h1, h2, h3.below (er_belowS lo hb)⟩
  | 7 =>
    obtain ⟨U, Y, e, h1, h2, h3⟩ := h
    exact ⟨U, Y, e, h1, h2, h3.below (er_belowS lo hb)⟩
  | 8 => exact h
  | 9 =>
    obtain ⟨Y, e, h3⟩ := h
    exact ⟨Y, e, h3.below (er_belowS lo hb)⟩
  | 10 =>
    obtain ⟨g, e, hn, U, h1, h2⟩ := h
    exact ⟨g, e, hn, U, h1, h2.below hb h2.lt⟩
  | 11 =>
    obtain ⟨g, e, hn, h1⟩ := h
    exact ⟨g, e, hn, h1.below hb h1.lt⟩
  | _ + 12 => trivial
theorem pgS_turn {lo n0 g : Nat} {T : List Value} {vl : Value} {q : Nat} {am : Addr} {X : Nat} {opv : Value} {x : RepU RawV} {W : World} {U0 U : List Value} (hk : Blk W g 42 U0) (h0 : U0.length = 22) (hU : U.length = 22) (hg : lo ≤ g) (i : Nat) (v : Value) (h : pgS lo n0 T vl q am X opv x i v W) : pgS lo n0 T vl q am X opv x i v (W.setRow g U.toArray) := by
  have he := er_setRow lo hk (by decide) hg U.toArray
  match i with
  | 0 => exact h
  | 1 => exact h
  | 2 => exact h
  | 3 => exact h
  | 4 => exact h
  | 5 => exact h
  | 6 =>
    unfold pgS at h ⊢
    rw [he]
    exact h
  | 7 =>
    unfold pgS at h ⊢
    rw [he]
    exact h
  | 8 => exact h
  | 9 =>
    unfold pgS at h ⊢
    rw [he]
    exact h
  | 10 =>
    obtain ⟨g', e, hn, V, h1, h2⟩ := h
    by_cases hgg : g' = g
    · subst hgg
      exact ⟨g', e, hn, U, hU, hk.row U (by rw [hU, h0])⟩
    · exact ⟨g', e, hn, V, h1, h2.rowOther hgg _⟩
  | 11 =>
    obtain ⟨g', e, hn, h1⟩ := h
    exact ⟨g', e, hn, h1.rowOther (fun e => blk_ne hk h1 (by decide) e.symm) _⟩
  | _ + 12 => trivial
/-- what is kept between two puts -/
def ptI (w : World) (y z : Nat) (v : Value) (L : List Nat) (W : World) : Prop :=
  ∃ (S : List Value) (base : Nat) (vv : Value), z ≤ W.heap.size ∧ Blk W y 42 S ∧ StN W base S vv (stW L) ∧ OwnR W z 23 1 v (rowsU .u32 L) ∧ Below w.heap.size w W
set_option maxRecDepth 100000 in
set_option maxHeartbeats 8000000 in
theorem walkK (K : VaultKit) (l : List Nat) (p : Option Addr) (c : Nat) (G : Nat) (h0 : ∀ q ∈ l, q < 256) (hG : G < 256) (w : World) (hq : Sl w 1 (.slice p l.length c) (rowsU .u8 l)) :
    Calls Try.prog 7 #[.slice p l.length c, .int .u8 (G : Int)] w fun e w' => e = .returned (.bool true) ∧ Below w.heap.size w w' := by
  obtain ⟨i0, hi0, hz0, hz1, hz2⟩ := info_parts2 info_u32r
  have HS := Lib.hid (fun wx => l17_shown K wx)
  have HQ := Lib.hid hq
  have HL := Lib.hid (fun (i : Nat) (hi : i < l.length) => h0 _ (getD_memW hi))
  clear hq h0
  by_cases h30 : 30 < l.length
  · have d1 : (30 : Int) < (l.length : Int) := by omega
    go_enter Try.func7, Try.ntmps7
    go_wp2_with (first | (go_skip) | fail)
    (with_reducible refine (HS.out _).mono ?_)
    rintro e w9 ⟨rfl, b9⟩
    have B9 := Lib.hid b9
    clear b9
    go_wp2
    go_ret
    exact ⟨rfl, B9.out⟩
  · have d1 : ¬ (30 : Int) < (l.length : Int) := by omega
    have d2 : (l.length : Int) ≤ 30 := by omega
    have H30 := Lib.hid h30
    clear h30
    go_enter Try.func7, Try.ntmps7
    go_wp2_with (first | (go_skip) | fail)
    (with_reducible refine (HS.out _).mono ?_)
    rintro e w0 ⟨rfl, b0⟩
    obtain ⟨y, hy⟩ : ∃ y, w0.heap.size = y := ⟨_, rfl⟩
    have hz1' : zS.toArray.all (·.oneCell') = true := by simp [zS, zRp, cellsS, cellsR, Value.oneCell']
    obtain ⟨w1, o1⟩ := oneV 42 w0 y hy zS rfl hz1'
    have O1 := Lib.hid o1
    have HZ : Hid ((Try.prog.info? 42).map (·.size) = some zS.length) := Lib.hid (size_sv2 rfl)
    have b1 := b0.trans (o1.bl.mono b0.size)
    obtain ⟨z, hz⟩ : ∃ z, w1.heap.size = z := ⟨_, rfl⟩
    have HLO : Hid (w.heap.size ≤ y) := Lib.hid (by rw [← hy]; exact b0.size)
    have HYZ : Hid (y < z) := Lib.hid (by rw [← hz]; exact o1.kT.lt)
    have K1 : Hid (ptI w y z (.slice (some ⟨z, 0, none⟩) 0 0) [] (w1.alloc (.cells #[] 23))) := Lib.hid ⟨zS, 0, .slice none 0 0, by rw [← hz]; simp, o1.kT.alloc _, stn_zero _ 0, by have h := OwnR.empty w1 z 23 1 (Nat.le_of_eq hz.symm); rw [hz] at h; exact h, b1.alloc b1.size _⟩
    clear b0 hy hz1' o1 b1 HS
    go_wp2_with (first | (go_skip) | (refine wpList_build_at rfl 42 _ rfl (.agg zS.toArray) (by simp only [List.map_toArray, List.map_nil]; exact build_s0 _) ?_) | (refine wpList_alloc_n rfl 42 rfl y O1.out.a0 _ (alloc_sv _) ?_) | (refine wpList_store_blk rfl 42 _ _ rfl y zS rfl rfl O1.out.k0 HZ.out O1.out.lT.1 O1.out.lT.2 ?_; rw [O1.out.eq]))
    clear O1 hz
    go_loopw [6, 7] (fun u i wr => ∃ (j : Nat) (L : List Nat), j ≤ l.length ∧ i = .int .i64 (j : Int) ∧ GoodW L ∧ ptI w y z u L wr) (fun _ i _ => l.length - (intOf i).toNat)
    case atStart => exact ⟨0, [], Nat.zero_le _, rfl, good_nil, K1.out⟩
    case round =>
      obtain ⟨j, L, hj, rfl, hL, S, base, vv, hzs, kS, hn, hO, hb⟩ := hrel
      clear K1
      obtain ⟨pu, cu, rfl⟩ := own_slice hO
      have GB := Lib.hid hb
      have KS := Lib.hid kS
      obtain ⟨hST, hSo, hSl⟩ := hn.told w.heap.size
      have HST := Lib.hid hST
      have HO := Lib.hid hO
      have HZS := Lib.hid hzs
      have HGL := Lib.hid hL
      have HSO : Hid (S.length = 22 ∧ S.toArray.all (·.oneCell') = true) := Lib.hid ⟨hSl, hSo⟩
      have HSZ := Lib.hid (size_sv2 hSl)
      clear hb kS hn hST hO hL hSl hSo hzs
      by_cases hlt : j < l.length
      · obtain ⟨a, rfl, hc⟩ := SlU.cell (HQ.out.below GB.out) hlt
        have hX := HL.out j hlt
        generalize l.getD j 0 = X at *
        obtain ⟨i, hi⟩ : ∃ i, X % 12 = i := ⟨_, rfl⟩
        have hr : ((X : Nat) : Int).tmod 12 = (i : Int) := by rw [Int.tmod_eq_emod_of_nonneg (by omega)]; omega
        have hi12 : i < 12 := by omega
        have HI := Lib.hid hi12
        have HOP := Lib.hid (op_put (er w.heap.size wr) i)
        have HLT := Lib.hid hlt
        have d3 : (j : Int) < (l.length : Int) := by omega
        have d4 : (X : Int) < 256 := by omega
        clear hlt hi hX
        go_wp2_with (first | (refine wpList_load_blk rfl 42 _ rfl y rfl KS.out Try.underlying42 rfl HSZ.out ?_))
        refine (u_DoN (stW L) (.agg S.toArray) _ 1 0 (verI i) wr w.heap.size GB.out.size HST.out HOP.out (stS_W HGL.out) (by decide) (verS_I (Nat.lt_trans HI.out (by decide)))).mono ?_
        rintro e w2 ⟨U, Y, base2, vv2, rfl, hn2, hry, hb2⟩
        have hdo : doR (stW L).vers 1 0 (verI i) = ((stepW L i).map verI, ⟨errW L i, [], noV⟩) := do_putW L i
        rw [hdo] at hn2 hry
        have hn2 : StN w2 base2 U vv2 (stW (stepW L i)) := hn2
        obtain ⟨_, hUo, hUl⟩ := hn2.told w.heap.size
        obtain ⟨y3, hy3⟩ : ∃ y, w2.heap.size = y := ⟨_, rfl⟩
        obtain ⟨w3, o3⟩ := twoV 42 w2 y3 hy3 U Y hUl hUo (hry.len) (rep_one hry).1
        have b3 := hb2.trans (o3.bl.mono hb2.size)
        have G3 := Lib.hid (GB.out.trans (b3.mono GB.out.size))
        have KS3 := Lib.hid (KS.out.below b3 KS.out.lt)
        have HO3 := Lib.hid (HO.out.keep b3)
        have N3 := Lib.hid (hn2.below o3.bl)
        have HZ3 := Lib.hid (Nat.le_trans HZS.out b3.size)
        have O3 := Lib.hid o3
        have HUO : Hid (U.length = 22 ∧ U.toArray.all (·.oneCell') = true) := Lib.hid ⟨hUl, hUo⟩
        have HUZ := Lib.hid (size_sv2 hUl)
        have HSU : Hid (S.length = U.length) := Lib.hid (by rw [HSO.out.1, hUl])
        have HYY : Hid (y < y3 ∧ y3 < w3.heap.size ∧ y3 + 1 < w3.heap.size) := Lib.hid ⟨by rw [← hy3]; exact Nat.lt_of_lt_of_le KS.out.lt hb2.size, o3.kT.lt, o3.kX.lt⟩
        have HNE : Hid (∀ k, (Value.slice pu L.length cu).ownBlock = some k → k < y3) := Lib.hid fun k e => by rw [← hy3]; exact Nat.lt_of_lt_of_le (HO.out.lt k e).2 hb2.size
        obtain ⟨pi, ci, hY0, _⟩ := rep_cellsP hry
        have HY0 := Lib.hid hY0
        have KU3 := Lib.hid o3.kT
        have KY3 := Lib.hid o3.kX
        clear hdo hn2 hry hb2 hy3 hUl hUo o3 hY0 b3 hc hr d3 d4
        have d5 : (L.length : Int) ≤ 8 := by have := HGL.out.2.1; omega
        go_wp2_with (first | (go_skip) | (refine wpList_alloc_n rfl 42 rfl y3 O3.out.a0 _ (alloc_sv _) ?_) | (refine wpList_alloc_n rfl 39 rfl (y3 + 1) O3.out.a1 _ (alloc_rv _) ?_) | (refine wpList_store_blk rfl 42 _ _ rfl y3 U rfl rfl O3.out.k0 HUZ.out O3.out.lT.1 O3.out.lT.2 ?_) | (refine wpList_store_blk rfl 39 _ _ rfl (y3 + 1) Y rfl rfl O3.out.k1 O3.out.lX.1 O3.out.lX.2.1 O3.out.lX.2.2 ?_; rw [O3.out.eq]))
        clear O3 d5
        go_loopw [11, 12] (fun b k wr => ∃ q : Nat, q ≤ L.length ∧ k = .int .i64 (q : Int) ∧ b = .bool (decide (i ∈ L.take q)) ∧ Below w3.heap.size w3 wr) (fun _ k _ => L.length - (intOf k).toNat)
        case atStart => exact ⟨0, Nat.zero_le _, rfl, by simp, Below.refl _ _⟩
        case round =>
          obtain ⟨q, hq, rfl, rfl, gq⟩ := hrel
          have GQ := Lib.hid gq
          have d6 : (L.length : Int) ≤ 8 := by have := HGL.out.2.1; omega
          by_cases hlt : q < L.length
          · have d3 : (q : Int) < (L.length : Int) := by omega
            have HQL := Lib.hid hlt
            by_cases hm : i ∈ L.take q
            · have HM : Hid (decide (i ∈ L.take (q + 1)) = true) := Lib.hid (by rw [mem_take_succ hlt]; simp [hm])
              simp only [hm, decide_true]
              clear hm hlt hq gq
              go_wp2_with (first | (go_skip) | fail)
              go_roundw
              case rel => exact ⟨q + 1, by have := HQL.out; omega, by go_num, by rw [HM.out], GQ.out⟩
              case measure => (have := HQL.out; simp [intOf]; omega)
            · obtain ⟨a2, rfl, hc2⟩ := SlU.cell (HO3.out.sl.below gq) hlt
              by_cases hx : L.getD q 0 = i
              · have HM : Hid (decide (i ∈ L.take (q + 1)) = true) := Lib.hid (by rw [mem_take_succ hlt]; simp only [hx, decide_true, Bool.or_true])
                rw [hx] at hc2
                simp only [hm, decide_false]
                clear hm hlt hq gq hx
                go_wp2_with (first | (go_skip) | fail)
                go_roundw
                case rel => exact ⟨q + 1, by have := HQL.out; omega, by go_num, by rw [HM.out], GQ.out⟩
                case measure => (have := HQL.out; simp [intOf]; omega)
              · have HM : Hid (decide (i ∈ L.take (q + 1)) = false) := Lib.hid (by rw [mem_take_succ hlt, Bool.or_eq_false_iff]; exact ⟨decide_eq_false hm, decide_eq_false hx⟩)
                generalize L.getD q 0 = X2 at *
                have e2 : ((X2 : Int) == (i : Int)) = false := by simp; omega
                simp only [hm, decide_false]
                clear hm hlt hq gq hx
                go_wp2_with (first | (go_skip) | fail)
                go_roundw
                case rel => exact ⟨q + 1, by have := HQL.out; omega, by go_num, by rw [HM.out], GQ.out⟩
                case measure => (have := HQL.out; simp [intOf]; omega)
          · obtain rfl : q = L.length := by omega
            have GW := Lib.hid (G3.out.trans (gq.mono G3.out.size))
            have KSq := Lib.hid (KS3.out.below gq KS3.out.lt)
            have KUq := Lib.hid (KU3.out.below gq KU3.out.lt)
            have HOq := Lib.hid (HO3.out.keep gq)
            have KYq := Lib.hid (KY3.out.below gq KY3.out.lt)
            have Nq := Lib.hid (N3.out.below gq)
            have HZq := Lib.hid (Nat.le_trans HZ3.out gq.size)
            have d7 : (j : Int) < 30 := by have := HLT.out; have := H30.out; omega
            by_cases hm : i ∈ L
            · obtain ⟨s1, s2⟩ := step_mem hm
              have yc := KYq.out.cell 0
              rw [HY0.out, s2] at yc
              have yc0 : wr.cell? ⟨y3 + 1, 0, none⟩ = some (.int .i64 4) := yc
              rw [s1] at Nq
              simp only [List.take_length, hm, decide_true]
              clear yc s1 s2 hm hlt hq gq
              go_wp2_with (first | (go_skip) | (refine wpList_load_blk rfl 42 _ rfl y3 rfl KUq.out Try.underlying42 rfl HUZ.out ?_) | (refine wpList_store_blk rfl 42 _ _ rfl y U rfl rfl KSq.out HUZ.out HSU.out HUO.out.2 ?_))
              go_roundw
              case rel => exact ⟨j + 1, L, by have := HLT.out; omega, by go_num, HGL.out, U, base2, vv2, by simpa using HZq.out, KSq.out.row U HSU.out.symm, Nq.out.row KSq.out (by decide) (by decide) U.toArray, HOq.out.rowApart y U.toArray (fun k e => by have := (HOq.out.lt k e).1; have := HYZ.out; omega), below_setRow GW.out HLO.out _⟩
              case measure => (have := HLT.out; simp [intOf]; omega)
            · by_cases h8 : 8 ≤ L.length
              · obtain ⟨s1, s2⟩ := step_full hm h8
                have yc := KYq.out.cell 0
                rw [HY0.out, s2] at yc
                have yc0 : wr.cell? ⟨y3 + 1, 0, none⟩ = some (.int .i64 2) := yc
                rw [s1] at Nq
                have d8 : (8 : Int) ≤ (L.length : Int) := by omega
                simp only [List.take_length, hm, decide_false]
                clear yc s1 s2 hm hlt hq gq h8 d6
                go_wp2_with (first | (go_skip) | (refine wpList_load_blk rfl 42 _ rfl y3 rfl KUq.out Try.underlying42 rfl HUZ.out ?_) | (refine wpList_store_blk rfl 42 _ _ rfl y U rfl rfl KSq.out HUZ.out HSU.out HUO.out.2 ?_))
                go_roundw
                case rel => exact ⟨j + 1, L, by have := HLT.out; omega, by go_num, HGL.out, U, base2, vv2, by simpa using HZq.out, KSq.out.row U HSU.out.symm, Nq.out.row KSq.out (by decide) (by decide) U.toArray, HOq.out.rowApart y U.toArray (fun k e => by have := (HOq.out.lt k e).1; have := HYZ.out; omega), below_setRow GW.out HLO.out _⟩
                case measure => (have := HLT.out; simp [intOf]; omega)
              · obtain ⟨s1, s2⟩ := step_put hm h8
                have yc := KYq.out.cell 0
                rw [HY0.out, s2] at yc
                have yc0 : wr.cell? ⟨y3 + 1, 0, none⟩ = some (.int .i64 0) := yc
                have HER := Lib.hid s2
                have HGS : Hid (GoodW (L ++ [i])) := Lib.hid (by rw [← s1]; exact good_step HGL.out HI.out)
                rw [s1] at Nq
                have d8 : ¬ (8 : Int) ≤ (L.length : Int) := by omega
                have HNW := Lib.hid (sl_one (Blk.new' wr 23 (c := #[.int .u32 (i : Int)]) [.int .u32 (i : Int)] rfl))
                have hba := (Below.refl wr.heap.size wr).alloc (Nat.le_refl _) (.cells #[.int .u32 (i : Int)] 23)
                have HOW := Lib.hid (HOq.out.alloc (.cells #[.int .u32 (i : Int)] 23))
                have HGB := Lib.hid (GW.out.trans (hba.mono GW.out.size))
                have HZQ := Lib.hid (Nat.le_trans HZq.out hba.size)
                have HKA := Lib.hid (KSq.out.alloc (.cells #[.int .u32 (i : Int)] 23))
                have HUA := Lib.hid (KUq.out.alloc (.cells #[.int .u32 (i : Int)] 23))
                have HYA := Lib.hid (KYq.out.alloc (.cells #[.int .u32 (i : Int)] 23))
                have HNT := Lib.hid (Nq.out.below hba)
                have HONE : Hid (∀ r ∈ [[Value.int .u32 (i : Int)]], ∀ u ∈ r, u.oneCell' = true) := Lib.hid (by simp [Value.oneCell'])
                have HLEN : Hid ((rowsU .u32 L).length + [[Value.int .u32 (i : Int)]].length ≤ maxLen) := Lib.hid (by rw [rowsU_len, List.length_singleton]; unfold maxLen; omega)
                have HBY : Hid (((rowsU .u32 L).length + [[Value.int .u32 (i : Int)]].length) * 4 ≤ 140737488355328) := Lib.hid (by rw [rowsU_len, List.length_singleton]; omega)
                simp only [List.take_length, hm, decide_false]
                clear yc s1 s2 hm hlt hq gq h8 hba d6
                go_wp2_with (first | (go_skip) | (refine wpList_append_rows rfl _ _ 37 rfl z 23 i0 (.int .u32 0) 1 4 Try.underlying37 hi0 hz0 hz1 hz2 rfl (by decide) _ (rowsU .u32 L) rfl HOW.out (.slice (some ⟨wr.heap.size, 0, none⟩) 1 1) [[.int .u32 (i : Int)]] rfl HNW.out HONE.out HLEN.out HBY.out HZQ.out (.inr ⟨_, _, _, rfl⟩) ?_; intro v5 w5 ho5 hg5 hv5; have hg5 : World.grownBy _ w5 (Value.slice pu L.length cu).ownBlock := hg5; have KS5 := Lib.hid (HKA.out.grownP hg5 (fun e => by have := (HOW.out.lt y e).1; have := HYZ.out; omega)); have KU5 := Lib.hid (HUA.out.grownP hg5 (fun e => by have := HNE.out y3 e; omega)); have KY5 := Lib.hid (HYA.out.grownP hg5 (fun e => by have := HNE.out (y3 + 1) e; omega)); have N5 := Lib.hid (stn_any HNT.out (fun rows ho => ho.grownO hg5 (fun i ei e' => by obtain ⟨vs, kb⟩ := HOW.out.blkAt i e'.symm; exact ho.ne kb (by decide) i ei rfl))); have G5 := Lib.hid (HGB.out.trans (((Below.refl z _).grown hg5 HZQ.out (fun k e => (HOW.out.lt k e).1)).mono (by have := HLO.out; have := HYZ.out; omega))); have Z5 := Lib.hid (Nat.le_trans HZQ.out hg5.size); have HO5 := Lib.hid ho5; have yd := KY5.out.cell 0; rw [HY0.out, HER.out] at yd; have yd0 : w5.cell? ⟨y3 + 1, 0, none⟩ = some (.int .i64 0) := yd; clear yd ho5 hg5 hv5) | (refine wpList_load_blk rfl 42 _ rfl y3 rfl KU5.out Try.underlying42 rfl HUZ.out ?_) | (refine wpList_store_blk rfl 42 _ _ rfl y U rfl rfl KS5.out HUZ.out HSU.out HUO.out.2 ?_))
                go_roundw
                case rel => exact ⟨j + 1, L ++ [i], by have := HLT.out; omega, by go_num, HGS.out, U, base2, vv2, by simpa using Z5.out, KS5.out.row U HSU.out.symm, N5.out.row KS5.out (by decide) (by decide) U.toArray, by rw [rowsU_snoc]; exact HO5.out.rowApart y U.toArray (fun k e => by have := (HO5.out.lt k e).1; have := HYZ.out; omega), below_setRow G5.out HLO.out _⟩
                case measure => (have := HLT.out; simp [intOf]; omega)
      · obtain rfl : j = l.length := by omega
        obtain ⟨d, hd⟩ : ∃ d, G % 12 = d := ⟨_, rfl⟩
        have hr : ((G : Nat) : Int).tmod 12 = (d : Int) := by rw [Int.tmod_eq_emod_of_nonneg (by omega)]; omega
        have g1 : (G : Int) < 256 := by omega
        have hd12 : d < 12 := by omega
        have HD := Lib.hid hd12
        have HOP := Lib.hid (op_bare (er w.heap.size wr) 2 d)
        clear hlt hj hd hd12
        go_wp2_with (first | (go_skip) | (refine wpList_load_blk rfl 42 _ rfl y rfl KS.out Try.underlying42 rfl HSZ.out ?_))
        refine (K.do_ (stW L) (.agg S.toArray) _ 2 d noV wr w.heap.size GB.out.size HST.out HOP.out (stS_W HGL.out) (Nat.lt_trans HD.out (by decide)) verS_no).mono ?_
        rintro e w2 ⟨v', X, rfl, hst2, hrx, hb2⟩
        have hdo : doR (stW L).vers 2 d noV = ((leftW L d).map verI, ⟨if d ∈ L then 0 else 3, [], noV⟩) := do_delW HGL.out.1 d noV
        rw [hdo] at hst2 hrx
        have hst2 : StTold (er w.heap.size w2) v' (stW (leftW L d)) := hst2
        obtain ⟨T, rfl, hTl, hTo⟩ := st_row hst2
        obtain ⟨y4, hy4⟩ : ∃ y, w2.heap.size = y := ⟨_, rfl⟩
        obtain ⟨w3, o3⟩ := twoV 42 w2 y4 hy4 T X hTl hTo (hrx.len) (rep_one hrx).1
        have b3 := hb2.trans (o3.bl.mono hb2.size)
        have G3 := Lib.hid (GB.out.trans (b3.mono GB.out.size))
        have HO3 := Lib.hid (HO.out.keep b3)
        have T3 := Lib.hid (hst2.below (er_belowS w.heap.size o3.bl))
        have O3 := Lib.hid o3
        have HTZ := Lib.hid (size_sv2 hTl)
        obtain ⟨pi, ci, hX0, _⟩ := rep_cellsP hrx
        have HX0 := Lib.hid hX0
        have KT3 := Lib.hid o3.kT
        have KX3 := Lib.hid o3.kX
        have K2 : Hid (OwnR (w3.alloc (.cells #[] 23)) w3.heap.size 23 1 (.slice (some ⟨w3.heap.size, 0, none⟩) 0 0) (rowsU .u32 (leftW (L.take 0) d))) := Lib.hid (OwnR.empty w3 w3.heap.size 23 1 (Nat.le_refl _))
        have B2 := Lib.hid ((Below.refl w3.heap.size w3).alloc (Nat.le_refl _) (.cells #[] 23))
        clear hdo hst2 hrx hb2 hy4 hTl hTo o3 hX0 b3 hr g1 HQ HL H30 KS HST HSO HSZ HZS HO HOP
        have d5 : (L.length : Int) ≤ 8 := by have := HGL.out.2.1; omega
        go_wp2_with (first | (go_skip) | (refine wpList_alloc_n rfl 42 rfl y4 O3.out.a0 _ (alloc_sv _) ?_) | (refine wpList_alloc_n rfl 39 rfl (y4 + 1) O3.out.a1 _ (alloc_rv _) ?_) | (refine wpList_store_blk rfl 42 _ _ rfl y4 T rfl rfl O3.out.k0 HTZ.out O3.out.lT.1 O3.out.lT.2 ?_) | (refine wpList_store_blk rfl 39 _ _ rfl (y4 + 1) X rfl rfl O3.out.k1 O3.out.lX.1 O3.out.lX.2.1 O3.out.lX.2.2 ?_; rw [O3.out.eq]))
        clear O3
        go_loopw [17, 18] (fun u k wr => ∃ q : Nat, q ≤ L.length ∧ k = .int .i64 (q : Int) ∧ OwnR wr w3.heap.size 23 1 u (rowsU .u32 (leftW (L.take q) d)) ∧ Below w3.heap.size w3 wr) (fun _ k _ => L.length - (intOf k).toNat)
        case atStart => exact ⟨0, Nat.zero_le _, rfl, K2.out, B2.out⟩
        case round =>
          obtain ⟨q, hq, rfl, go1, gq⟩ := hrel
          clear K2 B2
          have GQ := Lib.hid gq
          have d5 : (L.length : Int) ≤ 8 := by have := HGL.out.2.1; omega
          by_cases hlt : q < L.length
          · obtain ⟨a2, rfl, hc2⟩ := SlU.cell (HO3.out.sl.below gq) hlt
            have d3 : (q : Int) < (L.length : Int) := by omega
            have HQL := Lib.hid hlt
            by_cases hx : L.getD q 0 = d
            · have HE : Hid (leftW (L.take (q + 1)) d = leftW (L.take q) d) := Lib.hid (by rw [left_take hlt, if_pos hx])
              rw [hx] at hc2
              have HO4 := Lib.hid go1
              clear hlt hq gq hx go1
              go_wp2_with (first | (go_skip) | fail)
              go_roundw
              case rel => exact ⟨q + 1, by have := HQL.out; omega, by go_num, by rw [HE.out]; exact HO4.out, GQ.out⟩
              case measure => (have := HQL.out; simp [intOf]; omega)
            · have HE : Hid (rowsU .u32 (leftW (L.take (q + 1)) d) = rowsU .u32 (leftW (L.take q) d) ++ [[.int .u32 (L.getD q 0 : Int)]]) := Lib.hid (by rw [left_take hlt, if_neg hx, rowsU_snoc])
              have l1 : (rowsU .u32 (leftW (L.take q) d)).length ≤ 8 := by
                rw [rowsU_len]
                exact Nat.le_trans (List.length_filter_le _ _) (by rw [List.length_take]; have := HGL.out.2.1; omega)
              generalize rowsU .u32 (leftW (L.take q) d) = R1 at *
              generalize L.getD q 0 = X2 at *
              have e2 : ((X2 : Int) != (d : Int)) = true := by simp; omega
              have HNW := Lib.hid (sl_one (Blk.new' wr 23 (c := #[.int .u32 (X2 : Int)]) [.int .u32 (X2 : Int)] rfl))
              have HLO2 := Lib.hid go1.lt
              have HOW := Lib.hid (go1.alloc (.cells #[.int .u32 (X2 : Int)] 23))
              have hgb := gq.alloc gq.size (.cells #[.int .u32 (X2 : Int)] 23)
              have HBA := Lib.hid hgb.size
              have HGB := Lib.hid hgb
              have HONE : Hid (∀ r ∈ [[Value.int .u32 (X2 : Int)]], ∀ u ∈ r, u.oneCell' = true) := Lib.hid (by simp [Value.oneCell'])
              have HLEN : Hid (R1.length + [[Value.int .u32 (X2 : Int)]].length ≤ maxLen) := Lib.hid (by rw [List.length_singleton]; unfold maxLen; omega)
              have HBY : Hid ((R1.length + [[Value.int .u32 (X2 : Int)]].length) * 4 ≤ 140737488355328) := Lib.hid (by rw [List.length_singleton]; omega)
              obtain ⟨pu2, cu2, rfl⟩ := go1.isSlice
              clear hgb go1 hlt hq gq hx l1
              go_wp2_with (first | (go_skip) | (refine wpList_append_rows rfl _ _ 37 rfl w3.heap.size 23 i0 (.int .u32 0) 1 4 Try.underlying37 hi0 hz0 hz1 hz2 rfl (by decide) _ R1 rfl HOW.out (.slice (some ⟨wr.heap.size, 0, none⟩) 1 1) [[.int .u32 (X2 : Int)]] rfl HNW.out HONE.out HLEN.out HBY.out HBA.out (.inr ⟨_, _, _, rfl⟩) ?_; intro v5 w5 ho5 hg5 hv5; have GB5 := Lib.hid (HGB.out.grown hg5 HBA.out (fun k e => (HLO2.out k e).1)); have HO5 := Lib.hid ho5; clear ho5 hg5 hv5))
              go_roundw
              case rel => exact ⟨q + 1, by have := HQL.out; omega, by go_num, by rw [HE.out]; exact HO5.out, GB5.out⟩
              case measure => (have := HQL.out; simp [intOf]; omega)
          · obtain rfl : q = L.length := by omega
            rw [List.take_length] at go1
            obtain ⟨M, hM⟩ : ∃ M, leftW L d = M := ⟨_, rfl⟩
            have hgm : GoodW M := by rw [← hM]; exact good_left HGL.out d
            have hnm : d ∉ M := by rw [← hM]; exact left_not L d
            have hlm : decide (M.length < L.length) = decide (d ∈ L) := by rw [← hM]; exact left_lt L d
            have hml : M.length ≤ L.length := by rw [← hM]; exact List.length_filter_le _ _
            rw [hM] at go1
            have hT3 := T3.out
            rw [hM] at hT3
            obtain ⟨pm, cm, rfl⟩ := own_slice go1
            have G4 := Lib.hid (G3.out.trans (gq.mono G3.out.size))
            have T4 := Lib.hid (hT3.below (er_belowS w.heap.size gq))
            have KT4 := Lib.hid (KT3.out.below gq KT3.out.lt)
            have KX4 := Lib.hid (KX3.out.below gq KX3.out.lt)
            have HM4 := Lib.hid go1.sl
            have HGM := Lib.hid hgm
            have HNM := Lib.hid hnm
            have HLM := Lib.hid hlm
            have HOP4 : Hid (OpTold (er w.heap.size wr) (.agg #[.int .i64 4, .int .u32 0, .int .u32 0, .slice none 0 0, .slice none 0 0, .slice none 0 0]) 4 0 noV) := Lib.hid (op_bare _ 4 0)
            clear hlt hq gq go1 hM hgm hnm hlm hT3 HO3 T3 KT3 KX3 G3
            go_wp2_with (first | (go_skip) | (refine wpList_load_blk rfl 42 _ rfl y4 rfl KT4.out Try.underlying42 rfl HTZ.out ?_))
            refine (K.do_ (stW M) (.agg T.toArray) _ 4 0 noV wr w.heap.size G4.out.size T4.out HOP4.out (stS_W HGM.out) (by decide) verS_no).mono ?_
            rintro e w5 ⟨v', Y, rfl, hst5, hry, hb5⟩
            have hdo : doR (stW M).vers 4 0 noV = (M.map verI, ⟨0, M, noV⟩) := do_listW M 0 noV
            rw [hdo] at hst5 hry
            obtain ⟨U, rfl, hUl, hUo⟩ := st_row hst5
            obtain ⟨y5, hy5⟩ : ∃ y, w5.heap.size = y := ⟨_, rfl⟩
            obtain ⟨w6, o6⟩ := twoV 42 w5 y5 hy5 U Y hUl hUo (hry.len) (rep_one hry).1
            have b6 := hb5.trans (o6.bl.mono hb5.size)
            have G6 := Lib.hid (G4.out.trans (b6.mono G4.out.size))
            have T6 := Lib.hid (T4.out.below (er_belowS w.heap.size b6))
            have KT6 := Lib.hid (KT4.out.below b6 KT4.out.lt)
            have KX6 := Lib.hid (KX4.out.below b6 KX4.out.lt)
            have HM6 := Lib.hid (HM4.out.below b6)
            have HUZ := Lib.hid (size_sv2 hUl)
            obtain ⟨pi5, ci5, hY0, hY1, hI, _⟩ := rep_cellsP ((hry.below (er_belowS w.heap.size o6.bl)).sub (er_sub w.heap.size w6))
            have hY1 : Y[1]? = some (.slice pi5 M.length ci5) := hY1
            have hI : Sl w6 1 (.slice pi5 M.length ci5) (rowsU .u32 M) := hI
            have HY1 := Lib.hid hY1
            have HI6 := Lib.hid hI
            have KY6 := Lib.hid o6.kX
            have O6 := Lib.hid o6
            have HOP5 : Hid (OpTold (er w.heap.size w6) (.agg #[.int .i64 5, .int .u32 (d : Int), .int .u32 0, .slice none 0 0, .slice none 0 0, .slice none 0 0]) 5 d noV) := Lib.hid (op_bare _ 5 d)
            clear hdo hst5 hry hb5 hy5 hUl hUo o6 hY0 hY1 hI b6 HOP4 T4 KT4 KX4 HM4 G4
            go_wp2_with (first | (go_skip) | (refine wpList_alloc_n rfl 42 rfl y5 O6.out.a0 _ (alloc_sv _) ?_) | (refine wpList_alloc_n rfl 39 rfl (y5 + 1) O6.out.a1 _ (alloc_rv _) ?_) | (refine wpList_store_blk rfl 42 _ _ rfl y5 U rfl rfl O6.out.k0 HUZ.out O6.out.lT.1 O6.out.lT.2 ?_) | (refine wpList_store_blk rfl 39 _ _ rfl (y5 + 1) Y rfl rfl O6.out.k1 O6.out.lX.1 O6.out.lX.2.1 O6.out.lX.2.2 ?_; rw [O6.out.eq]) | (refine wpList_load_blk rfl 42 _ rfl y4 rfl KT6.out Try.underlying42 rfl HTZ.out ?_))
            refine (K.do_ (stW M) (.agg T.toArray) _ 5 d noV w6 w.heap.size G6.out.size T6.out HOP5.out (stS_W HGM.out) (Nat.lt_trans HD.out (by decide)) verS_no).mono ?_
            rintro e w7 ⟨v', Z, rfl, hst7, hrz, hb7⟩
            have hdo : doR (stW M).vers 5 d noV = (M.map verI, ⟨3, [], noV⟩) := by have h := do_getW M d noV; rw [if_neg HNM.out] at h; exact h
            rw [hdo] at hst7 hrz
            obtain ⟨V, rfl, hVl, hVo⟩ := st_row hst7
            obtain ⟨y6, hy6⟩ : ∃ y, w7.heap.size = y := ⟨_, rfl⟩
            obtain ⟨w8, o8⟩ := twoV 42 w7 y6 hy6 V Z hVl hVo (hrz.len) (rep_one hrz).1
            have b8 := hb7.trans (o8.bl.mono hb7.size)
            have G8 := Lib.hid (G6.out.trans (b8.mono G6.out.size))
            have T8 := Lib.hid (T6.out.below (er_belowS w.heap.size b8))
            have KT8 := Lib.hid (KT6.out.below b8 KT6.out.lt)
            have hkx := KX6.out.below b8 KX6.out.lt
            have hky := KY6.out.below b8 KY6.out.lt
            have KY8 := Lib.hid hky
            have HM8 := Lib.hid (HM6.out.below b8)
            have HI8 := Lib.hid (HI6.out.below b8)
            have HVZ := Lib.hid (size_sv2 hVl)
            obtain ⟨pi7, ci7, hZ0, _⟩ := rep_cellsP hrz
            have O8 := Lib.hid o8
            have xc := hkx.cell 0
            rw [HX0.out] at xc
            have yc := hky.cell 1
            rw [HY1.out] at yc
            have zc := o8.kX.cell 0
            rw [hZ0] at zc
            have zc0 : w8.cell? ⟨y6 + 1, 0, none⟩ = some (.int .i64 3) := zc
            have yc0 : w8.cell? ⟨y5 + 1, 1, none⟩ = some (.slice pi5 M.length ci5) := yc
            have dm : (M.length : Int) ≤ 8 := by omega
            clear hdo hst7 hrz hb7 hy6 hVl hVo o8 hZ0 b8 hkx hky zc yc HOP5 T6 KT6 KX6 KY6 HM6 HI6 G6
            by_cases hdl : d ∈ L
            · have hlt2 : M.length < L.length := by have h := HLM.out; rw [decide_eq_true hdl] at h; exact of_decide_eq_true h
              rw [if_pos hdl] at xc
              have xc0 : w8.cell? ⟨y4 + 1, 0, none⟩ = some (.int .i64 0) := xc
              have d6 : (M.length : Int) < (L.length : Int) := by omega
              clear xc hdl hlt2
              go_wp2_with (first | (go_skip) | (refine wpList_alloc_n rfl 42 rfl y6 O8.out.a0 _ (alloc_sv _) ?_) | (refine wpList_alloc_n rfl 39 rfl (y6 + 1) O8.out.a1 _ (alloc_rv _) ?_) | (refine wpList_store_blk rfl 42 _ _ rfl y6 V rfl rfl O8.out.k0 HVZ.out O8.out.lT.1 O8.out.lT.2 ?_) | (refine wpList_store_blk rfl 39 _ _ rfl (y6 + 1) Z rfl rfl O8.out.k1 O8.out.lX.1 O8.out.lX.2.1 O8.out.lX.2.2 ?_; rw [O8.out.eq]))
              clear O8 xc0 yc0 zc0 d6 d5 hml
              try clear hlt2 hle
              go_loopw [23] (fun k wr => ∃ q : Nat, q ≤ M.length ∧ k = .int .i64 (q : Int) ∧ Below w8.heap.size w8 wr) (fun k _ => M.length - (intOf k).toNat)
              case atStart => exact ⟨0, Nat.zero_le _, rfl, Below.refl _ _⟩
              case round =>
                obtain ⟨q, hq, rfl, gq⟩ := hrel
                have GQ := Lib.hid gq
                have GB9 := Lib.hid (G8.out.trans (gq.mono G8.out.size))
                by_cases hlt : q < M.length
                · obtain ⟨X, hX⟩ : ∃ X, M.getD q 0 = X := ⟨_, rfl⟩
                  have hXM : X ∈ M := by rw [← hX]; exact getD_memW hlt
                  have hX12 := HGM.out.2.2 X hXM
                  obtain ⟨am, rfl, hc1⟩ := SlU.cell (HM8.out.below gq) hlt
                  obtain ⟨ai, rfl, hc3⟩ := SlU.cell (HI8.out.below gq) hlt
                  have CM : Hid (∀ wx, Below wr.heap.size wr wx → wx.cell? (am.add q) = some (.int .u32 (X : Int))) := Lib.hid fun wx hb => by
                    obtain ⟨a', e, hc⟩ := SlU.cell ((HM8.out.below GQ.out).below hb) hlt
                    cases e
                    rw [hX] at hc
                    exact hc
                  have CI : Hid (∀ wx, Below wr.heap.size wr wx → wx.cell? (ai.add q) = some (.int .u32 (X : Int))) := Lib.hid fun wx hb => by
                    obtain ⟨a', e, hc⟩ := SlU.cell ((HI8.out.below GQ.out).below hb) hlt
                    cases e
                    rw [hX] at hc
                    exact hc
                  have CD : Hid (∀ wx, Below wr.heap.size wr wx → Calls Try.prog 21 #[.agg T.toArray, (.agg #[.int .i64 5, .int .u32 (X : Int), .int .u32 0, .slice none 0 0, .slice none 0 0, .slice none 0 0])] wx (DoRet w.heap.size (stW M) (M.map verI) ⟨0, [], verI X⟩ wx)) := Lib.hid fun wx hb => by
                    have h := K.do_ (stW M) (.agg T.toArray) (.agg #[.int .i64 5, .int .u32 (X : Int), .int .u32 0, .slice none 0 0, .slice none 0 0, .slice none 0 0]) 5 X noV wx w.heap.size (GB9.out.trans (hb.mono GB9.out.size)).size ((T8.out.below (er_belowS w.heap.size GQ.out)).below (er_belowS w.heap.size hb)) (op_bare _ 5 X) (stS_W HGM.out) (Nat.lt_trans hX12 (by decide)) verS_no
                    have hdo : doR (stW M).vers 5 X noV = (M.map verI, ⟨0, [], verI X⟩) := by have h := do_getW M X noV; rw [if_pos hXM] at h; exact h
                    rw [hdo] at h
                    exact h
                  have KT9 := Lib.hid (KT8.out.below gq KT8.out.lt)
                  have KY9 := Lib.hid (KY8.out.below gq KY8.out.lt)
                  have HY9 : Hid (y5 + 1 < wr.heap.size) := Lib.hid KY9.out.lt
                  have d3 : (q : Int) < (M.length : Int) := by omega
                  have d4 : (X : Int) < 12 := by omega
                  have HQL := Lib.hid hlt
                  have HX12 := Lib.hid hX12
                  clear hX hXM hX12 hc1 hc3 hlt hq gq
                  go_wp2_with fail
                  refine region_mixU 12 13 (by decide) mixed (by kernel_rfl) (by kernel_rfl) (fun u => ((_ :: _ :: _ :: _ :: _ :: _ :: _ :: _ :: _ :: _ :: _ :: _ :: _ :: _ :: _ :: _ :: _ :: _ :: _ :: _ :: _ :: _ :: _ :: _ :: u 10 :: u 11 :: _ :: _ :: _ :: _ :: _ :: _ :: _ :: _ :: _ :: _ :: _ :: _ :: _ :: _ :: _ :: _ :: _ :: _ :: _ :: _ :: _ :: _ :: _ :: _ :: _ :: _ :: _ :: _ :: _ :: _ :: _ :: _ :: _ :: _ :: _ :: _ :: _ :: _ :: _ :: _ :: _ :: _ :: _ :: _ :: _ :: _ :: _ :: _ :: _ :: _ :: _ :: _ :: _ :: _ :: _ :: _ :: _ :: _ :: _ :: _ :: _ :: _ :: _ :: _ :: _ :: _ :: _ :: _ :: _ :: _ :: _ :: _ :: _ :: _ :: _ :: _ :: _ :: _ :: _ :: _ :: _ :: _ :: _ :: _ :: _ :: _ :: _ :: _ :: _ :: _ :: _ :: _ :: _ :: _ :: _ :: _ :: _ :: _ :: _ :: _ :: _ :: _ :: _ :: _ :: _ :: _ :: _ :: _ :: _ :: _ :: _ :: _ :: _ :: _ :: _ :: _ :: _ :: _ :: _ :: _ :: _ :: _ :: _ :: _ :: _ :: _ :: _ :: _ :: _ :: u 7 :: u 0 :: u 1 :: u 2 :: u 3 :: u 4 :: u 5 :: u 6 :: u 8 :: u 9 :: _ :: _ :: _ :: _ :: _ :: _ :: _ :: _ :: _ :: _ :: _ :: _ :: _ :: _ :: _ :: _ :: _ :: _ :: _ :: _ :: _ :: _ :: _ :: _ :: _ :: []) : List Value).toArray) [] (fun i => match i with | 0 => _ | 1 => _ | 2 => _ | 3 => _ | 4 => _ | 5 => _ | 6 => _ | 7 => _ | 8 => _ | 9 => _ | 10 => _ | 11 => _ | _ => undef) rfl (fun _ W => Below wr.heap.size wr W) (show Below _ _ _ from (Below.refl _ _).drew) (fun _ i v W => pgS w.heap.size wr.heap.size T (.slice (some am) M.length cm) q am X (.agg #[.int .i64 5, .int .u32 (X : Int), .int .u32 0, .slice none 0 0, .slice none 0 0, .slice none 0 0]) ⟨0, [], verI X⟩ i v W) ?mono ?step ?one ?last
                  case mono => exact fun b i v W W' h _ _ hb => pgS_mono i v W W' h hb
                  case step =>
                    intro bb u W m o hm hmk hneed ho hC hd
                    rcases m with _ | _ | _ | _ | _ | _ | _ | _ | _ | _ | _ | _ | _ | m
                    all_goals try (simp only [List.getElem?_cons_zero, List.getElem?_cons_succ, Option.some.injEq] at ho; subst ho)
                    · have KW := Lib.hid (KT9.out.below hC KT9.out.lt)
                      have HC := Lib.hid hC
                      clear hC hd
                      go_wp2_with (refine wpList_load_blk rfl 42 _ rfl y4 rfl KW.out Try.underlying42 rfl HTZ.out ?_)
                      exact ⟨_, rfl, rfl, HC.out, Below.refl _ _⟩
                    · go_wp2_with fail
                      exact ⟨_, rfl, rfl, hC, Below.refl _ _⟩
                    · go_wp2_with fail
                      exact ⟨_, rfl, rfl, hC, Below.refl _ _⟩
                    · have h1 : u 1 = .slice (some am) M.length cm := hd ⟨1, .data⟩ (by simp) rfl
                      have h2 : u 2 = .int .i64 (q : Int) := hd ⟨2, .data⟩ (by simp) rfl
                      rw [h1, h2]
                      go_wp2_with fail
                      exact ⟨_, by first | (simp [upd, h1, h2]; done) | (simp [upd, h1, h2]; rfl), rfl, hC, Below.refl _ _⟩
                    · have h3 : u 3 = .pointer (some (am.add q)) := hd ⟨3, .data⟩ (by simp) rfl
                      have hcw := CM.out W hC
                      have HC := Lib.hid hC
                      clear hC hd
                      rw [h3]
                      go_wp2_with fail
                      exact ⟨_, by first | (simp [upd, h3]; done) | (simp [upd, h3]; rfl), rfl, HC.out, Below.refl _ _⟩
                    · have h4 : u 4 = .int .u32 (X : Int) := hd ⟨4, .data⟩ (by simp) rfl
                      have HC := Lib.hid hC
                      clear hC hd
                      rw [h4]
                      go_wp2_with fail
                      exact ⟨_, by first | (simp [upd, h4]; done) | (simp [upd, h4]; rfl), rfl, HC.out, Below.refl _ _⟩
                    · have h0 : u 0 = .agg T.toArray := hd ⟨0, .data⟩ (by simp) rfl
                      have h5 : u 5 = (.agg #[.int .i64 5, .int .u32 (X : Int), .int .u32 0, .slice none 0 0, .slice none 0 0, .slice none 0 0]) := hd ⟨5, .data⟩ (by simp) rfl
                      have hcd := Lib.hid (CD.out W hC)
                      have HC := Lib.hid hC
                      clear hC hd
                      rw [h0, h5]
                      go_wp2_with fail
                      (with_reducible refine hcd.out.mono ?_)
                      rintro e w9 ⟨v', Y2, rfl, hst, hrx, hb9⟩
                      obtain ⟨U2, rfl, hUl, hUo⟩ := st_row hst
                      have HRX := Lib.hid hrx
                      have HB9 := Lib.hid hb9
                      have HUL : Hid (U2.length = 22 ∧ U2.toArray.all (·.oneCell') = true) := Lib.hid ⟨hUl, hUo⟩
                      clear hst hrx hb9 hUl hUo hcd
                      go_wp2_with fail
                      exact ⟨_, by first | (simp [upd, h0, h5]; done) | (simp [upd, h0, h5]; rfl), ⟨U2, Y2, rfl, HUL.out.1, HUL.out.2, HRX.out⟩, HC.out.trans (HB9.out.mono HC.out.size), HB9.out⟩
                    · have h6 : ∃ U Y : List Value, u 6 = .tuple #[.agg U.toArray, .agg Y.toArray] ∧ U.length = 22 ∧ U.toArray.all (·.oneCell') = true ∧ RepOkV (er w.heap.size W) Y ⟨0, [], verI X⟩ := hd ⟨6, .data⟩ (by simp) rfl
                      obtain ⟨U2, Y2, h6, q1, q2, q3⟩ := h6
                      rw [h6]
                      go_wp2_with fail
                      exact ⟨_, by first | (simp [upd, h6]; done) | (simp [upd, h6]; rfl), ⟨U2, Y2, rfl, q1, q2, q3⟩, hC, Below.refl _ _⟩
                    · have h7 : ∃ U Y : List Value, u 7 = .tuple #[.agg U.toArray, .agg Y.toArray] ∧ U.length = 22 ∧ U.toArray.all (·.oneCell') = true ∧ RepOkV (er w.heap.size W) Y ⟨0, [], verI X⟩ := hd ⟨7, .data⟩ (by simp) rfl
                      obtain ⟨U2, Y2, h7, q1, q2, q3⟩ := h7
                      rw [h7]
                      go_wp2_with fail
                      exact ⟨_, by first | (simp [upd, h7]; done) | (simp [upd, h7]; rfl), ⟨U2, rfl, q1, q2⟩, hC, Below.refl _ _⟩
                    · have h7 : ∃ U Y : List Value, u 7 = .tuple #[.agg U.toArray, .agg Y.toArray] ∧ U.length = 22 ∧ U.toArray.all (·.oneCell') = true ∧ RepOkV (er w.heap.size W) Y ⟨0, [], verI X⟩ := hd ⟨7, .data⟩ (by simp) rfl
                      obtain ⟨U2, Y2, h7, q1, q2, q3⟩ := h7
                      rw [h7]
                      go_wp2_with fail
                      exact ⟨_, by first | (simp [upd, h7]; done) | (simp [upd, h7]; rfl), ⟨Y2, rfl, q3⟩, hC, Below.refl _ _⟩
                    · obtain ⟨g, hg⟩ : ∃ g, W.heap.size = g := ⟨_, rfl⟩
                      have HG := Lib.hid hg
                      have NB := Lib.hid (Blk.newAt W g hg 42 (c := zS.toArray) zS rfl)
                      have BA := Lib.hid ((Below.refl W.heap.size W).alloc (Nat.le_refl _) (.cells zS.toArray 42))
                      have hle : wr.heap.size ≤ g := by rw [← hg]; exact hC.size
                      have HC := Lib.hid hC
                      clear hC hd
                      go_wp2_with (refine wpList_alloc_n rfl 42 rfl g HG.out _ (alloc_sv _) ?_)
                      exact ⟨_, rfl, ⟨g, rfl, hle, zS, rfl, NB.out⟩, HC.out.trans (BA.out.mono HC.out.size), BA.out⟩
                    · obtain ⟨g, hg⟩ : ∃ g, W.heap.size = g := ⟨_, rfl⟩
                      have HG := Lib.hid hg
                      have NB := Lib.hid (Blk.newAt W g hg 39 (c := zRp.toArray) zRp rfl)
                      have BA := Lib.hid ((Below.refl W.heap.size W).alloc (Nat.le_refl _) (.cells zRp.toArray 39))
                      have hle : wr.heap.size ≤ g := by rw [← hg]; exact hC.size
                      have HC := Lib.hid hC
                      clear hC hd
                      go_wp2_with (refine wpList_alloc_n rfl 39 rfl g HG.out _ (alloc_rep _) ?_)
                      exact ⟨_, rfl, ⟨g, rfl, hle, NB.out⟩, HC.out.trans (BA.out.mono HC.out.size), BA.out⟩
                    · omega
                    · omega
                  case one =>
                    intro u W o ho hC hd
                    simp only [List.getElem?_cons_zero, List.getElem?_cons_succ, Option.some.injEq] at ho
                    subst ho
                    have h8 : ∃ U : List Value, u 8 = .agg U.toArray ∧ U.length = 22 ∧ U.toArray.all (·.oneCell') = true := hd ⟨8, .data⟩ (by simp) rfl
                    have h10 : ∃ g, u 10 = .pointer (some ⟨g, 0, none⟩) ∧ wr.heap.size ≤ g ∧ ∃ U : List Value, U.length = 22 ∧ Blk W g 42 U := hd ⟨10, .data⟩ (by simp) rfl
                    obtain ⟨U2, h8, q1, q2⟩ := h8
                    obtain ⟨g, h10, hg, U3, q3, hk⟩ := h10
                    have KW := Lib.hid hk
                    have HC := Lib.hid hC
                    have HUL : Hid (U2.length = 22 ∧ U2.toArray.all (·.oneCell') = true ∧ U3.length = 22) := Lib.hid ⟨q1, q2, q3⟩
                    clear hd hk hC q1 q2 q3
                    rw [h8, h10]
                    go_wp2_with (refine wpList_store_blk rfl 42 _ _ rfl g U2 rfl rfl KW.out (size_sv2 HUL.out.1) (by rw [HUL.out.2.2, HUL.out.1]) HUL.out.2.1 ?_)
                    exact ⟨undef, by first | (simp [upd, h8, h10]; done) | (simp [upd, h8, h10]; rfl), trivial, below_setRow HC.out hg _, fun i _ h => pgS_turn KW.out HUL.out.2.2 HUL.out.1 (Nat.le_trans GB9.out.size hg) i (u i) h⟩
                  case last =>
                    intro u W o ho hC hSS
                    simp only [List.getElem?_cons_zero, List.getElem?_cons_succ, Option.some.injEq] at ho
                    subst ho
                    have h9 : ∃ Y : List Value, u 9 = .agg Y.toArray ∧ RepOkV (er w.heap.size W) Y ⟨0, [], verI X⟩ := hSS 9 (by decide)
                    have h11 : ∃ g, u 11 = .pointer (some ⟨g, 0, none⟩) ∧ wr.heap.size ≤ g ∧ Blk W g 39 zRp := hSS 11 (by decide)
                    obtain ⟨Y2, h9, hY⟩ := h9
                    obtain ⟨f, h11, hf, hkf⟩ := h11
                    have hY1 := rep_one hY
                    obtain ⟨_, _, hy0, _, _, hy2⟩ := rep_cellsP hY
                    have hy2 : Y2[2]? = some (.int .u32 (X : Int)) := hy2
                    have hy0 : Y2[0]? = some (.int .i64 0) := hy0
                    have hb1 := below_setRow hC hf Y2.toArray
                    have HB1 := Lib.hid hb1
                    have KF := Lib.hid hkf
                    have KX := Lib.hid (hkf.row Y2 (by rw [hY1.2.1]; rfl))
                    have HX1 := Lib.hid hY1
                    have HY20 := Lib.hid hy0
                    have HY22 := Lib.hid hy2
                    clear hSS hC hY hkf hY1 hy0 hy2 hb1
                    rw [h9, h11]
                    go_upto_region 40 with (refine wpList_store_blk rfl 39 _ _ rfl f Y2 rfl rfl KF.out (by rw [size_rep, HX1.out.2.1]) (by rw [HX1.out.2.1]; rfl) HX1.out.1 ?_)
                    generalize W.setRow f Y2.toArray = W1 at *
                    have N1 : Hid (∀ wx, NewBut W1 wx → wx.cell? ⟨y5 + 1, 1, none⟩ = some (.slice (some ai) M.length ci5)) := Lib.hid fun wx hx => by
                      have hb : Below wr.heap.size wr wx := HB1.out.trans (Below.mono hx HB1.out.size)
                      rw [(KY9.out.below hb KY9.out.lt).cell]
                      exact HY1.out
                    have N2 : Hid (∀ wx, NewBut W1 wx → wx.cell? (ai.add q) = some (.int .u32 (X : Int))) := Lib.hid fun wx hx => CI.out wx (HB1.out.trans (Below.mono hx HB1.out.size))
                    have N3 : Hid (∀ wx, NewBut W1 wx → wx.cell? (am.add q) = some (.int .u32 (X : Int))) := Lib.hid fun wx hx => CM.out wx (HB1.out.trans (Below.mono hx HB1.out.size))
                    have N4 : Hid (∀ wx, NewBut W1 wx → wx.cell? ⟨f, 0, none⟩ = some (.int .i64 0)) := Lib.hid fun wx hx => by
                      rw [(KX.out.below hx KX.out.lt).cell]
                      exact HY20.out
                    have N5 : Hid (∀ wx, NewBut W1 wx → wx.cell? ⟨f, 2, none⟩ = some (.int .u32 (X : Int))) := Lib.hid fun wx hx => by
                      rw [(KX.out.below hx KX.out.lt).cell]
                      exact HY22.out
                    refine region_quiet_tail (C := NewBut W1) 24 mixed (by kernel_rfl) (show Below _ _ _ from (Below.refl _ _).drew) ?_
                    simp only [List.take_succ_cons, List.take_zero, List.drop_succ_cons, List.drop_zero]
                    repeat (first | (refine wpQuiet_load_one rfl 37 _ rfl ⟨y5 + 1, 1, none⟩ rfl _ N1.out Try.underlying37 rfl ?_) | (refine wpQuiet_load_one rfl 23 _ rfl (ai.add q) rfl _ N2.out Try.underlying23 rfl ?_) | (refine wpQuiet_load_one rfl 23 _ rfl (am.add q) rfl _ N3.out Try.underlying23 rfl ?_) | (refine wpQuiet_load_one rfl 36 _ rfl ⟨f, 0, none⟩ rfl _ N4.out Try.underlying36 rfl ?_) | (refine wpQuiet_load_one rfl 23 _ rfl ⟨f, 2, none⟩ rfl _ N5.out Try.underlying23 rfl ?_) | go_big_quiet_step (fail) | (refine wpQuiet_step (fun K' hK' => ?_); go_simp; first | (refine hK' _ ?_; clear hK' K') | (refine ⟨_, fun _ _ => rfl, hK' _ ?_⟩; clear hK' K')))
                    refine wpQuiet_nil ?_
                    intro W2 hb2
                    have GW := Lib.hid (GQ.out.trans ((HB1.out.trans (Below.mono hb2 HB1.out.size)).mono GQ.out.size))
                    clear hb2
                    go_wp2_with (first | (go_skip) | fail)
                    go_roundw
                    case rel => exact ⟨q + 1, by have := HQL.out; omega, by go_num, GW.out⟩
                    case measure => (have := HQL.out; simp [intOf]; omega)
                · obtain rfl : q = M.length := by omega
                  clear hlt hq gq
                  go_wp2_with (first | (go_skip) | fail)
                  go_ret
                  exact ⟨rfl, GB9.out⟩
            · have hlt2 : ¬ M.length < L.length := by have h := HLM.out; rw [decide_eq_false hdl] at h; exact of_decide_eq_false h
              rw [if_neg hdl] at xc
              have xc0 : w8.cell? ⟨y4 + 1, 0, none⟩ = some (.int .i64 3) := xc
              have d6 : ¬ (M.length : Int) < (L.length : Int) := by omega
              have hle : L.length ≤ M.length := by omega
              clear xc hdl
              go_wp2_with (first | (go_skip) | (refine wpList_alloc_n rfl 42 rfl y6 O8.out.a0 _ (alloc_sv _) ?_) | (refine wpList_alloc_n rfl 39 rfl (y6 + 1) O8.out.a1 _ (alloc_rv _) ?_) | (refine wpList_store_blk rfl 42 _ _ rfl y6 V rfl rfl O8.out.k0 HVZ.out O8.out.lT.1 O8.out.lT.2 ?_) | (refine wpList_store_blk rfl 39 _ _ rfl (y6 + 1) Z rfl rfl O8.out.k1 O8.out.lX.1 O8.out.lX.2.1 O8.out.lX.2.2 ?_; rw [O8.out.eq]))
              clear O8 xc0 yc0 zc0 d6 d5 hml
              try clear hlt2 hle
              go_loopw [23] (fun k wr => ∃ q : Nat, q ≤ M.length ∧ k = .int .i64 (q : Int) ∧ Below w8.heap.size w8 wr) (fun k _ => M.length - (intOf k).toNat)
              case atStart => exact ⟨0, Nat.zero_le _, rfl, Below.refl _ _⟩
              case round =>
                obtain ⟨q, hq, rfl, gq⟩ := hrel
                have GQ := Lib.hid gq
                have GB9 := Lib.hid (G8.out.trans (gq.mono G8.out.size))
                by_cases hlt : q < M.length
                · obtain ⟨X, hX⟩ : ∃ X, M.getD q 0 = X := ⟨_, rfl⟩
                  have hXM : X ∈ M := by rw [← hX]; exact getD_memW hlt
                  have hX12 := HGM.out.2.2 X hXM
                  obtain ⟨am, rfl, hc1⟩ := SlU.cell (HM8.out.below gq) hlt
                  obtain ⟨ai, rfl, hc3⟩ := SlU.cell (HI8.out.below gq) hlt
                  have CM : Hid (∀ wx, Below wr.heap.size wr wx → wx.cell? (am.add q) = some (.int .u32 (X : Int))) := Lib.hid fun wx hb => by
                    obtain ⟨a', e, hc⟩ := SlU.cell ((HM8.out.below GQ.out).below hb) hlt
                    cases e
                    rw [hX] at hc
                    exact hc
                  have CI : Hid (∀ wx, Below wr.heap.size wr wx → wx.cell? (ai.add q) = some (.int .u32 (X : Int))) := Lib.hid fun wx hb => by
                    obtain ⟨a', e, hc⟩ := SlU.cell ((HI8.out.below GQ.out).below hb) hlt
                    cases e
                    rw [hX] at hc
                    exact hc
                  have CD : Hid (∀ wx, Below wr.heap.size wr wx → Calls Try.prog 21 #[.agg T.toArray, (.agg #[.int .i64 5, .int .u32 (X : Int), .int .u32 0, .slice none 0 0, .slice none 0 0, .slice none 0 0])] wx (DoRet w.heap.size (stW M) (M.map verI) ⟨0, [], verI X⟩ wx)) := Lib.hid fun wx hb => by
                    have h := K.do_ (stW M) (.agg T.toArray) (.agg #[.int .i64 5, .int .u32 (X : Int), .int .u32 0, .slice none 0 0, .slice none 0 0, .slice none 0 0]) 5 X noV wx w.heap.size (GB9.out.trans (hb.mono GB9.out.size)).size ((T8.out.below (er_belowS w.heap.size GQ.out)).below (er_belowS w.heap.size hb)) (op_bare _ 5 X) (stS_W HGM.out) (Nat.lt_trans hX12 (by decide)) verS_no
                    have hdo : doR (stW M).vers 5 X noV = (M.map verI, ⟨0, [], verI X⟩) := by have h := do_getW M X noV; rw [if_pos hXM] at h; exact h
                    rw [hdo] at h
                    exact h
                  have KT9 := Lib.hid (KT8.out.below gq KT8.out.lt)
                  have KY9 := Lib.hid (KY8.out.below gq KY8.out.lt)
                  have HY9 : Hid (y5 + 1 < wr.heap.size) := Lib.hid KY9.out.lt
                  have d3 : (q : Int) < (M.length : Int) := by omega
                  have d4 : (X : Int) < 12 := by omega
                  have HQL := Lib.hid hlt
                  have HX12 := Lib.hid hX12
                  clear hX hXM hX12 hc1 hc3 hlt hq gq
                  go_wp2_with fail
                  refine region_mixU 12 13 (by decide) mixed (by kernel_rfl) (by kernel_rfl) (fun u => ((_ :: _ :: _ :: _ :: _ :: _ :: _ :: _ :: _ :: _ :: _ :: _ :: _ :: _ :: _ :: _ :: _ :: _ :: _ :: _ :: _ :: _ :: _ :: _ :: u 10 :: u 11 :: _ :: _ :: _ :: _ :: _ :: _ :: _ :: _ :: _ :: _ :: _ :: _ :: _ :: _ :: _ :: _ :: _ :: _ :: _ :: _ :: _ :: _ :: _ :: _ :: _ :: _ :: _ :: _ :: _ :: _ :: _ :: _ :: _ :: _ :: _ :: _ :: _ :: _ :: _ :: _ :: _ :: _ :: _ :: _ :: _ :: _ :: _ :: _ :: _ :: _ :: _ :: _ :: _ :: _ :: _ :: _ :: _ :: _ :: _ :: _ :: _ :: _ :: _ :: _ :: _ :: _ :: _ :: _ :: _ :: _ :: _ :: _ :: _ :: _ :: _ :: _ :: _ :: _ :: _ :: _ :: _ :: _ :: _ :: _ :: _ :: _ :: _ :: _ :: _ :: _ :: _ :: _ :: _ :: _ :: _ :: _ :: _ :: _ :: _ :: _ :: _ :: _ :: _ :: _ :: _ :: _ :: _ :: _ :: _ :: _ :: _ :: _ :: _ :: _ :: _ :: _ :: _ :: _ :: _ :: _ :: _ :: _ :: _ :: _ :: _ :: _ :: _ :: _ :: _ :: u 7 :: u 0 :: u 1 :: u 2 :: u 3 :: u 4 :: u 5 :: u 6 :: u 8 :: u 9 :: _ :: _ :: _ :: _ :: _ :: _ :: _ :: _ :: _ :: _ :: _ :: _ :: _ :: _ :: _ :: _ :: _ :: _ :: _ :: _ :: _ :: _ :: _ :: _ :: _ :: []) : List Value).toArray) [] (fun i => match i with | 0 => _ | 1 => _ | 2 => _ | 3 => _ | 4 => _ | 5 => _ | 6 => _ | 7 => _ | 8 => _ | 9 => _ | 10 => _ | 11 => _ | _ => undef) rfl (fun _ W => Below wr.heap.size wr W) (show Below _ _ _ from (Below.refl _ _).drew) (fun _ i v W => pgS w.heap.size wr.heap.size T (.slice (some am) M.length cm) q am X (.agg #[.int .i64 5, .int .u32 (X : Int), .int .u32 0, .slice none 0 0, .slice none 0 0, .slice none 0 0]) ⟨0, [], verI X⟩ i v W) ?mono ?step ?one ?last
                  case mono => exact fun b i v W W' h _ _ hb => pgS_mono i v W W' h hb
                  case step =>
                    intro bb u W m o hm hmk hneed ho hC hd
                    rcases m with _ | _ | _ | _ | _ | _ | _ | _ | _ | _ | _ | _ | _ | m
                    all_goals try (simp only [List.getElem?_cons_zero, List.getElem?_cons_succ, Option.some.injEq] at ho; subst ho)
                    · have KW := Lib.hid (KT9.out.below hC KT9.out.lt)
                      have HC := Lib.hid hC
                      clear hC hd
                      go_wp2_with (refine wpList_load_blk rfl 42 _ rfl y4 rfl KW.out Try.underlying42 rfl HTZ.out ?_)
                      exact ⟨_, rfl, rfl, HC.out, Below.refl _ _⟩
                    · go_wp2_with fail
                      exact ⟨_, rfl, rfl, hC, Below.refl _ _⟩
                    · go_wp2_with fail
                      exact ⟨_, rfl, rfl, hC, Below.refl _ _⟩
                    · have h1 : u 1 = .slice (some am) M.length cm := hd ⟨1, .data⟩ (by simp) rfl
                      have h2 : u 2 = .int .i64 (q : Int) := hd ⟨2, .data⟩ (by simp) rfl
                      rw [h1, h2]
                      go_wp2_with fail
                      exact ⟨_, by first | (simp [upd, h1, h2]; done) | (simp [upd, h1, h2]; rfl), rfl, hC, Below.refl _ _⟩
                    · have h3 : u 3 = .pointer (some (am.add q)) := hd ⟨3, .data⟩ (by simp) rfl
                      have hcw := CM.out W hC
                      have HC := Lib.hid hC
                      clear hC hd
                      rw [h3]
                      go_wp2_with fail
                      exact ⟨_, by first | (simp [upd, h3]; done) | (simp [upd, h3]; rfl), rfl, HC.out, Below.refl _ _⟩
                    · have h4 : u 4 = .int .u32 (X : Int) := hd ⟨4, .data⟩ (by simp) rfl
                      have HC := Lib.hid hC
                      clear hC hd
                      rw [h4]
                      go_wp2_with fail
                      exact ⟨_, by first | (simp [upd, h4]; done) | (simp [upd, h4]; rfl), rfl, HC.out, Below.refl _ _⟩
                    · have h0 : u 0 = .agg T.toArray := hd ⟨0, .data⟩ (by simp) rfl
                      have h5 : u 5 = (.agg #[.int .i64 5, .int .u32 (X : Int), .int .u32 0, .slice none 0 0, .slice none 0 0, .slice none 0 0]) := hd ⟨5, .data⟩ (by simp) rfl
                      have hcd := Lib.hid (CD.out W hC)
                      have HC := Lib.hid hC
                      clear hC hd
                      rw [h0, h5]
                      go_wp2_with fail
                      (with_reducible refine hcd.out.mono ?_)
                      rintro e w9 ⟨v', Y2, rfl, hst, hrx, hb9⟩
                      obtain ⟨U2, rfl, hUl, hUo⟩ := st_row hst
                      have HRX := Lib.hid hrx
                      have HB9 := Lib.hid hb9
                      have HUL : Hid (U2.length = 22 ∧ U2.toArray.all (·.oneCell') = true) := Lib.hid ⟨hUl, hUo⟩
                      clear hst hrx hb9 hUl hUo hcd
                      go_wp2_with fail
                      exact ⟨_, by first | (simp [upd, h0, h5]; done) | (simp [upd, h0, h5]; rfl), ⟨U2, Y2, rfl, HUL.out.1, HUL.out.2, HRX.out⟩, HC.out.trans (HB9.out.mono HC.out.size), HB9.out⟩
                    · have h6 : ∃ U Y : List Value, u 6 = .tuple #[.agg U.toArray, .agg Y.toArray] ∧ U.length = 22 ∧ U.toArray.all (·.oneCell') = true ∧ RepOkV (er w.heap.size W) Y ⟨0, [], verI X⟩ := hd ⟨6, .data⟩ (by simp) rfl
                      obtain ⟨U2, Y2, h6, q1, q2, q3⟩ := h6
                      rw [h6]
                      go_wp2_with fail
                      exact ⟨_, by first | (simp [upd, h6]; done) | (simp [upd, h6]; rfl), ⟨U2, Y2, rfl, q1, q2, q3⟩, hC, Below.refl _ _⟩
                    · have h7 : ∃ U Y : List Value, u 7 = .tuple #[.agg U.toArray, .agg Y.toArray] ∧ U.length = 22 ∧ U.toArray.all (·.oneCell') = true ∧ RepOkV (er w.heap.size W) Y ⟨0, [], verI X⟩ := hd ⟨7, .data⟩ (by simp) rfl
                      obtain ⟨U2, Y2, h7, q1, q2, q3⟩ := h7
                      rw [h7]
                      go_wp2_with fail
                      exact ⟨_, by first | (simp [upd, h7]; done) | (simp [upd, h7]; rfl), ⟨U2, rfl, q1, q2⟩, hC, Below.refl _ _⟩
                    · have h7 : ∃ U Y : List Value, u 7 = .tuple #[.agg U.toArray, .agg Y.toArray] ∧ U.length = 22 ∧ U.toArray.all (·.oneCell') = true ∧ RepOkV (er w.heap.size W) Y ⟨0, [], verI X⟩ := hd ⟨7, .data⟩ (by simp) rfl
                      obtain ⟨U2, Y2, h7, q1, q2, q3⟩ := h7
                      rw [h7]
                      go_wp2_with fail
                      exact ⟨_, by first | (simp [upd, h7]; done) | (simp [upd, h7]; rfl), ⟨Y2, rfl, q3⟩, hC, Below.refl _ _⟩
                    · obtain ⟨g, hg⟩ : ∃ g, W.heap.size = g := ⟨_, rfl⟩
                      have HG := Lib.hid hg
                      have NB := Lib.hid (Blk.newAt W g hg 42 (c := zS.toArray) zS rfl)
                      have BA := Lib.hid ((Below.refl W.heap.size W).alloc (Nat.le_refl _) (.cells zS.toArray 42))
                      have hle : wr.heap.size ≤ g := by rw [← hg]; exact hC.size
                      have HC := Lib.hid hC
                      clear hC hd
                      go_wp2_with (refine wpList_alloc_n rfl 42 rfl g HG.out _ (alloc_sv _) ?_)
                      exact ⟨_, rfl, ⟨g, rfl, hle, zS, rfl, NB.out⟩, HC.out.trans (BA.out.mono HC.out.size), BA.out⟩
                    · obtain ⟨g, hg⟩ : ∃ g, W.heap.size = g := ⟨_, rfl⟩
                      have HG := Lib.hid hg
                      have NB := Lib.hid (Blk.newAt W g hg 39 (c := zRp.toArray) zRp rfl)
                      have BA := Lib.hid ((Below.refl W.heap.size W).alloc (Nat.le_refl _) (.cells zRp.toArray 39))
                      have hle : wr.heap.size ≤ g := by rw [← hg]; exact hC.size
                      have HC := Lib.hid hC
                      clear hC hd
                      go_wp2_with (refine wpList_alloc_n rfl 39 rfl g HG.out _ (alloc_rep _) ?_)
                      exact ⟨_, rfl, ⟨g, rfl, hle, NB.out⟩, HC.out.trans (BA.out.mono HC.out.size), BA.out⟩
                    · omega
                    · omega
                  case one =>
                    intro u W o ho hC hd
                    simp only [List.getElem?_cons_zero, List.getElem?_cons_succ, Option.some.injEq] at ho
                    subst ho
                    have h8 : ∃ U : List Value, u 8 = .agg U.toArray ∧ U.length = 22 ∧ U.toArray.all (·.oneCell') = true := hd ⟨8, .data⟩ (by simp) rfl
                    have h10 : ∃ g, u 10 = .pointer (some ⟨g, 0, none⟩) ∧ wr.heap.size ≤ g ∧ ∃ U : List Value, U.length = 22 ∧ Blk W g 42 U := hd ⟨10, .data⟩ (by simp) rfl
                    obtain ⟨U2, h8, q1, q2⟩ := h8
                    obtain ⟨g, h10, hg, U3, q3, hk⟩ := h10
                    have KW := Lib.hid hk
                    have HC := Lib.hid hC
                    have HUL : Hid (U2.length = 22 ∧ U2.toArray.all (·.oneCell') = true ∧ U3.length = 22) := Lib.hid ⟨q1, q2, q3⟩
                    clear hd hk hC q1 q2 q3
                    rw [h8, h10]
                    go_wp2_with (refine wpList_store_blk rfl 42 _ _ rfl g U2 rfl rfl KW.out (size_sv2 HUL.out.1) (by rw [HUL.out.2.2, HUL.out.1]) HUL.out.2.1 ?_)
                    exact ⟨undef, by first | (simp [upd, h8, h10]; done) | (simp [upd, h8, h10]; rfl), trivial, below_setRow HC.out hg _, fun i _ h => pgS_turn KW.out HUL.out.2.2 HUL.out.1 (Nat.le_trans GB9.out.size hg) i (u i) h⟩
                  case last =>
                    intro u W o ho hC hSS
                    simp only [List.getElem?_cons_zero, List.getElem?_cons_succ, Option.some.injEq] at ho
                    subst ho
                    have h9 : ∃ Y : List Value, u 9 = .agg Y.toArray ∧ RepOkV (er w.heap.size W) Y ⟨0, [], verI X⟩ := hSS 9 (by decide)
                    have h11 : ∃ g, u 11 = .pointer (some ⟨g, 0, none⟩) ∧ wr.heap.size ≤ g ∧ Blk W g 39 zRp := hSS 11 (by decide)
                    obtain ⟨Y2, h9, hY⟩ := h9
                    obtain ⟨f, h11, hf, hkf⟩ := h11
                    have hY1 := rep_one hY
                    obtain ⟨_, _, hy0, _, _, hy2⟩ := rep_cellsP hY
                    have hy2 : Y2[2]? = some (.int .u32 (X : Int)) := hy2
                    have hy0 : Y2[0]? = some (.int .i64 0) := hy0
                    have hb1 := below_setRow hC hf Y2.toArray
                    have HB1 := Lib.hid hb1
                    have KF := Lib.hid hkf
                    have KX := Lib.hid (hkf.row Y2 (by rw [hY1.2.1]; rfl))
                    have HX1 := Lib.hid hY1
                    have HY20 := Lib.hid hy0
                    have HY22 := Lib.hid hy2
                    clear hSS hC hY hkf hY1 hy0 hy2 hb1
                    rw [h9, h11]
                    go_upto_region 40 with (refine wpList_store_blk rfl 39 _ _ rfl f Y2 rfl rfl KF.out (by rw [size_rep, HX1.out.2.1]) (by rw [HX1.out.2.1]; rfl) HX1.out.1 ?_)
                    generalize W.setRow f Y2.toArray = W1 at *
                    have N1 : Hid (∀ wx, NewBut W1 wx → wx.cell? ⟨y5 + 1, 1, none⟩ = some (.slice (some ai) M.length ci5)) := Lib.hid fun wx hx => by
                      have hb : Below wr.heap.size wr wx := HB1.out.trans (Below.mono hx HB1.out.size)
                      rw [(KY9.out.below hb KY9.out.lt).cell]
                      exact HY1.out
                    have N2 : Hid (∀ wx, NewBut W1 wx → wx.cell? (ai.add q) = some (.int .u32 (X : Int))) := Lib.hid fun wx hx => CI.out wx (HB1.out.trans (Below.mono hx HB1.out.size))
                    have N3 : Hid (∀ wx, NewBut W1 wx → wx.cell? (am.add q) = some (.int .u32 (X : Int))) := Lib.hid fun wx hx => CM.out wx (HB1.out.trans (Below.mono hx HB1.out.size))
                    have N4 : Hid (∀ wx, NewBut W1 wx → wx.cell? ⟨f, 0, none⟩ = some (.int .i64 0)) := Lib.hid fun wx hx => by
                      rw [(KX.out.below hx KX.out.lt).cell]
                      exact HY20.out
                    have N5 : Hid (∀ wx, NewBut W1 wx → wx.cell? ⟨f, 2, none⟩ = some (.int .u32 (X : Int))) := Lib.hid fun wx hx => by
                      rw [(KX.out.below hx KX.out.lt).cell]
                      exact HY22.out
                    refine region_quiet_tail (C := NewBut W1) 24 mixed (by kernel_rfl) (show Below _ _ _ from (Below.refl _ _).drew) ?_
                    simp only [List.take_succ_cons, List.take_zero, List.drop_succ_cons, List.drop_zero]
                    repeat (first | (refine wpQuiet_load_one rfl 37 _ rfl ⟨y5 + 1, 1, none⟩ rfl _ N1.out Try.underlying37 rfl ?_) | (refine wpQuiet_load_one rfl 23 _ rfl (ai.add q) rfl _ N2.out Try.underlying23 rfl ?_) | (refine wpQuiet_load_one rfl 23 _ rfl (am.add q) rfl _ N3.out Try.underlying23 rfl ?_) | (refine wpQuiet_load_one rfl 36 _ rfl ⟨f, 0, none⟩ rfl _ N4.out Try.underlying36 rfl ?_) | (refine wpQuiet_load_one rfl 23 _ rfl ⟨f, 2, none⟩ rfl _ N5.out Try.underlying23 rfl ?_) | go_big_quiet_step (fail) | (refine wpQuiet_step (fun K' hK' => ?_); go_simp; first | (refine hK' _ ?_; clear hK' K') | (refine ⟨_, fun _ _ => rfl, hK' _ ?_⟩; clear hK' K')))
                    refine wpQuiet_nil ?_
                    intro W2 hb2
                    have GW := Lib.hid (GQ.out.trans ((HB1.out.trans (Below.mono hb2 HB1.out.size)).mono GQ.out.size))
                    clear hb2
                    go_wp2_with (first | (go_skip) | fail)
                    go_roundw
                    case rel => exact ⟨q + 1, by have := HQL.out; omega, by go_num, GW.out⟩
                    case measure => (have := HQL.out; simp [intOf]; omega)
                · obtain rfl : q = M.length := by omega
                  clear hlt hq gq
                  go_wp2_with (first | (go_skip) | fail)
                  go_ret
                  exact ⟨rfl, GB9.out⟩
theorem walk (l : List Nat) (p : Option Addr) (c : Nat) (x : Int) (h0 : ∀ q ∈ l, q < 256) (hx : (Lit.int .u8 x).wf = true) (w : World) (hq : Sl w 1 (.slice p l.length c) (rowsU .u8 l)) :
    Calls Try.prog 7 #[.slice p l.length c, .int .u8 x] w fun e w' => e = .returned (.bool true) ∧ Below w.heap.size w w' := by
  have h1 := bounds_u8 hx
  obtain ⟨n, rfl⟩ : ∃ n : Nat, x = (n : Int) := ⟨x.toNat, by omega⟩
  exact walkK theVault l p c n h0 (by omega) w hq
set_option maxRecDepth 100000 in
theorem lifted (os : Os) (started : os.Started) (H : Type) (enc : TypeId × Value → H) :
    ReturnsInHanded {} Try.checked os 7 .any (Rows.vaultPutsSpec.pre6 enc Try.prog Try.f7 Rows.vaultPutsRow.domain false) (Rows.vaultPutsSpec.post enc Try.prog Try.f7 false true false false) := by
  refine returnsInHanded_of_change (C := Try.checked) own started (by kernel_rfl) Try.func7
    (ChangeSpec.witness6 (enc := enc) (C := Try.checked) false ⟨#[], #[.slice none 0 0, .int .u8 0], []⟩ 8 (by kernel_rfl) (by kernel_rfl) (by kernel_rfl) (by kernel_rfl)) ?_
  intro W base args ds gs before hval0 hW hcnd _
  have hval : ∀ (j : Nat) t v, Try.f7.params[j]? = some t → args[j]? = some v → Value.okWide Try.prog W .any base t v := hval0
  have hW' := hW
  obtain ⟨p, q, hA0, hV, rfl, hfz, hnd⟩ := hW
  have hA : DataW.TrodAll enc Try.prog W 0 (fun _ => true) true Try.f7.params.toList args.toList ds p := hA0
  rw [Try.params7] at hA hval
  obtain ⟨v0, vs0, d0, ds0, p0, q0, hargs, rfl, rfl, h0, r0⟩ := trodAll_cons hA
  obtain ⟨v1, vs1, d1, ds1, p1, q1, rfl, rfl, rfl, h1, r1⟩ := trodAll_cons r0
  obtain ⟨rfl, rfl, rfl⟩ := trodAll_nil r1
  obtain rfl : args = #[v0, v1] := by cases args; simp_all
  obtain ⟨rfl, rfl⟩ := trodVars_none hV
  have k0 := h0
  have lt0 : ∀ x ∈ p0, x.block < W.heap.size := by obtain ⟨m, hm⟩ := k0; exact DataW.trod_lt m _ _ _ hm
  obtain ⟨a0, m0, c0, rfl⟩ := Go.WideShapes.okWide_slice Try.underlying66 (hval 0 66 v0 rfl rfl)
  obtain ⟨l0, rfl, S0, n0⟩ := open_u8s h0
  obtain ⟨l1, rfl, rfl, rfl, n1⟩ := open_int Try.underlying5 (hval 1 5 v1 rfl rfl) h1
  clear hA0 hval0
  simp only [List.append_nil] at hW'
  refine (walk l0 a0 c0 l1 n0 n1 W S0).mono fun e W' ⟨he, bel⟩ => ?_
  subst he
  exact ⟨_, rfl, _, _, _, [], _, [], hW', trodAll_mk1 (shut_bool Try.underlying4 _), (trodAll_cons_mk (Below.trod laidOut (by kernel_rfl) (of_decide_eq_true (by kernel_rfl)) k0 bel lt0) (trodAll_cons_mk (shut_int Try.underlying5 n1) trodAll_mk0)), rfl, bel.frame _, fun h => by cases h⟩

theorem over : Rows.vaultPutsRow.holds Try.pinned (OpenSpec.ofChange Rows.vaultPutsSpec) :=
  OpenClaim.holds_of_wide 7 Try.f7 rfl rfl rfl rfl rfl rfl rfl ⟨rfl, rfl, rfl, rfl, rfl⟩ rfl rfl rfl rfl rfl (by kernel_rfl) Try.func7 (by kernel_rfl)
    (of_decide_eq_true (by kernel_rfl)) (by unfold Func.isWrapper; first | (rw [if_pos (by decide +kernel)]; kernel_rfl) | (rw [if_neg (by decide +kernel)]; exact ⟨rfl, rfl⟩))
    (fun os started H enc _ => lifted os started H enc)

theorem proved : Rows.VaultPutsSaid :=
  over
#print axioms proved
end Go.Proofs.Ytogonbgelaehhaa.vaultPuts
