/- VaultParts is proved: requests that are applied in two parts come to what they do at once. Conditions: none besides the statement's own. -/
import Derived.Test.YtogonbgelaehhaaUPaN
import Derived.Test.YtogonbgelaehhaaURfF
import Derived.Test.YtogonbgelaehhaaG1
import Derived.Test.YtogonbgelaehhaaMxu
import Derived.Test.YtogonbgelaehhaaG4
import Derived.Test.YtogonbgelaehhaaUWe
namespace Go.Proofs.Ytogonbgelaehhaa.vaultParts
open Go.RowKit Go.ChangeShapes Go.WideShapes
set_option linter.unusedVariables false

theorem elem_rq : Try.prog.elem 22 = 60 := by kernel_rfl
theorem size_elem_rq (wx : World) : (sizeOf (Try.prog.elem 22)).run Try.prog wx = .ok 8 wx := by
  rw [elem_rq]
  obtain ⟨i0, hi0, _, hz1⟩ := info_req1
  simp [sizeOf, typeInfo, hi0, hz1]
theorem under_rq : Try.prog.underlying 22 = some (.slice (Try.prog.elem 22)) := by rw [elem_rq]; exact Try.underlying22
/-- the first of the requests, cut -/
theorem cutq_hi {p : Option Addr} {c : Nat} {l : List (ReqU RawV)} (h : Value.slice p l.length c = .slice none 0 0 ∨ ((∃ a, p = some a) ∧ l.length ≤ c)) (m : Nat) (hm : m ≤ l.length) :
    ∃ p2 c2, (∀ wx, (Instr.sliceAt 22 (.slice p l.length c) none (some (.int .i64 (m : Int))) none).run Try.prog wx = .ok (.slice p2 m c2) wx) ∧ ∀ wx, ReqsV wx (.slice p l.length c) l → ReqsV wx (.slice p2 m c2) (l.take m) := by
  rcases h with e | ⟨⟨a, rfl⟩, hc⟩
  · injection e with e1 e2 e3
    obtain rfl : m = 0 := by omega
    refine ⟨none, 0, fun wx => ?_, fun wx hx => ?_⟩
    · rw [e1, e2, e3, run_sliceAt_slice wx _ _ _ _ _ under_rq, run_slice_h wx _ _ _ _ under_rq .i64 _ (by omega) (by omega), size_elem_rq]
      simp [Result.andThen, sliced]
    · have h1 := hx.taken (Nat.zero_le _)
      rw [e1, e3] at h1
      exact h1
  · by_cases h0 : (0 : Nat) = c
    · obtain rfl : m = 0 := by omega
      refine ⟨some a, 0, fun wx => ?_, fun wx hx => ?_⟩
      · rw [run_sliceAt_slice wx _ _ _ _ _ under_rq, run_slice_h wx _ _ _ _ under_rq .i64 _ (by omega) (by omega), size_elem_rq]
        simp [Result.andThen, sliced, ← h0]
      · have h1 := hx.taken (Nat.zero_le _)
        rw [← h0] at h1
        exact h1
    · refine ⟨some (a.add (0 * 8)), c, fun wx => ?_, fun wx hx => ?_⟩
      · rw [run_sliceAt_slice wx _ _ _ _ _ under_rq, run_slice_h wx _ _ _ _ under_rq .i64 _ (by omega) (by omega), size_elem_rq]
        simp [Result.andThen, sliced]
        exact fun e => absurd e.symm h0
      · have e : a.add (0 * 8) = a := by simp [Addr.add]
        rw [e]
        exact hx.taken hm
def paS (lo n0 : Nat) (S : List Value) (vl : Value) (j : Nat) (ad : Addr) (row : List Value) (s' : StU RawV) (x : RepU RawV) (b : Bool) (i : Nat) (v : Value) (W : World) : Prop :=
  match i with
  | 0 => v = .agg S.toArray
  | 1 => v = vl
  | 2 => v = .int .i64 (j : Int)
  | 3 => v = .pointer (some (ad.add (j * 8)))
  | 4 => v = .agg row.toArray
  | 5 => ∃ T X : List Value, v = .tuple #[.agg T.toArray, .agg X.toArray] ∧ StTold (er lo W) (.agg T.toArray) s' ∧ RepOkV (er lo W) X x
  | 6 => ∃ T X : List Value, v = .tuple #[.agg T.toArray, .agg X.toArray] ∧ StTold (er lo W) (.agg T.toArray) s' ∧ RepOkV (er lo W) X x
  | 7 => ∃ T : List Value, v = .agg T.toArray ∧ StTold (er lo W) (.agg T.toArray) s'
  | 8 => ∃ X : List Value, v = .agg X.toArray ∧ RepOkV (er lo W) X x
  | 9 => ∃ g, v = .pointer (some ⟨g, 0, none⟩) ∧ n0 ≤ g ∧ (if b then ∃ T : List Value, Blk W g 42 T ∧ StTold (er lo W) (.agg T.toArray) s' else Blk W g 42 zS)
  | 10 => ∃ g, v = .pointer (some ⟨g, 0, none⟩) ∧ n0 ≤ g ∧ Blk W g 39 zRp
  | _ => True
theorem paS_mono {lo n0 : Nat} {S : List Value} {vl : Value} {j : Nat} {ad : Addr} {row : List Value} {s' : StU RawV} {x : RepU RawV} (b : Bool) (i : Nat) (v : Value) (W W' : World) (h : paS lo n0 S vl j ad row s' x b i v W) (hb : Below W.heap.size W W') : paS lo n0 S vl j ad row s' x b i v W' := by
  match i with
  | 0 => exact h
  | 1 => exact h
  | 2 => exact h
  | 3 => exact h
  | 4 => exact h
  | 5 =>
    obtain ⟨T, X, e, h1, h2⟩ := h
    exact ⟨T, X, e, h1.below (er_belowS lo hb), h2.below (er_belowS lo hb)⟩
  | 6 =>
    obtain ⟨T, X, e, h1, h2⟩ := h
    exact ⟨T, X, e, h1.below (er_belowS lo hb), h2.below (er_belowS lo hb)⟩
  | 7 =>
    obtain ⟨T, e, h1⟩ := h
    exact ⟨T, e, h1.below (er_belowS lo hb)⟩
  | 8 =>
    obtain ⟨X, e, h1⟩ := h
    exact ⟨X, e, h1.below (er_belowS lo hb)⟩
  | 9 =>
    obtain ⟨g, e, hn, h1⟩ := h
    refine ⟨g, e, hn, ?_⟩
    cases b with
    | false =>
      rw [if_neg (by decide)] at h1 ⊢
      exact h1.below hb h1.lt
    | true =>
      rw [if_pos rfl] at h1 ⊢
      obtain ⟨T, k1, k2⟩ := h1
      exact ⟨T, k1.below hb k1.lt, k2.below (er_belowS lo hb)⟩
  | 10 =>
    obtain ⟨g, e, hn, h1⟩ := h
    exact ⟨g, e, hn, h1.below hb h1.lt⟩
  | _ + 11 => trivial
theorem paS_turn {lo n0 g : Nat} {S : List Value} {vl : Value} {j : Nat} {ad : Addr} {row : List Value} {s' : StU RawV} {x : RepU RawV} {W : World} {T : List Value} (hk : Blk W g 42 zS) (hg : n0 ≤ g) (hlo : lo ≤ n0) (hT : StTold (er lo W) (.agg T.toArray) s') (hl : T.length = zS.length) (i : Nat) (v : Value) (h : paS lo n0 S vl j ad row s' x false i v W) (h9 : i = 9 → v = .pointer (some ⟨g, 0, none⟩)) : paS lo n0 S vl j ad row s' x true i v (W.setRow g T.toArray) := by
  have he := er_setRow lo hk (by decide) (show lo ≤ g by omega) T.toArray
  match i with
  | 0 => exact h
  | 1 => exact h
  | 2 => exact h
  | 3 => exact h
  | 4 => exact h
  | 5 =>
    unfold paS at h ⊢
    rw [he]
    exact h
  | 6 =>
    unfold paS at h ⊢
    rw [he]
    exact h
  | 7 =>
    unfold paS at h ⊢
    rw [he]
    exact h
  | 8 =>
    unfold paS at h ⊢
    rw [he]
    exact h
  | 9 =>
    refine ⟨g, h9 rfl, hg, ?_⟩
    rw [if_pos rfl, he]
    exact ⟨T, hk.row T hl, hT⟩
  | 10 =>
    obtain ⟨g', e, hn, h1⟩ := h
    exact ⟨g', e, hn, h1.rowOther (fun e => blk_ne hk h1 (by decide) e.symm) _⟩
  | _ + 11 => trivial
/-- what stays: the whole, its state and its replies -/
def paJ (w : World) (z base : Nat) (l : List (ReqU RawV)) (T : List Value) (vb : Value) (rows : List (List Value)) (W : World) : Prop :=
  Blk W z 42 T ∧ StTold (er w.heap.size W) (.agg T.toArray) (allR l).1 ∧ OwnR W base 39 6 vb rows ∧ TellRs (er w.heap.size W) rows (allR l).2 ∧ Below w.heap.size w W
theorem paJ.below {w : World} {z base : Nat} {l : List (ReqU RawV)} {T : List Value} {vb : Value} {rows : List (List Value)} {W W' : World} (h : paJ w z base l T vb rows W) (hb : Below W.heap.size W W') : paJ w z base l T vb rows W' := by
  obtain ⟨h1, h2, h3, h4, h5⟩ := h
  exact ⟨h1.below hb h1.lt, h2.below (er_belowS w.heap.size hb), h3.keep hb, h4.below (er_belowS w.heap.size hb), h5.trans (hb.mono h5.size)⟩
theorem paJ.row {w : World} {z base : Nat} {l : List (ReqU RawV)} {T : List Value} {vb : Value} {rows : List (List Value)} {W : World} (h : paJ w z base l T vb rows W) {b : Nat} {t : TypeId} {vs : List Value} (hk : Blk W b t vs) (ht : erT t = true) (hlo : w.heap.size ≤ b) (hz : z ≠ b) (hr : ∀ k, vb.ownBlock = some k → k ≠ b) (X : Array Value) : paJ w z base l T vb rows (W.setRow b X) := by
  obtain ⟨h1, h2, h3, h4, h5⟩ := h
  have e := er_setRow w.heap.size hk ht hlo X
  exact ⟨h1.rowOther hz X, by rw [e]; exact h2, h3.rowApart b X hr, by rw [e]; exact h4, below_setRow h5 hlo X⟩
/-- what is kept between two rounds -/
def paI (w : World) (y z base : Nat) (l : List (ReqU RawV)) (T : List Value) (vb : Value) (rows : List (List Value)) (j : Nat) (W : World) : Prop :=
  ∃ S : List Value, S.length = 22 ∧ S.toArray.all (·.oneCell') = true ∧ Blk W y 42 S ∧ StTold (er w.heap.size W) (.agg S.toArray) (allR (l.take j)).1 ∧ paJ w z base l T vb rows W
set_option maxRecDepth 100000 in
set_option maxHeartbeats 8000000 in
theorem walkK (K : VaultKit) (l : List (ReqU RawV)) (p : Option Addr) (c : Nat) (x : Nat) (hx : x < 256) (hin : (∀ r ∈ l, ReqIn r) ∧ l.length ≤ maxLen ∧ (Value.slice p l.length c = .slice none 0 0 ∨ ((∃ a, p = some a) ∧ l.length ≤ c))) (w : World) (hq : ReqsV w (.slice p l.length c) l) :
    Calls Try.prog 9 #[.slice p l.length c, .int .u8 (x : Int)] w fun e w' => e = .returned (.bool true) ∧ Below w.heap.size w w' := by
  have HS := Lib.hid (fun wx => l17_shown K wx)
  have HQ := Lib.hid hq
  have HH := Lib.hid (fun (b : Bool) (hb : heavyQ l = b) => l17_heavy l p c b w hb hq)
  clear hq
  cases hh : heavyQ l with
  | true =>
    have HH1 := Lib.hid (HH.out true hh)
    clear HH
    go_enter Try.func9, Try.ntmps9
    go_wp2_with fail
    (with_reducible refine HH1.out.mono ?_)
    rintro e w1 ⟨rfl, b1⟩
    have B1 := Lib.hid b1
    clear b1
    go_wp2_with (first | (go_skip) | fail)
    (with_reducible refine (HS.out _).mono ?_)
    rintro e w9 ⟨rfl, b9⟩
    have B9 := Lib.hid (B1.out.trans (b9.mono B1.out.size))
    clear b9
    go_wp2
    go_ret
    exact ⟨rfl, B9.out⟩
  | false =>
    have HH1 := Lib.hid (HH.out false hh)
    obtain ⟨h60, hok⟩ := reqs_S hin.1 hh
    obtain ⟨n, hn, hnl⟩ : ∃ n, x % (l.length + 1) = n ∧ n < l.length + 1 := ⟨_, rfl, Nat.mod_lt _ (by omega)⟩
    have e1 : (x : Int) % ((l.length : Int) + 1) = (n : Int) := by rw [← hn]; simp
    have e2 : (x : Int).tmod ((l.length : Int) + 1) = (n : Int) := by rw [Int.tmod_eq_emod_of_nonneg (by omega)]; exact e1
    have z0 : ¬ (l.length : Int) + 1 = 0 := by omega
    have x1 : (x : Int) < 256 := by omega
    have x2 : (l.length : Int) ≤ 60 := by omega
    have x3 : (n : Int) ≤ (l.length : Int) := by omega
    obtain ⟨pn, cn, hcut, hcv⟩ := cutq_hi hin.2.2 n (by omega)
    have hnt : (l.take n).length = n := by rw [List.length_take]; omega
    have hA1 : ∀ wx, Below w.heap.size w wx → Calls Try.prog 13 #[.slice pn n cn] wx fun e w' => ∃ v' vo rows, e = .returned (.tuple #[v', vo]) ∧ StTold (er w.heap.size w') v' (allR (l.take n)).1 ∧ OwnR w' wx.heap.size 39 6 vo rows ∧ TellRs (er w.heap.size w') rows (allR (l.take n)).2 ∧ Below wx.heap.size wx w' := fun wx hb => by
      have h := K.all (l.take n) pn cn wx w.heap.size hb.size (by omega) (by rw [hnt]; exact hcv _ (HQ.out.below (below_er hb))) (fun r hr => hok r (List.mem_of_mem_take hr))
      rw [hnt] at h
      exact h
    have HA1 := Lib.hid hA1
    have HA2 := Lib.hid (fun (wx : World) (hb : Below w.heap.size w wx) => K.all l p c wx w.heap.size hb.size (by omega) (HQ.out.below (below_er hb)) hok)
    have HOK := Lib.hid hok
    have HAP := Lib.hid (fun (j : Nat) (hj : j < l.length) (wx : World) (S : List Value) (row : List Value) (hb : Below w.heap.size w wx) (hst : StTold (er w.heap.size wx) (.agg S.toArray) (allR (l.take j)).1) (hrq : ReqTold (er w.heap.size wx) (.agg row.toArray) (l.getD j noQ)) => K.apply (allR (l.take j)).1 (.agg S.toArray) (.agg row.toArray) (l.getD j noQ) wx w.heap.size hb.size hst hrq (all_S (l.take j) (fun r hr => (hok r (List.mem_of_mem_take hr)).2.2)).1 (hok _ (by rw [List.getD_eq_getElem?_getD, List.getElem?_eq_getElem hj]; exact List.getElem_mem hj)))
    have H60 := Lib.hid h60
    have HNL := Lib.hid hnl
    have HNT := Lib.hid hnt
    clear HH h60 hok hn hnl e1 hcv hnt hA1 hin hx
    go_enter Try.func9, Try.ntmps9
    go_wp2_with fail
    (with_reducible refine HH1.out.mono ?_)
    rintro e w1 ⟨rfl, b1⟩
    have B1 := Lib.hid b1
    clear b1
    go_wp2_with (first | (go_skip) | fail)
    (with_reducible refine (HS.out _).mono ?_)
    rintro e w3 ⟨rfl, b3⟩
    have B3 := Lib.hid (B1.out.trans (b3.mono B1.out.size))
    clear b3 HS B1
    go_wp2_with fail
    (with_reducible refine (HA1.out w3 B3.out).mono ?_)
    rintro e w4 ⟨v', va, rows0, rfl, hst, hro, hre, b4⟩
    obtain ⟨S, rfl, hSl, hSo⟩ := st_row hst
    obtain ⟨pa, ca, rfl⟩ := hro.isSlice
    have hrl : rows0.length = n := by rw [hre.1, allR_len, HNT.out]
    rw [hrl] at hro ⊢
    obtain ⟨y, hy⟩ : ∃ y, w4.heap.size = y := ⟨_, rfl⟩
    obtain ⟨w5, o5⟩ := oneV 42 w4 y hy S hSl hSo
    have B5 := Lib.hid (B3.out.trans ((b4.trans (o5.bl.mono b4.size)).mono B3.out.size))
    have HYW : Hid (w.heap.size ≤ y) := Lib.hid (by rw [← hy]; exact Nat.le_trans B3.out.size b4.size)
    have ST5 := Lib.hid (hst.below (er_belowS w.heap.size o5.bl))
    have O5 := Lib.hid o5
    have HSZ := Lib.hid (size_sv2 hSl)
    have HSO : Hid (S.length = 22 ∧ S.toArray.all (·.oneCell') = true) := Lib.hid ⟨hSl, hSo⟩
    clear hst hro hre hrl b4 hSl hSo o5 hy B3 HA1
    go_upto_region 5 with (first | (refine wpList_alloc_n rfl 42 rfl y O5.out.a0 _ (alloc_sv _) ?_) | (refine wpList_store_blk rfl 42 _ _ rfl y S rfl rfl O5.out.k0 HSZ.out O5.out.lT.1 O5.out.lT.2 ?_; rw [O5.out.eq]))
    go_wp2_with fail
    (with_reducible refine (HA2.out w5 B5.out).mono ?_)
    rintro e w6 ⟨v', vb, rows, rfl, hst, hro, hre, b6⟩
    obtain ⟨T, rfl, hTl, hTo⟩ := st_row hst
    obtain ⟨pb, cb, rfl⟩ := hro.isSlice
    have hrl : rows.length = l.length := by rw [hre.1, allR_len]
    rw [hrl] at hro ⊢
    obtain ⟨z, hz⟩ : ∃ z, w6.heap.size = z := ⟨_, rfl⟩
    obtain ⟨w7, o7⟩ := oneV 42 w6 z hz T hTl hTo
    have hj7 : paJ w z w5.heap.size l T (.slice pb l.length cb) rows w7 := ⟨o7.kT, hst.below (er_belowS w.heap.size o7.bl), hro.keep o7.bl, hre.below (er_belowS w.heap.size o7.bl), B5.out.trans ((b6.trans (o7.bl.mono b6.size)).mono B5.out.size)⟩
    have b57 := b6.trans (o7.bl.mono b6.size)
    have I7 : Hid (paI w y z w5.heap.size l T (.slice pb l.length cb) rows n w7) := Lib.hid ⟨S, HSO.out.1, HSO.out.2, O5.out.kT.below b57 O5.out.kT.lt, ST5.out.below (er_belowS w.heap.size b57), hj7⟩
    obtain ⟨base, hbase⟩ : ∃ base, w5.heap.size = base := ⟨_, rfl⟩
    have HYB : Hid (y < base) := Lib.hid (by rw [← hbase]; exact O5.out.kT.lt)
    have HYZ : Hid (y < z) := Lib.hid (by rw [← hz]; exact Nat.lt_of_lt_of_le O5.out.kT.lt b6.size)
    rw [hbase] at I7
    have O7 := Lib.hid o7
    have HTZ := Lib.hid (size_sv2 hTl)
    clear hst hro hre hrl b6 b57 hTl hTo o7 hz ST5 O5 B5 HA2 hj7 hbase HSO HSZ
    go_wp2_with (first | (go_skip) | (refine wpList_alloc_n rfl 42 rfl z O7.out.a0 _ (alloc_sv _) ?_) | (refine wpList_store_blk rfl 42 _ _ rfl z T rfl rfl O7.out.k0 HTZ.out O7.out.lT.1 O7.out.lT.2 ?_; rw [O7.out.eq]))
    clear O7 hcut e2 z0
    go_loopw [10] (fun i wr => ∃ j : Nat, n ≤ j ∧ j ≤ l.length ∧ i = .int .i64 (j : Int) ∧ paI w y z base l T (.slice pb l.length cb) rows j wr) (fun i _ => l.length - (intOf i).toNat)
    case atStart => exact ⟨n, Nat.le_refl _, by have := HNL.out; omega, rfl, I7.out⟩
    case round =>
      obtain ⟨j, hnj, hj, rfl, S, hSl, hSo, kS, hST, hJ⟩ := hrel
      clear I7
      by_cases hlt : j < l.length
      · have hat := HQ.out.at hlt
        obtain ⟨ad, row, rfl, hadl, hrq, hrl, hcel⟩ := hat
        have HCE : Hid (∀ wx, Below w.heap.size w wx → ∀ m x, row[m]? = some x → wx.cell? ((ad.add (j * 8)).add m) = some x) := Lib.hid fun wx h m x hx => by rw [h.cell (by rw [add_block, add_block]; exact hadl)]; exact hcel m x hx
        have hb := hJ.2.2.2.2
        have HAQ : Hid (∀ wx, Below wr.heap.size wr wx → Calls Try.prog 23 #[.agg S.toArray, .agg row.toArray] wx (ApRet w.heap.size (appR (allR (l.take j)).1 (l.getD j noQ)).1 (appR (allR (l.take j)).1 (l.getD j noQ)).2 wx)) := Lib.hid fun wx h => HAP.out j hlt wx S row (hb.trans (h.mono hb.size)) (hST.below (er_belowS w.heap.size h)) (hrq.below (below_er (hb.trans (h.mono hb.size))))
        have EQ := Lib.hid (allR_take hlt)
        obtain ⟨x2, f1, u1⟩ := hJ.2.2.2.1.2 j (by rw [allR_len]; exact hlt)
        rw [allR_at hlt] at u1
        have hrx : RepS (appR (allR (l.take j)).1 (l.getD j noQ)).2 := (apply_S (all_S (l.take j) (fun r hr => (HOK.out r (List.mem_of_mem_take hr)).2.2)).1 (HOK.out _ (by rw [List.getD_eq_getElem?_getD, List.getElem?_eq_getElem hlt]; exact List.getElem_mem hlt)).2.2).2
        have HRX := Lib.hid (repS_ok hrx)
        generalize (appR (allR (l.take j)).1 (l.getD j noQ)).1 = s1 at *
        generalize (appR (allR (l.take j)).1 (l.getD j noQ)).2 = x1 at *
        obtain ⟨b1, rfl, _⟩ := hJ.2.2.1.sl.row f1
        have HRL : Hid ((Try.prog.info? 60).map (·.size) = some row.length) := Lib.hid (by rw [size_req, hrl])
        have hl2 : x2.length = 6 := u1.len
        have KS := Lib.hid kS
        have HB := Lib.hid hb
        have HSL : Hid (S.length = 22 ∧ S.toArray.all (·.oneCell') = true) := Lib.hid ⟨hSl, hSo⟩
        have HLW : Hid (w.heap.size ≤ wr.heap.size) := Lib.hid hb.size
        have HYR : Hid (y < wr.heap.size) := Lib.hid kS.lt
        have HZR : Hid (z < wr.heap.size) := Lib.hid hJ.1.lt
        have HJ := Lib.hid hJ
        have HF1 := Lib.hid f1
        have HU1 := Lib.hid u1
        have HLT := Lib.hid hlt
        have HNJ := Lib.hid hnj
        have g3 : (j : Int) < (l.length : Int) := by omega
        clear hadl hrq hrl hcel hb hrx f1 u1 hSl hSo kS hST hJ hlt hnj hj
        go_wp2_with fail
        refine region_mixU 11 12 (by decide) mixed (by kernel_rfl) (by kernel_rfl) (fun u => #[_, _, _, _, _, _, _, _, _, _, _, u 9, u 10, _, _, _, _, _, _, _, _, _, _, _, _, _, _, _, _, _, _, _, _, _, _, _, _, _, _, _, _, _, _, _, _, _, _, _, _, _, _, _, _, _, _, _, u 6, u 0, u 1, u 2, u 3, u 4, u 5, u 7, u 8, _, _, _, _, _, _, _, _, _, _, _]) [] (fun i => match i with | 0 => _ | 1 => _ | 2 => _ | 3 => _ | 4 => _ | 5 => _ | 6 => _ | 7 => _ | 8 => _ | 9 => _ | 10 => _ | _ => undef) rfl (fun _ W => Below wr.heap.size wr W) (show Below _ _ _ from (Below.refl _ _).drew) (fun b i v W => paS w.heap.size wr.heap.size S (.slice (some ad) l.length c) j ad row s1 x1 b i v W) ?mono ?step ?one ?last
        case mono => exact fun b i v W W' h _ _ hb => paS_mono b i v W W' h hb
        case step =>
          intro bb u W m o hm hmk hneed ho hC hd
          rcases m with _ | _ | _ | _ | _ | _ | _ | _ | _ | _ | _ | _ | m
          all_goals try (simp only [List.getElem?_cons_zero, List.getElem?_cons_succ, Option.some.injEq] at ho; subst ho)
          · have KW := Lib.hid (KS.out.below hC KS.out.lt)
            have HC := Lib.hid hC
            clear hC hd
            go_wp2_with (refine wpList_load_blk rfl 42 _ rfl y rfl KW.out Try.underlying42 rfl (by rw [size_sv, HSL.out.1]) ?_)
            exact ⟨_, rfl, rfl, HC.out, Below.refl _ _⟩
          · go_wp2_with fail
            exact ⟨_, rfl, rfl, hC, Below.refl _ _⟩
          · go_wp2_with fail
            exact ⟨_, rfl, rfl, hC, Below.refl _ _⟩
          · have h1 : u 1 = .slice (some ad) l.length c := hd ⟨1, .data⟩ (by simp) rfl
            have h2 : u 2 = .int .i64 (j : Int) := hd ⟨2, .data⟩ (by simp) rfl
            rw [h1, h2]
            go_wp2_with fail
            exact ⟨_, by first | (simp [upd, h1, h2]; done) | (simp [upd, h1, h2]; rfl), rfl, hC, Below.refl _ _⟩
          · have h3 : u 3 = .pointer (some (ad.add (j * 8))) := hd ⟨3, .data⟩ (by simp) rfl
            have HCW := Lib.hid (HCE.out W (HB.out.trans (hC.mono HB.out.size)))
            have HC := Lib.hid hC
            clear hC hd
            rw [h3]
            go_wp2_with (refine wpList_load_addr rfl 60 _ rfl (ad.add (j * 8)) rfl row HCW.out Try.underlying60 rfl HRL.out ?_)
            exact ⟨_, by first | (simp [upd, h3]; done) | (simp [upd, h3]; rfl), rfl, HC.out, Below.refl _ _⟩
          · have h0 : u 0 = .agg S.toArray := hd ⟨0, .data⟩ (by simp) rfl
            have h4 : u 4 = .agg row.toArray := hd ⟨4, .data⟩ (by simp) rfl
            have hq := HAQ.out W hC
            have HC := Lib.hid hC
            clear hC hd
            rw [h0, h4]
            go_wp2_with fail
            (with_reducible refine hq.mono ?_)
            rintro e w6 ⟨v', X, rfl, hst, hrx, hb6⟩
            obtain ⟨T, _, _, rfl, _⟩ := st_cells hst
            have HST := Lib.hid hst
            have HRX := Lib.hid hrx
            have HB6 := Lib.hid hb6
            clear hst hrx hb6
            go_wp2_with fail
            exact ⟨_, by first | (simp [upd, h0, h4]; done) | (simp [upd, h0, h4]; rfl), ⟨T, X, rfl, HST.out, HRX.out⟩, HC.out.trans (HB6.out.mono HC.out.size), HB6.out⟩
          · have h5 : ∃ T X : List Value, u 5 = .tuple #[.agg T.toArray, .agg X.toArray] ∧ StTold (er w.heap.size W) (.agg T.toArray) s1 ∧ RepOkV (er w.heap.size W) X x1 := hd ⟨5, .data⟩ (by simp) rfl
            obtain ⟨T, X, h5, q1, q2⟩ := h5
            rw [h5]
            go_wp2_with fail
            exact ⟨_, by first | (simp [upd, h5]; done) | (simp [upd, h5]; rfl), ⟨T, X, rfl, q1, q2⟩, hC, Below.refl _ _⟩
          · have h6 : ∃ T X : List Value, u 6 = .tuple #[.agg T.toArray, .agg X.toArray] ∧ StTold (er w.heap.size W) (.agg T.toArray) s1 ∧ RepOkV (er w.heap.size W) X x1 := hd ⟨6, .data⟩ (by simp) rfl
            obtain ⟨T, X, h6, q1, q2⟩ := h6
            rw [h6]
            go_wp2_with fail
            exact ⟨_, by first | (simp [upd, h6]; done) | (simp [upd, h6]; rfl), ⟨T, rfl, q1⟩, hC, Below.refl _ _⟩
          · have h6 : ∃ T X : List Value, u 6 = .tuple #[.agg T.toArray, .agg X.toArray] ∧ StTold (er w.heap.size W) (.agg T.toArray) s1 ∧ RepOkV (er w.heap.size W) X x1 := hd ⟨6, .data⟩ (by simp) rfl
            obtain ⟨T, X, h6, q1, q2⟩ := h6
            rw [h6]
            go_wp2_with fail
            exact ⟨_, by first | (simp [upd, h6]; done) | (simp [upd, h6]; rfl), ⟨X, rfl, q2⟩, hC, Below.refl _ _⟩
          · cases bb with
            | true => exact absurd (hneed rfl) (by decide)
            | false =>
              obtain ⟨g, hg⟩ : ∃ g, W.heap.size = g := ⟨_, rfl⟩
              have HG := Lib.hid hg
              have NB := Lib.hid (Blk.newAt W g hg 42 (c := zS.toArray) zS rfl)
              have BA := Lib.hid ((Below.refl W.heap.size W).alloc (Nat.le_refl _) (.cells zS.toArray 42))
              have hle : wr.heap.size ≤ g := by rw [← hg]; exact hC.size
              have HC := Lib.hid hC
              clear hC hd
              go_wp2_with (refine wpList_alloc_n rfl 42 rfl g HG.out _ (alloc_sv _) ?_)
              exact ⟨_, rfl, ⟨g, rfl, hle, by rw [if_neg (by decide)]; exact NB.out⟩, HC.out.trans (BA.out.mono HC.out.size), BA.out⟩
          · obtain ⟨g, hg⟩ : ∃ g, W.heap.size = g := ⟨_, rfl⟩
            have HG := Lib.hid hg
            have NB := Lib.hid (Blk.newAt W g hg 39 (c := zRp.toArray) zRp rfl)
            have BA := Lib.hid ((Below.refl W.heap.size W).alloc (Nat.le_refl _) (.cells zRp.toArray 39))
            have hle : wr.heap.size ≤ g := by rw [← hg]; exact hC.size
            have HC := Lib.hid hC
            clear hC hd
            go_wp2_with (refine wpList_alloc_n rfl 39 rfl g HG.out _ (alloc_rep _) ?_)
            exact ⟨_, rfl, ⟨g, rfl, hle, NB.out⟩, HC.out.trans (BA.out.mono HC.out.size), BA.out⟩
          · omega
          · omega
        case one =>
          intro u W o ho hC hd
          simp only [List.getElem?_cons_zero, List.getElem?_cons_succ, Option.some.injEq] at ho
          subst ho
          have h7 : ∃ T : List Value, u 7 = .agg T.toArray ∧ StTold (er w.heap.size W) (.agg T.toArray) s1 := hd ⟨7, .data⟩ (by simp) rfl
          have h9 : ∃ g, u 9 = .pointer (some ⟨g, 0, none⟩) ∧ wr.heap.size ≤ g ∧ (if false then ∃ T : List Value, Blk W g 42 T ∧ StTold (er w.heap.size W) (.agg T.toArray) s1 else Blk W g 42 zS) := hd ⟨9, .data⟩ (by simp) rfl
          obtain ⟨T, h7, hT⟩ := h7
          obtain ⟨g, h9, hg, hk⟩ := h9
          rw [if_neg (by decide)] at hk
          have hTl : T.length = 22 ∧ T.toArray.all (·.oneCell') = true := by obtain ⟨S', _, _, e, h1, h2, _⟩ := st_cells hT; have := congrArg (fun v => match v with | Value.agg c => c.toList | _ => []) e; simp at this; subst this; exact ⟨h1, h2⟩
          have KW := Lib.hid hk
          have HTL := Lib.hid hTl
          have HT := Lib.hid hT
          have HC := Lib.hid hC
          clear hd hk hT hTl hC
          rw [h7, h9]
          go_wp2_with (refine wpList_store_blk rfl 42 _ _ rfl g T rfl rfl KW.out (by rw [size_sv, HTL.out.1]) (by rw [HTL.out.1]; rfl) HTL.out.2 ?_)
          exact ⟨undef, by first | (simp [upd, h7, h9]; done) | (simp [upd, h7, h9]; rfl), trivial, below_setRow HC.out hg _, fun i _ h => paS_turn KW.out hg (HLW.out) HT.out (by rw [HTL.out.1]; rfl) i (u i) h (fun e => by rw [e]; exact h9)⟩
        case last =>
          intro u W o ho hC hSS
          simp only [List.getElem?_cons_zero, List.getElem?_cons_succ, Option.some.injEq] at ho
          subst ho
          have h8 : ∃ X : List Value, u 8 = .agg X.toArray ∧ RepOkV (er w.heap.size W) X x1 := hSS 8 (by decide)
          have h9 : ∃ g, u 9 = .pointer (some ⟨g, 0, none⟩) ∧ wr.heap.size ≤ g ∧ (if true then ∃ T : List Value, Blk W g 42 T ∧ StTold (er w.heap.size W) (.agg T.toArray) s1 else Blk W g 42 zS) := hSS 9 (by decide)
          have h10 : ∃ g, u 10 = .pointer (some ⟨g, 0, none⟩) ∧ wr.heap.size ≤ g ∧ Blk W g 39 zRp := hSS 10 (by decide)
          obtain ⟨X, h8, hX⟩ := h8
          obtain ⟨g, h9, hg, hk⟩ := h9
          obtain ⟨f, h10, hf, hkf⟩ := h10
          rw [if_pos rfl] at hk
          obtain ⟨U, hk, hU⟩ := hk
          obtain ⟨U', eU, hUl, hUo⟩ := st_row hU
          obtain rfl : U = U' := by have := congrArg (fun v => match v with | Value.agg c => c.toList | _ => []) eU; simpa using this
          have hX1 := rep_one hX
          have hgf := blk_ne hk hkf (by decide)
          have hj1 := (HJ.out.below hC).row hkf (by decide) (show w.heap.size ≤ f by have := HLW.out; omega) (show z ≠ f by have := HZR.out; omega) (fun k e => by have := (HJ.out.2.2.1.lt k e).2; omega) X.toArray
          have e1 := er_setRow w.heap.size hkf (by decide) (show w.heap.size ≤ f by have := HLW.out; omega) X.toArray
          have hkg := hk.rowOther hgf X.toArray
          have hks := (KS.out.below hC KS.out.lt).rowOther (show y ≠ f by have := HYR.out; omega) X.toArray
          have hkx := hkf.row X (by rw [hX1.2.1]; rfl)
          have HU : Hid (StTold (er w.heap.size (W.setRow f X.toArray)) (.agg U.toArray) s1) := Lib.hid (by rw [e1]; exact hU)
          have HX : Hid (RepOkV (er w.heap.size (W.setRow f X.toArray)) X x1) := Lib.hid (by rw [e1]; exact hX)
          have HV : Hid (RepOkV (er w.heap.size (W.setRow f X.toArray)) x2 x1) := Lib.hid (by rw [e1]; exact HU1.out.below (er_belowS w.heap.size hC))
          have KF := Lib.hid hkf
          have KG := Lib.hid hkg
          have KY := Lib.hid hks
          have KX := Lib.hid hkx
          have HJ1 := Lib.hid hj1
          have HX1 := Lib.hid hX1
          have HUL : Hid (U.length = 22 ∧ U.toArray.all (·.oneCell') = true) := Lib.hid ⟨hUl, hUo⟩
          have HGY : Hid (g ≠ y) := Lib.hid (by have := HYR.out; omega)
          clear hSS hC hX hU hk hkf hX1 hUl hUo hgf hj1 e1 hkg hks hkx eU
          rw [h8, h9, h10]
          go_upto_region 12 with (refine wpList_store_blk rfl 39 _ _ rfl f X rfl rfl KF.out (by rw [size_rep, HX1.out.2.1]) (by rw [HX1.out.2.1]; rfl) HX1.out.1 ?_)
          generalize W.setRow f X.toArray = W1 at *
          have HRG : Hid (∀ wx, NewBut W1 wx → wx.rangeAt f 0 X) := Lib.hid fun wx hx => (KX.out.below hx KX.out.lt).whole
          have N2 : Hid (∀ wx, NewBut W1 wx → ∀ i v, x2[i]? = some v → wx.cell? ((b1.add (j * 6)).add i) = some v) := Lib.hid fun wx hx => by
            obtain ⟨a', e, hc⟩ := (HJ1.out.2.2.1.sl.below hx).row HF1.out
            cases e
            exact hc
          have CA : Hid (∀ wx, NewBut W1 wx → Calls Try.prog 19 #[.agg X.toArray, .agg x2.toArray] wx fun x w' => x = .returned (.bool true) ∧ NewBut W1 w') := Lib.hid fun wx hx => (vr_Same x1 x1 X x2 true wx (sameR_self _) ((HX.out.below (er_belowS w.heap.size hx)).sub (er_sub w.heap.size wx)) ((HV.out.below (er_belowS w.heap.size hx)).sub (er_sub w.heap.size wx)) HRX.out HRX.out).mono fun x w' ⟨q1, q2⟩ => ⟨q1, hx.trans (q2.mono hx.size)⟩
          have hx6 : (Try.prog.info? 39).map (·.size) = some X.length := by rw [size_rep, HX1.out.2.1]
          refine region_quiet_tail (C := NewBut W1) 6 mixed (by kernel_rfl) (show Below _ _ _ from (Below.refl _ _).drew) ?_
          simp only [List.take_succ_cons, List.take_zero, List.drop_succ_cons, List.drop_zero]
          repeat (first | (refine wpQuiet_load_row rfl 39 _ rfl f 0 rfl X HRG.out Try.underlying39 rfl hx6 ?_) | (refine wpQuiet_load_addr rfl 39 _ rfl (b1.add (j * 6)) rfl x2 N2.out Try.underlying39 rfl (by rw [size_rep, hl2]) ?_) | go_big_quiet_step (fail) | (refine wpQuiet_step (fun K' hK' => ?_); go_simp; first | (refine hK' _ ?_; clear hK' K') | (refine ⟨_, fun _ _ => rfl, hK' _ ?_⟩; clear hK' K') | ((with_reducible refine ⟨_, fun wx hx => CA.out wx hx, hK' _ ?_⟩); clear hK' K')))
          refine wpQuiet_nil ?_
          intro W2 hb2
          have hb2 : Below W1.heap.size W1 W2 := hb2
          have hY2 := KY.out.below hb2 KY.out.lt
          have KY2 := Lib.hid hY2
          have KG2 := Lib.hid (KG.out.below hb2 KG.out.lt)
          have HJ3 := Lib.hid ((HJ1.out.below hb2).row hY2 (by decide) HYW.out (show z ≠ y by have := HYZ.out; omega) (fun k e => by have := (HJ1.out.2.2.1.lt k e).1; have := HYB.out; omega) U.toArray)
          have KY3 := Lib.hid (hY2.row U (by rw [HUL.out.1, HSL.out.1]))
          have HU3 : Hid (StTold (er w.heap.size (W2.setRow y U.toArray)) (.agg U.toArray) (allR (l.take (j + 1))).1) := Lib.hid (by rw [er_setRow w.heap.size hY2 (by decide) HYW.out, EQ.out]; exact HU.out.below (er_belowS w.heap.size hb2))
          clear hb2 hY2
          go_wp2_with (first | (go_skip) | (refine wpList_load_blk rfl 42 _ rfl g rfl KG2.out Try.underlying42 rfl (size_sv2 HUL.out.1) ?_) | (refine wpList_store_blk rfl 42 _ _ rfl y U rfl rfl KY2.out (size_sv2 HUL.out.1) (by rw [HUL.out.1, HSL.out.1]) HUL.out.2 ?_))
          go_roundw
          case rel => exact ⟨j + 1, by have := HNJ.out; omega, by have := HLT.out; omega, by go_num, U, HUL.out.1, HUL.out.2, KY3.out, HU3.out, HJ3.out⟩
          case measure => (have := HLT.out; simp [intOf]; omega)
      · obtain rfl : j = l.length := by omega
        rw [List.take_length] at hST
        have KS := Lib.hid kS
        have KT := Lib.hid hJ.1
        have HB := Lib.hid hJ.2.2.2.2
        have hss := (all_S l (fun r hr => (HOK.out r hr).2.2)).1
        have CE := Lib.hid (vr_Equal (allR l).1 (allR l).1 (.agg S.toArray) (.agg T.toArray) true wr (equalS_self _) (hST.sub (er_sub w.heap.size wr)) (hJ.2.1.sub (er_sub w.heap.size wr)) (stS_C hss) (stS_C hss))
        have HSZ := Lib.hid (size_sv2 hSl)
        clear hST kS hJ hss hSl hSo hnj hj hlt
        go_wp2_with (first | (refine wpList_load_blkW rfl 42 _ rfl y rfl KS.out Try.underlying42 rfl HSZ.out ?_) | (refine wpList_load_blkW rfl 42 _ rfl z rfl KT.out Try.underlying42 rfl HTZ.out ?_))
        refine CE.out.mono ?_
        rintro e w9 ⟨rfl, b9⟩
        have B9 := Lib.hid (HB.out.trans (b9.mono HB.out.size))
        clear b9
        go_wp2
        go_ret
        exact ⟨rfl, B9.out⟩
theorem walk (l : List (ReqU RawV)) (p : Option Addr) (c : Nat) (x : Int) (hin : (∀ r ∈ l, ReqIn r) ∧ l.length ≤ maxLen ∧ (Value.slice p l.length c = .slice none 0 0 ∨ ((∃ a, p = some a) ∧ l.length ≤ c))) (hx : (Lit.int .u8 x).wf = true) (w : World) (hq : ReqsV w (.slice p l.length c) l) :
    Calls Try.prog 9 #[.slice p l.length c, .int .u8 x] w fun e w' => e = .returned (.bool true) ∧ Below w.heap.size w w' := by
  have h1 := bounds_u8 hx
  obtain ⟨n, rfl⟩ : ∃ n : Nat, x = (n : Int) := ⟨x.toNat, by omega⟩
  exact walkK theVault l p c n (by omega) hin w hq
set_option maxRecDepth 100000 in
theorem lifted (os : Os) (started : os.Started) (H : Type) (enc : TypeId × Value → H) :
    ReturnsInHanded {} Try.checked os 9 .any (Rows.vaultPartsSpec.pre6 enc Try.prog Try.f9 Rows.vaultPartsRow.domain false) (Rows.vaultPartsSpec.post enc Try.prog Try.f9 false true false false) := by
  refine returnsInHanded_of_change (C := Try.checked) own started (by kernel_rfl) Try.func9
    (ChangeSpec.witness6 (enc := enc) (C := Try.checked) false ⟨#[], #[.slice none 0 0, .int .u8 0], []⟩ 8 (by kernel_rfl) (by kernel_rfl) (by kernel_rfl) (by kernel_rfl)) ?_
  intro W base args ds gs before hval0 hW hcnd _
  have hval : ∀ (j : Nat) t v, Try.f9.params[j]? = some t → args[j]? = some v → Value.okWide Try.prog W .any base t v := hval0
  have hW' := hW
  obtain ⟨p, q, hA0, hV, rfl, hfz, hnd⟩ := hW
  have hA : DataW.TrodAll enc Try.prog W 0 (fun _ => true) true Try.f9.params.toList args.toList ds p := hA0
  rw [Try.params9] at hA hval
  obtain ⟨v0, vs0, d0, ds0, p0, q0, hargs, rfl, rfl, h0, r0⟩ := trodAll_cons hA
  obtain ⟨v1, vs1, d1, ds1, p1, q1, rfl, rfl, rfl, h1, r1⟩ := trodAll_cons r0
  obtain ⟨rfl, rfl, rfl⟩ := trodAll_nil r1
  obtain rfl : args = #[v0, v1] := by cases args; simp_all
  obtain ⟨rfl, rfl⟩ := trodVars_none hV
  have k0 := h0
  have lt0 : ∀ x ∈ p0, x.block < W.heap.size := by obtain ⟨m, hm⟩ := k0; exact DataW.trod_lt m _ _ _ hm
  obtain ⟨a0, m0, c0, rfl⟩ := Go.WideShapes.okWide_slice Try.underlying22 (hval 0 22 v0 rfl rfl)
  obtain ⟨l0, rfl, S0, n0⟩ := open_reqs h0
  obtain ⟨l1, rfl, rfl, rfl, n1⟩ := open_int Try.underlying5 (hval 1 5 v1 rfl rfl) h1
  clear hA0 hval0
  simp only [List.append_nil] at hW'
  refine (walk l0 a0 c0 l1 n0 n1 W S0).mono fun e W' ⟨he, bel⟩ => ?_
  subst he
  exact ⟨_, rfl, _, _, _, [], _, [], hW', trodAll_mk1 (shut_bool Try.underlying4 _), (trodAll_cons_mk (Below.trod laidOut (by kernel_rfl) (of_decide_eq_true (by kernel_rfl)) k0 bel lt0) (trodAll_cons_mk (shut_int Try.underlying5 n1) trodAll_mk0)), rfl, bel.frame _, fun h => by cases h⟩

theorem over : Rows.vaultPartsRow.holds Try.pinned (OpenSpec.ofChange Rows.vaultPartsSpec) :=
  OpenClaim.holds_of_wide 9 Try.f9 rfl rfl rfl rfl rfl rfl rfl ⟨rfl, rfl, rfl, rfl, rfl⟩ rfl rfl rfl rfl rfl (by kernel_rfl) Try.func9 (by kernel_rfl)
    (of_decide_eq_true (by kernel_rfl)) (by unfold Func.isWrapper; first | (rw [if_pos (by decide +kernel)]; kernel_rfl) | (rw [if_neg (by decide +kernel)]; exact ⟨rfl, rfl⟩))
    (fun os started H enc _ => lifted os started H enc)

theorem proved : Rows.VaultPartsSaid :=
  over
#print axioms proved
end Go.Proofs.Ytogonbgelaehhaa.vaultParts
