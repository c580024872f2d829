/- Walk of the reference's All: all requests in order (stage 17). Written by gen/mkure.py. -/
import Derived.Test.YtogonbgelaehhaaUGb
namespace Go.Proofs.Ytogonbgelaehhaa
open Go.RowKit
set_option linter.unusedVariables false

theorem er_grown {w w' : World} {lo base : Nat} {e : TypeId} {k : Nat} {v : Value} {rows : List (List Value)} (hg : w.grownBy w' v.ownBlock) (h0 : OwnR w base e k v rows) (he : erT e = true) (hlo : lo ≤ base) : Sub (er lo w) (er lo w') := by
  refine ⟨by rw [er_size, er_size]; exact hg.size, fun a x hx => ?_⟩
  by_cases ho : some a.block = v.ownBlock
  · rcases h0.2.2 with ⟨hv, _⟩ | ⟨g, cap, cur, hv, hgb, hh, _⟩
    · rw [hv] at ho
      cases ho
    · rw [hv] at ho
      have e1 : a.block = g := Option.some.inj ho
      unfold World.cell? at hx
      rw [er_at, e1, hh] at hx
      simp [erO, he, Nat.le_trans hlo hgb] at hx
  · have hlt : a.block < w.heap.size := by
      rcases Nat.lt_or_ge a.block w.heap.size with h | h
      · exact h
      · unfold World.cell? at hx
        rw [er_at, Array.getElem?_eq_none h] at hx
        cases hx
    unfold World.cell? at hx ⊢
    rw [er_at, hg.block _ hlt ho, ← er_at]
    exact hx
theorem blk_ne {w : World} {g g' : Nat} {t t' : TypeId} {vs vs' : List Value} (h : Blk w g t vs) (h' : Blk w g' t' vs') (ht : t ≠ t') : g ≠ g' := by
  rintro rfl
  unfold Blk at h h'
  rw [h] at h'
  simp at h'
  exact ht h'.2
def alS (lo n0 : Nat) (S : List Value) (vl : Value) (j : Nat) (ad : Addr) (row : List Value) (s' : StU RawV) (x : RepU RawV) (b : Bool) (i : Nat) (v : Value) (W : World) : Prop :=
  match i with
  | 0 => v = .agg S.toArray
  | 1 => v = vl
  | 2 => v = .int .i64 (j : Int)
  | 3 => v = .pointer (some (ad.add (j * 8)))
  | 4 => v = .agg row.toArray
  | 5 => ∃ T X : List Value, v = .tuple #[.agg T.toArray, .agg X.toArray] ∧ StTold (er lo W) (.agg T.toArray) s' ∧ RepOkV (er lo W) X x
  | 6 => ∃ T X : List Value, v = .tuple #[.agg T.toArray, .agg X.toArray] ∧ StTold (er lo W) (.agg T.toArray) s' ∧ RepOkV (er lo W) X x
  | 7 => ∃ T : List Value, v = .agg T.toArray ∧ StTold (er lo W) (.agg T.toArray) s'
  | 8 => ∃ X : List Value, v = .agg X.toArray ∧ RepOkV (er lo W) X x
  | 9 => ∃ g, v = .pointer (some ⟨g, 0, none⟩) ∧ n0 ≤ g ∧ (if b then ∃ T : List Value, Blk W g 46 T ∧ StTold (er lo W) (.agg T.toArray) s' else Blk W g 46 zS)
  | 10 => ∃ g, v = .pointer (some ⟨g, 0, none⟩) ∧ n0 ≤ g ∧ Blk W g 39 zRp
  | _ => True
theorem alS_mono {lo n0 : Nat} {S : List Value} {vl : Value} {j : Nat} {ad : Addr} {row : List Value} {s' : StU RawV} {x : RepU RawV} (b : Bool) (i : Nat) (v : Value) (W W' : World) (h : alS lo n0 S vl j ad row s' x b i v W) (hb : Below W.heap.size W W') : alS lo n0 S vl j ad row s' x b i v W' := by
  match i with
  | 0 => exact h
  | 1 => exact h
  | 2 => exact h
  | 3 => exact h
  | 4 => exact h
  | 5 =>
    obtain ⟨T, X, e, h1, h2⟩ := h
    exact ⟨T, X, e, h1.below (er_belowS lo hb), h2.below (er_belowS lo hb)⟩
  | 6 =>
    obtain ⟨T, X, e, h1, h2⟩ := h
    exact ⟨T, X, e, h1.below (er_belowS lo hb), h2.below (er_belowS lo hb)⟩
  | 7 =>
    obtain ⟨T, e, h1⟩ := h
    exact ⟨T, e, h1.below (er_belowS lo hb)⟩
  | 8 =>
    obtain ⟨X, e, h1⟩ := h
    exact ⟨X, e, h1.below (er_belowS lo hb)⟩
  | 9 =>
    obtain ⟨g, e, hn, h1⟩ := h
    refine ⟨g, e, hn, ?_⟩
    cases b with
    | false =>
      rw [if_neg (by decide)] at h1 ⊢
      exact h1.below hb h1.lt
    | true =>
      rw [if_pos rfl] at h1 ⊢
      obtain ⟨T, k1, k2⟩ := h1
      exact ⟨T, k1.below hb k1.lt, k2.below (er_belowS lo hb)⟩
  | 10 =>
    obtain ⟨g, e, hn, h1⟩ := h
    exact ⟨g, e, hn, h1.below hb h1.lt⟩
  | _ + 11 => trivial
theorem alS_turn {lo n0 g : Nat} {S : List Value} {vl : Value} {j : Nat} {ad : Addr} {row : List Value} {s' : StU RawV} {x : RepU RawV} {W : World} {T : List Value} (hk : Blk W g 46 zS) (hg : n0 ≤ g) (hlo : lo ≤ n0) (hT : StTold (er lo W) (.agg T.toArray) s') (hl : T.length = zS.length) (i : Nat) (v : Value) (h : alS lo n0 S vl j ad row s' x false i v W) (h9 : i = 9 → v = .pointer (some ⟨g, 0, none⟩)) : alS lo n0 S vl j ad row s' x true i v (W.setRow g T.toArray) := by
  have he := er_setRow lo hk (by decide) (show lo ≤ g by omega) T.toArray
  match i with
  | 0 => exact h
  | 1 => exact h
  | 2 => exact h
  | 3 => exact h
  | 4 => exact h
  | 5 =>
    unfold alS at h ⊢
    rw [he]
    exact h
  | 6 =>
    unfold alS at h ⊢
    rw [he]
    exact h
  | 7 =>
    unfold alS at h ⊢
    rw [he]
    exact h
  | 8 =>
    unfold alS at h ⊢
    rw [he]
    exact h
  | 9 =>
    refine ⟨g, h9 rfl, hg, ?_⟩
    rw [if_pos rfl, he]
    exact ⟨T, hk.row T hl, hT⟩
  | 10 =>
    obtain ⟨g', e, hn, h1⟩ := h
    exact ⟨g', e, hn, h1.rowOther (fun e => blk_ne hk h1 (by decide) e.symm) _⟩
  | _ + 11 => trivial
/-- what is kept between two rounds -/
def alI (w : World) (lo B : Nat) (l : List (ReqU RawV)) (j : Nat) (ov : Value) (W : World) : Prop :=
  ∃ rows S, OwnR W (B + 2) 39 6 ov rows ∧ TellRs (er lo W) rows (allR (l.take j)).2 ∧ Blk W (B + 1) 46 S ∧ StTold (er lo W) (.agg S.toArray) (allR (l.take j)).1 ∧ Blk W B 46 zS ∧ Below w.heap.size w W
set_option maxRecDepth 100000 in
set_option maxHeartbeats 1000000 in
theorem vr_All (l : List (ReqU RawV)) (p : Option Addr) (c : Nat) (w : World) (lo : Nat) (hlo : lo ≤ w.heap.size) (hl : l.length ≤ 1000000) (hq : ReqsV (er lo w) (.slice p l.length c) l) (hok : ∀ r ∈ l, ReqOk r) :
    Calls Try.prog 14 #[.slice p l.length c] w fun e w' => ∃ v' vo rows, e = .returned (.tuple #[v', vo]) ∧ StTold (er lo w') v' (allR l).1 ∧ OwnR w' w.heap.size 39 6 vo rows ∧ TellRs (er lo w') rows (allR l).2 ∧ Below w.heap.size w w' := by
  obtain ⟨i0, hi0, hz0, hz1, hz2⟩ := info_parts2 info_repV
  obtain ⟨B, hB⟩ : ∃ B, w.heap.size = B := ⟨_, rfl⟩
  have k0 := Blk.newAt w B hB 46 (c := zS.toArray) zS rfl
  have z1 : (w.alloc (.cells zS.toArray 46)).heap.size = B + 1 := by simp [hB]
  have k1 := Blk.newAt _ (B + 1) z1 46 (c := zS.toArray) zS rfl
  have kb := ((Below.refl w.heap.size w).alloc (Nat.le_refl _) (.cells zS.toArray 46)).alloc (by simp) (.cells zS.toArray 46)
  have k0' := (k0.alloc (.cells zS.toArray 46)).rowOther (show B ≠ B + 1 by omega) zS.toArray
  have k1' := k1.row zS rfl
  have kb' := below_setRow kb (show w.heap.size ≤ B + 1 by omega) zS.toArray
  have ko := OwnR.empty ((((w.alloc (.cells zS.toArray 46)).alloc (.cells zS.toArray 46))).setRow (B + 1) zS.toArray) (B + 2) 39 6 (by simp [hB])
  have kb2 := kb'.alloc kb'.size (.cells #[] 39)
  have A1 := Lib.hid k1
  have Z0 := Lib.hid hB
  have Z1 := Lib.hid z1
  have INI : Hid (alI w lo B l 0 _ _) := Lib.hid ⟨[], zS, ko, TellRs.nil _, k1'.alloc _, st0_told _, k0'.alloc _, kb2⟩
  have HQ := Lib.hid hq
  have HLO : Hid (lo ≤ B) := Lib.hid (hB ▸ hlo)
  have HOK := Lib.hid hok
  clear k0 z1 k1 kb k0' k1' kb' ko kb2 hq hok
  go_enter Try.func14, Try.ntmps14
  go_wp2_with (first | (refine wpList_alloc_n rfl 46 rfl B Z0.out _ (alloc_st _) ?_) | (refine wpList_alloc_n rfl 46 rfl (B + 1) Z1.out _ (alloc_st _) ?_) | (refine wpList_build_at rfl 46 _ rfl (.agg zS.toArray) (by simp only [List.map_toArray, List.map_nil]; exact build_st0 _) ?_) | (refine wpList_store_blk rfl 46 _ _ rfl (B + 1) zS rfl rfl A1.out (by rw [size_st]; rfl) rfl zS_one ?_))
  clear A1 Z1
  go_loopw [5, 6] (fun u i wr => ∃ j : Nat, j ≤ l.length ∧ i = .int .i64 (j : Int) ∧ alI w lo B l j u wr) (fun _ i _ => l.length - (intOf i).toNat)
  case atStart => exact ⟨0, by omega, rfl, by simpa [hB] using INI.out⟩
  case round =>
    obtain ⟨j, hj, rfl, rows, S, hO, hR, hS1, hST, hS0, hb⟩ := hrel
    obtain ⟨pu, cu, rfl⟩ := hO.isSlice
    clear INI
    by_cases hlt : j < l.length
    · have hat := HQ.out.at hlt
      obtain ⟨ad, row, rfl, hadl, hrq, hrl, hcel⟩ := hat
      rw [er_size] at hadl
      replace hcel := fun m x hx => (er_sub lo w).2 _ _ (hcel m x hx)
      have HCE : Hid (∀ wx, Below w.heap.size w wx → ∀ m x, row[m]? = some x → wx.cell? ((ad.add (j * 8)).add m) = some x) := Lib.hid fun wx h m x hx => by rw [h.cell (by rw [add_block, add_block]; exact hadl)]; exact hcel m x hx
      have hBw : B ≤ wr.heap.size := by rw [← hB]; exact hb.size
      have HAP : Hid (∀ wx, Below wr.heap.size wr wx → Calls Try.prog 27 #[.agg S.toArray, .agg row.toArray] wx (ApRet lo (appR (allR (l.take j)).1 (l.getD j noQ)).1 (appR (allR (l.take j)).1 (l.getD j noQ)).2 wx)) := Lib.hid fun wx h => vr_Ap (allR (l.take j)).1 _ _ (l.getD j noQ) wx lo (Nat.le_trans HLO.out (Nat.le_trans hBw h.size)) (hST.below (er_belowS lo h)) (hrq.below (er_belowS lo (hb.trans (h.mono hb.size)))) (Nat.le_trans (allR_ok (l.take j)).vers.few (by decide)) (HOK.out _ (by rw [List.getD_eq_getElem?_getD, List.getElem?_eq_getElem hlt]; exact List.getElem_mem hlt))
      have EQ := Lib.hid (allR_take hlt)
      generalize (appR (allR (l.take j)).1 (l.getD j noQ)).1 = s1 at *
      generalize (appR (allR (l.take j)).1 (l.getD j noQ)).2 = x1 at *
      have HRL : Hid ((Try.prog.info? 60).map (·.size) = some row.length) := Lib.hid (by rw [size_req, hrl])
      have HO := Lib.hid hO
      have HR := Lib.hid hR
      have HS1 := Lib.hid hS1
      have HS0 := Lib.hid hS0
      have HB := Lib.hid hb
      have HSL : Hid (S.length = 22 ∧ S.toArray.all (·.oneCell') = true) := Lib.hid (by obtain ⟨S', _, _, e, h1, h2, _⟩ := st_cells hST; have := congrArg (fun v => match v with | Value.agg c => c.toList | _ => []) e; simp at this; subst this; exact ⟨h1, h2⟩)
      have HBW := Lib.hid hBw
      have hn0 : B + 1 < wr.heap.size := hS1.lt
      have HN0 := Lib.hid hn0
      have g2 : l.length ≤ 1000000 := hl
      have g3 : (j : Int) < (l.length : Int) := by omega
      clear hO hR hS1 hST hS0 hb hadl hrq hrl hcel hBw hn0
      go_wp2_with fail
      refine region_mixU 11 12 (by decide) mixed (by kernel_rfl) (by kernel_rfl) (fun u => #[_, _, _, _, _, _, _, u 9, u 10, _, _, _, _, _, _, _, _, u 6, u 0, u 1, u 2, u 3, u 4, u 5, u 7, u 8, _, _, _, _, _, _, _]) [] (fun i => match i with | 0 => _ | 1 => _ | 2 => _ | 3 => _ | 4 => _ | 5 => _ | 6 => _ | 7 => _ | 8 => _ | 9 => _ | 10 => _ | _ => undef) rfl (fun _ W => Below wr.heap.size wr W) (show Below _ _ _ from (Below.refl _ _).drew) (fun b i v W => alS lo wr.heap.size S (.slice (some ad) l.length c) j ad row s1 x1 b i v W) ?mono ?step ?one ?last
      case mono => exact fun b i v W W' h _ _ hb => alS_mono b i v W W' h hb
      case step =>
        intro bb u W m o hm hmk hneed ho hC hd
        rcases m with _ | _ | _ | _ | _ | _ | _ | _ | _ | _ | _ | _ | m
        all_goals try (simp only [List.getElem?_cons_zero, List.getElem?_cons_succ, Option.some.injEq] at ho; subst ho)
        · have KW := Lib.hid (HS1.out.below hC HS1.out.lt)
          have HC := Lib.hid hC
          clear hC hd
          go_wp2_with (refine wpList_load_blk rfl 46 _ rfl (B + 1) rfl KW.out Try.underlying46 rfl (by rw [size_st, HSL.out.1]) ?_)
          exact ⟨_, rfl, rfl, HC.out, Below.refl _ _⟩
        · go_wp2_with fail
          exact ⟨_, rfl, rfl, hC, Below.refl _ _⟩
        · go_wp2_with fail
          exact ⟨_, rfl, rfl, hC, Below.refl _ _⟩
        · have h1 : u 1 = .slice (some ad) l.length c := hd ⟨1, .data⟩ (by simp) rfl
          have h2 : u 2 = .int .i64 (j : Int) := hd ⟨2, .data⟩ (by simp) rfl
          rw [h1, h2]
          go_wp2_with fail
          exact ⟨_, by first | (simp [upd, h1, h2]; done) | (simp [upd, h1, h2]; rfl), rfl, hC, Below.refl _ _⟩
        · have h3 : u 3 = .pointer (some (ad.add (j * 8))) := hd ⟨3, .data⟩ (by simp) rfl
          have HCW := Lib.hid (HCE.out W (HB.out.trans (hC.mono HB.out.size)))
          have HC := Lib.hid hC
          clear hC hd
          rw [h3]
          go_wp2_with (refine wpList_load_addr rfl 60 _ rfl (ad.add (j * 8)) rfl row HCW.out Try.underlying60 rfl HRL.out ?_)
          exact ⟨_, by first | (simp [upd, h3]; done) | (simp [upd, h3]; rfl), rfl, HC.out, Below.refl _ _⟩
        · have h0 : u 0 = .agg S.toArray := hd ⟨0, .data⟩ (by simp) rfl
          have h4 : u 4 = .agg row.toArray := hd ⟨4, .data⟩ (by simp) rfl
          have hq := HAP.out W hC
          have HC := Lib.hid hC
          clear hC hd
          rw [h0, h4]
          go_wp2_with fail
          (with_reducible refine hq.mono ?_)
          rintro e w6 ⟨v', X, rfl, hst, hrx, hb6⟩
          obtain ⟨T, _, _, rfl, _⟩ := st_cells hst
          have HST := Lib.hid hst
          have HRX := Lib.hid hrx
          have HB6 := Lib.hid hb6
          clear hst hrx hb6
          go_wp2_with fail
          exact ⟨_, by first | (simp [upd, h0, h4]; done) | (simp [upd, h0, h4]; rfl), ⟨T, X, rfl, HST.out, HRX.out⟩, HC.out.trans (HB6.out.mono HC.out.size), HB6.out⟩
        · have h5 : ∃ T X : List Value, u 5 = .tuple #[.agg T.toArray, .agg X.toArray] ∧ StTold (er lo W) (.agg T.toArray) s1 ∧ RepOkV (er lo W) X x1 := hd ⟨5, .data⟩ (by simp) rfl
          obtain ⟨T, X, h5, q1, q2⟩ := h5
          rw [h5]
          go_wp2_with fail
          exact ⟨_, by first | (simp [upd, h5]; done) | (simp [upd, h5]; rfl), ⟨T, X, rfl, q1, q2⟩, hC, Below.refl _ _⟩
        · have h6 : ∃ T X : List Value, u 6 = .tuple #[.agg T.toArray, .agg X.toArray] ∧ StTold (er lo W) (.agg T.toArray) s1 ∧ RepOkV (er lo W) X x1 := hd ⟨6, .data⟩ (by simp) rfl
          obtain ⟨T, X, h6, q1, q2⟩ := h6
          rw [h6]
          go_wp2_with fail
          exact ⟨_, by first | (simp [upd, h6]; done) | (simp [upd, h6]; rfl), ⟨T, rfl, q1⟩, hC, Below.refl _ _⟩
        · have h6 : ∃ T X : List Value, u 6 = .tuple #[.agg T.toArray, .agg X.toArray] ∧ StTold (er lo W) (.agg T.toArray) s1 ∧ RepOkV (er lo W) X x1 := hd ⟨6, .data⟩ (by simp) rfl
          obtain ⟨T, X, h6, q1, q2⟩ := h6
          rw [h6]
          go_wp2_with fail
          exact ⟨_, by first | (simp [upd, h6]; done) | (simp [upd, h6]; rfl), ⟨X, rfl, q2⟩, hC, Below.refl _ _⟩
        · cases bb with
          | true => exact absurd (hneed rfl) (by decide)
          | false =>
            obtain ⟨g, hg⟩ : ∃ g, W.heap.size = g := ⟨_, rfl⟩
            have HG := Lib.hid hg
            have NB := Lib.hid (Blk.newAt W g hg 46 (c := zS.toArray) zS rfl)
            have BA := Lib.hid ((Below.refl W.heap.size W).alloc (Nat.le_refl _) (.cells zS.toArray 46))
            have hle : wr.heap.size ≤ g := by rw [← hg]; exact hC.size
            have HC := Lib.hid hC
            clear hC hd
            go_wp2_with (refine wpList_alloc_n rfl 46 rfl g HG.out _ (alloc_st _) ?_)
            exact ⟨_, rfl, ⟨g, rfl, hle, by rw [if_neg (by decide)]; exact NB.out⟩, HC.out.trans (BA.out.mono HC.out.size), BA.out⟩
        · obtain ⟨g, hg⟩ : ∃ g, W.heap.size = g := ⟨_, rfl⟩
          have HG := Lib.hid hg
          have NB := Lib.hid (Blk.newAt W g hg 39 (c := zRp.toArray) zRp rfl)
          have BA := Lib.hid ((Below.refl W.heap.size W).alloc (Nat.le_refl _) (.cells zRp.toArray 39))
          have hle : wr.heap.size ≤ g := by rw [← hg]; exact hC.size
          have HC := Lib.hid hC
          clear hC hd
          go_wp2_with (refine wpList_alloc_n rfl 39 rfl g HG.out _ (alloc_rep _) ?_)
          exact ⟨_, rfl, ⟨g, rfl, hle, NB.out⟩, HC.out.trans (BA.out.mono HC.out.size), BA.out⟩
        · omega
        · omega
      case one =>
        intro u W o ho hC hd
        simp only [List.getElem?_cons_zero, List.getElem?_cons_succ, Option.some.injEq] at ho
        subst ho
        have h7 : ∃ T : List Value, u 7 = .agg T.toArray ∧ StTold (er lo W) (.agg T.toArray) s1 := hd ⟨7, .data⟩ (by simp) rfl
        have h9 : ∃ g, u 9 = .pointer (some ⟨g, 0, none⟩) ∧ wr.heap.size ≤ g ∧ (if false then ∃ T : List Value, Blk W g 46 T ∧ StTold (er lo W) (.agg T.toArray) s1 else Blk W g 46 zS) := hd ⟨9, .data⟩ (by simp) rfl
        obtain ⟨T, h7, hT⟩ := h7
        obtain ⟨g, h9, hg, hk⟩ := h9
        rw [if_neg (by decide)] at hk
        have hTl : T.length = 22 ∧ T.toArray.all (·.oneCell') = true := by obtain ⟨S', _, _, e, h1, h2, _⟩ := st_cells hT; have := congrArg (fun v => match v with | Value.agg c => c.toList | _ => []) e; simp at this; subst this; exact ⟨h1, h2⟩
        have KW := Lib.hid hk
        have HTL := Lib.hid hTl
        have HT := Lib.hid hT
        have HC := Lib.hid hC
        clear hd hk hT hTl hC
        rw [h7, h9]
        go_wp2_with (refine wpList_store_blk rfl 46 _ _ rfl g T rfl rfl KW.out (by rw [size_st, HTL.out.1]) (by rw [HTL.out.1]; rfl) HTL.out.2 ?_)
        exact ⟨undef, by first | (simp [upd, h7, h9]; done) | (simp [upd, h7, h9]; rfl), trivial, below_setRow HC.out hg _, fun i _ h => alS_turn KW.out hg (Nat.le_trans HLO.out HBW.out) HT.out (by rw [HTL.out.1]; rfl) i (u i) h (fun e => by rw [e]; exact h9)⟩
      case last =>
        intro u W o ho hC hSS
        simp only [List.getElem?_cons_zero, List.getElem?_cons_succ, Option.some.injEq] at ho
        subst ho
        have h8 : ∃ X : List Value, u 8 = .agg X.toArray ∧ RepOkV (er lo W) X x1 := hSS 8 (by decide)
        have h9 : ∃ g, u 9 = .pointer (some ⟨g, 0, none⟩) ∧ wr.heap.size ≤ g ∧ (if true then ∃ T : List Value, Blk W g 46 T ∧ StTold (er lo W) (.agg T.toArray) s1 else Blk W g 46 zS) := hSS 9 (by decide)
        have h10 : ∃ g, u 10 = .pointer (some ⟨g, 0, none⟩) ∧ wr.heap.size ≤ g ∧ Blk W g 39 zRp := hSS 10 (by decide)
        obtain ⟨X, h8, hX⟩ := h8
        obtain ⟨g, h9, hg, hk⟩ := h9
        obtain ⟨f, h10, hf, hkf⟩ := h10
        rw [if_pos rfl] at hk
        obtain ⟨T, hk, hT⟩ := hk
        have hTl : T.length = 22 ∧ T.toArray.all (·.oneCell') = true := by obtain ⟨S', _, _, e, h1, h2, _⟩ := st_cells hT; have := congrArg (fun v => match v with | Value.agg c => c.toList | _ => []) e; simp at this; subst this; exact ⟨h1, h2⟩
        have hX1 := rep_one hX
        have hgf := blk_ne hk hkf (by decide)
        have hN0 := HN0.out
        have kg1 := hk.rowOther hgf X.toArray
        have kf1 := hkf.row X (by rw [hX1.2.1]; rfl)
        have ks1 := (HS1.out.below hC HS1.out.lt).rowOther (show B + 1 ≠ f by omega) X.toArray
        have k01 := (HS0.out.below hC HS0.out.lt).rowOther (show B ≠ f by omega) X.toArray
        have e1 := er_setRow lo hkf (by decide) (show lo ≤ f by have := HLO.out; omega) X.toArray
        have kf2 := kf1.rowOther (show f ≠ B + 1 by omega) T.toArray
        have ks2 := ks1.row T (by rw [hTl.1, HSL.out.1])
        have k02 := k01.rowOther (show B ≠ B + 1 by omega) T.toArray
        have e2 := er_setRow lo ks1 (by decide) (show lo ≤ B + 1 by have := HLO.out; omega) T.toArray
        have oW := HO.out.keep hC
        have o2 := (oW.rowApart f X.toArray (fun b e => by have := (HO.out.lt b e).2; omega)).rowApart (B + 1) T.toArray (fun b e => by have := (HO.out.lt b e).1; omega)
        have rW := HR.out.below (er_belowS lo hC)
        obtain ⟨N, hN⟩ : ∃ N, ((W.setRow f X.toArray).setRow (B + 1) T.toArray).heap.size = N := ⟨_, rfl⟩
        have hba := (Below.refl ((W.setRow f X.toArray).setRow (B + 1) T.toArray).heap.size ((W.setRow f X.toArray).setRow (B + 1) T.toArray)).alloc (Nat.le_refl _) (.cells X.toArray 39)
        have sx := sl_one (Blk.new' ((W.setRow f X.toArray).setRow (B + 1) T.toArray) 39 (c := X.toArray) X rfl)
        rw [hX1.2.1, hN] at sx
        have t3 : StTold (er lo (((W.setRow f X.toArray).setRow (B + 1) T.toArray).alloc (.cells X.toArray 39))) (.agg T.toArray) (allR (l.take (j + 1))).1 := by
          refine StTold.below ?_ (er_belowS lo hba)
          rw [e2, e1, EQ.out]
          exact hT
        have r3 : TellRs (er lo (((W.setRow f X.toArray).setRow (B + 1) T.toArray).alloc (.cells X.toArray 39))) (rows ++ [X]) (allR (l.take (j + 1))).2 := by
          refine TellRs.below ?_ (er_belowS lo hba)
          rw [e2, e1, EQ.out]
          exact rW.snoc hX
        have hrl : rows.length = j := by rw [HR.out.1, all_len, List.length_take]; omega
        have hbw : Below w.heap.size w (((W.setRow f X.toArray).setRow (B + 1) T.toArray).alloc (.cells X.toArray 39)) := by
          have h1 := below_setRow (below_setRow (HB.out.trans (hC.mono HB.out.size)) (show w.heap.size ≤ f by omega) X.toArray) (show w.heap.size ≤ B + 1 by omega) T.toArray
          exact h1.alloc h1.size _
        have hs3 : B + 2 ≤ (((W.setRow f X.toArray).setRow (B + 1) T.toArray).alloc (.cells X.toArray 39)).heap.size := Nat.le_trans (Nat.le_trans (show B + 2 ≤ wr.heap.size by omega) hC.size) (by simp)
        have KF := Lib.hid hkf
        have KG1 := Lib.hid kg1
        have KS1 := Lib.hid ks1
        have KF2 := Lib.hid kf2
        have O3 := Lib.hid (o2.alloc (.cells X.toArray 39))
        have SX := Lib.hid sx
        have T3 := Lib.hid t3
        have R3 := Lib.hid r3
        have BW := Lib.hid hbw
        have S3 := Lib.hid hs3
        have KS3 := Lib.hid (ks2.alloc (.cells X.toArray 39))
        have K03 := Lib.hid (k02.alloc (.cells X.toArray 39))
        have HTL := Lib.hid hTl
        have HX1 := Lib.hid hX1
        have HNN := Lib.hid hN
        have HONE : Hid (∀ r ∈ [X], ∀ u ∈ r, u.oneCell' = true) := Lib.hid fun r hr u hu => by rw [List.mem_singleton.1 hr] at hu; exact hX1.2.2 u hu
        have LEN : Hid (rows.length + [X].length ≤ maxLen) := Lib.hid (by rw [hrl, List.length_singleton]; unfold maxLen; omega)
        have BY : Hid ((rows.length + [X].length) * 112 ≤ 140737488355328) := Lib.hid (by rw [hrl, List.length_singleton]; omega)
        have HDI : Hid (i0.size = X.length) := Lib.hid (by rw [hX1.2.1]; exact hz1)
        clear hSS hC hX hT hk hkf hX1 hTl hgf hN0 kg1 kf1 ks1 k01 e1 kf2 ks2 k02 e2 oW o2 rW hN hba sx t3 r3 hrl hbw hs3
        rw [h8, h9, h10]
        go_wp2_with (first
          | (refine wpList_store_blk rfl 39 _ _ rfl f X rfl rfl KF.out (by rw [size_rep, HX1.out.2.1]) (by rw [HX1.out.2.1]; rfl) HX1.out.1 ?_)
          | (refine wpList_load_blk rfl 46 _ rfl g rfl KG1.out Try.underlying46 rfl (by rw [size_st, HTL.out.1]) ?_)
          | (refine wpList_store_blk rfl 46 _ _ rfl (B + 1) T rfl rfl KS1.out (by rw [size_st, HTL.out.1]) (by rw [HTL.out.1, HSL.out.1]) HTL.out.2 ?_)
          | (refine wpList_load_blk rfl 39 _ rfl f rfl KF2.out Try.underlying39 rfl (by rw [size_rep, HX1.out.2.1]) ?_)
          | (refine wpList_buildRow rfl 43 39 _ rfl X i0 (.agg zRp.toArray) N HNN.out Try.underlying43 hi0 hz0 HDI.out (by rw [HX1.out.2.1]; decide) (by rw [HX1.out.2.1]; decide) (by simp only [List.map_toArray, List.map_cons, List.map_nil]; rfl) ?_)
          | (refine wpList_append_rows rfl _ _ 43 rfl (B + 2) 39 i0 (.agg zRp.toArray) 6 112 Try.underlying43 hi0 hz0 hz1 hz2 rfl (by decide) _ rows rfl O3.out (.slice (some ⟨N, 0, none⟩) 1 1) [X] rfl SX.out HONE.out LEN.out BY.out S3.out (.inr ⟨_, _, _, rfl⟩) ?_; intro v5 w5 ho5 hg5 hv5; have HO5 := Lib.hid ho5; have HG5 := Lib.hid hg5; clear ho5 hg5 hv5))
        go_roundw
        case rel =>
          have hb5 := (Below.refl (B + 2) _).grown HG5.out S3.out (fun k e => (O3.out.lt k e).1)
          have hsb := er_grown HG5.out O3.out (lo := lo) (by decide) (show lo ≤ B + 2 by have := HLO.out; omega)
          exact ⟨j + 1, by omega, by go_num, rows ++ [X], T, HO5.out, R3.out.sub hsb, KS3.out.below hb5 (by omega), T3.out.sub hsb, K03.out.below hb5 (by omega), BW.out.trans (hb5.mono (by omega))⟩
        case measure => simp [intOf]; omega
    · obtain rfl : j = l.length := by omega
      rw [List.take_length] at hR hST
      have hSL : S.length = 22 ∧ S.toArray.all (·.oneCell') = true := by obtain ⟨S', _, _, e, h1, h2, _⟩ := st_cells hST; have := congrArg (fun v => match v with | Value.agg c => c.toList | _ => []) e; simp at this; subst this; exact ⟨h1, h2⟩
      have HSL := Lib.hid hSL
      have he := er_setRow lo hS0 (by decide) HLO.out S.toArray
      have hR' : TellRs (er lo (wr.setRow B S.toArray)) rows (allR l).2 := by rw [he]; exact hR
      have hST' : StTold (er lo (wr.setRow B S.toArray)) (.agg S.toArray) (allR l).1 := by rw [he]; exact hST
      have Q1 := Lib.hid (hO.rowApart B S.toArray (fun b e => by have := (hO.lt b e).1; omega))
      have Q2 := Lib.hid hR'
      have Q4 := Lib.hid hST'
      have Q5 := Lib.hid (hS0.row S (by rw [hSL.1]; rfl))
      have Q6 := Lib.hid (below_setRow hb (show w.heap.size ≤ B by omega) S.toArray)
      have KW := Lib.hid hS1
      have K0 := Lib.hid hS0
      clear hO hR hS1 hST hS0 hb hSL he hR' hST'
      go_wp2_with (first | (refine wpList_load_blk rfl 46 _ rfl (B + 1) rfl KW.out Try.underlying46 rfl (by rw [size_st, HSL.out.1]) ?_) | (refine wpList_store_blk rfl 46 _ _ rfl B S rfl rfl K0.out (by rw [size_st, HSL.out.1]) (by rw [HSL.out.1]; rfl) HSL.out.2 ?_))
      refine bodyPost_ret (v := .tuple #[.agg S.toArray, .slice pu rows.length cu]) (results_cell_tmp rfl _ _ B rfl (.slice pu rows.length cu) rfl Q5.out Try.underlying46 rfl (by rw [size_st, HSL.out.1])) rfl ?_
      rw [hB]
      exact ⟨_, _, rows, rfl, Q4.out, Q1.out.lower (by omega), Q2.out, hB ▸ Q6.out⟩
end Go.Proofs.Ytogonbgelaehhaa
