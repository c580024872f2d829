/- The program's Do once more: the state that it gives lies in its own blocks; states of bare versions are told in any world (stage 17). Written by gen/mkdn.py. -/
import Derived.Test.YtogonbgelaehhaaUWd
import Derived.Test.YtogonbgelaehhaaUPuN
namespace Go.Proofs.Ytogonbgelaehhaa
open Go.RowKit
set_option linter.unusedVariables false

def DoRetN (lo : Nat) (s : StU RawV) (L' : List RawV) (x : RepU RawV) (w : World) (e : Ending) (w' : World) : Prop :=
  ∃ (S' r : List Value) (base : Nat) (vv : Value), e = .returned (.tuple #[.agg S'.toArray, .agg r.toArray]) ∧ StN w' base S' vv ⟨L', s.seqs, s.last⟩ ∧ RepOkV (er lo w') r x ∧ Below w.heap.size w w'
set_option maxRecDepth 100000 in
set_option maxHeartbeats 4000000 in
theorem u_DoN (s : StU RawV) (v vo : Value) (kind : Int) (id : Nat) (a : RawV) (w : World) (lo : Nat) (hlo : lo ≤ w.heap.size) (hs : StTold (er lo w) v s) (ho : OpTold (er lo w) vo kind id a) (hg : StS s) (hid : id < 4294967296) (ha : VerS a) :
    Calls Try.prog 21 #[v, vo] w (DoRetN lo s (doR s.vers kind id a).1 (doR s.vers kind id a).2 w) := by
  have hs0 := hs.sub (er_sub lo w)
  have ho0 := ho.sub (er_sub lo w)
  obtain ⟨O, rfl, hOl, _⟩ := op_cells ho0
  have HOL := Lib.hid hOl
  clear hOl
  obtain ⟨S, p, c, rfl, hSl, hS1, _, _⟩ := st_cells hs0
  obtain ⟨B, hB⟩ : ∃ B, w.heap.size = B := ⟨_, rfl⟩
  have k0 := Blk.newAt w B hB 42 (c := S.toArray) S rfl
  have z1 : (w.alloc (.cells S.toArray 42)).heap.size = B + 1 := by simp [hB]
  have k1 := Blk.newAt _ (B + 1) z1 30 (c := O.toArray) O rfl
  have z2 : ((w.alloc (.cells S.toArray 42)).alloc (.cells O.toArray 30)).heap.size = B + 2 := by simp [hB]
  have k2 := Blk.newAt _ (B + 2) z2 42 (c := zS.toArray) zS rfl
  have z3 : (((w.alloc (.cells S.toArray 42)).alloc (.cells O.toArray 30)).alloc (.cells zS.toArray 42)).heap.size = B + 3 := by simp [hB]
  have k3 := Blk.newAt _ (B + 3) z3 39 (c := zRp.toArray) zRp rfl
  have z4 : ((((w.alloc (.cells S.toArray 42)).alloc (.cells O.toArray 30)).alloc (.cells zS.toArray 42)).alloc (.cells zRp.toArray 39)).heap.size = B + 4 := by simp [hB]
  have kb := ((((Below.refl w.heap.size w).alloc (Nat.le_refl _) (.cells S.toArray 42)).alloc (by simp) (.cells O.toArray 30)).alloc (by simp; omega) (.cells zS.toArray 42)).alloc (by simp; omega) (.cells zRp.toArray 39)
  have K0 := Lib.hid (((k0.alloc (.cells O.toArray 30)).alloc (.cells zS.toArray 42)).alloc (.cells zRp.toArray 39))
  have K1 := Lib.hid ((k1.alloc (.cells zS.toArray 42)).alloc (.cells zRp.toArray 39))
  have K2 := Lib.hid (k2.alloc (.cells zRp.toArray 39))
  have K3 := Lib.hid k3
  have KB := Lib.hid kb
  have Z2 := Lib.hid z2
  have Z3 := Lib.hid z3
  have Z4 := Lib.hid z4
  have HC := Lib.hid (u_copyS s (.agg S.toArray) _ (hs0.below kb) hg)
  have HO4 := Lib.hid (ho0.below kb)
  have HSL := Lib.hid hSl
  have HG := Lib.hid hg
  clear k0 k1 k2 k3 z1 z2 z3 z4 kb hs0 ho0 hSl hS1 hs ho hg hlo
  go_enter Try.func21, Try.ntmps21
  go_wp2_with (first | (refine wpList_alloc_n rfl 42 rfl (B + 2) Z2.out _ (alloc_sv _) ?_) | (refine wpList_alloc_n rfl 39 rfl (B + 3) Z3.out _ (alloc_rep _) ?_) | (refine wpList_load_blk rfl 42 _ rfl B rfl K0.out Try.underlying42 rfl (by rw [size_sv, HSL.out]) ?_))
  clear K0 Z2 Z3
  generalize (((w.alloc (.cells S.toArray 42)).alloc (.cells O.toArray 30)).alloc (.cells zS.toArray 42)).alloc (.cells zRp.toArray 39) = w4 at *
  (with_reducible refine HC.out.mono ?_)
  rintro e w5 ⟨S1, vv, rfl, hn, b5⟩
  have htd := hn.told lo
  obtain ⟨N, hN⟩ : ∃ N, w5.heap.size = N := ⟨_, rfl⟩
  have y0 := Blk.newAt w5 N hN 42 (c := zS.toArray) zS rfl
  have y1 := y0.row S1 (by rw [htd.2.2]; rfl)
  have bw : Below w5.heap.size w5 ((w5.alloc (.cells zS.toArray 42)).setRow N S1.toArray) := below_setRow ((Below.refl _ _).alloc (Nat.le_refl _) _) (by omega) _
  have i6 : StI ((w5.alloc (.cells zS.toArray 42)).setRow N S1.toArray) w4.heap.size N vv s := ⟨by rw [← hN]; exact b5.size, S1, y1, hn.below bw⟩
  have k16 := (K1.out.below b5 K1.out.lt).below bw (K1.out.below b5 K1.out.lt).lt
  have k26 := (K2.out.below b5 K2.out.lt).below bw (K2.out.below b5 K2.out.lt).lt
  have k36 := (K3.out.below b5 K3.out.lt).below bw (K3.out.below b5 K3.out.lt).lt
  have kb6 := (KB.out.trans (b5.mono KB.out.size)).trans (bw.mono (Nat.le_trans KB.out.size b5.size))
  have ho6 := (HO4.out.below b5).below bw
  have hz4 := Z4.out
  have hN4 : B + 4 ≤ N := by have := b5.size; omega
  rw [hz4] at i6
  have Y0 := Lib.hid y0
  have HNN := Lib.hid hN
  have I6 := Lib.hid i6
  have K16 := Lib.hid k16
  have K26 := Lib.hid k26
  have K36 := Lib.hid k36
  have KB6 := Lib.hid kb6
  have HT := Lib.hid htd.2
  have HD := Lib.hid (u_do s (.agg O.toArray) kind id a (B + 4) N vv _ i6 ho6 HG.out hid ha)
  clear hn b5 htd hN y0 y1 bw i6 k16 k26 k36 kb6 ho6 hz4 K1 K2 K3 KB Z4 HC HO4
  go_upto_region 2 with (first | (refine wpList_alloc_n rfl 42 rfl N HNN.out _ (alloc_sv _) ?_) | (refine wpList_store_blk rfl 42 _ _ rfl N S1 rfl rfl Y0.out (by rw [size_sv, HT.out.2]) (by rw [HT.out.2]; rfl) HT.out.1 ?_))
  clear Y0 HNN
  generalize (w5.alloc (.cells zS.toArray 42)).setRow N S1.toArray = w6 at *
  go_wp2_with (refine wpList_load_blk rfl 30 _ rfl (B + 1) rfl K16.out Try.underlying30 rfl (by rw [size_op, HOL.out]) ?_)
  (with_reducible refine HD.out.mono ?_)
  rintro e w7 ⟨R, vv', rfl, q1, q2, q3⟩
  have hl6 := q1.len
  have ho7 := rep_oneV q1
  obtain ⟨M, hM⟩ : ∃ M, w7.heap.size = M := ⟨_, rfl⟩
  have y0 := Blk.newAt w7 M hM 39 (c := zRp.toArray) zRp rfl
  have y1 := y0.row R (by rw [hl6]; rfl)
  have bw : Below w7.heap.size w7 ((w7.alloc (.cells zRp.toArray 39)).setRow M R.toArray) := below_setRow ((Below.refl _ _).alloc (Nat.le_refl _) _) (by omega) _
  obtain ⟨h0N, S2, kN, hn2⟩ := q2
  have htd := hn2.told lo
  have b67 : Below (B + 4) w6 w7 := q3.b
  have k27 := K26.out.below b67 (by omega)
  have k37 := K36.out.below b67 (by omega)
  have hlt7 := kN.lt
  have c8 : dwC w (B + 4) N M (B + 2) S2 R vv' ⟨(doR s.vers kind id a).1, s.seqs, s.last⟩ (doR s.vers kind id a).2 false ((w7.alloc (.cells zRp.toArray 39)).setRow M R.toArray) :=
    ⟨kN.below bw kN.lt, y1, k27.below bw k27.lt, k37.below bw k37.lt, hn2.below bw, q1.sub (ew_lf (Lf.below bw)), (KB6.out.trans (b67.mono (by omega))).trans (bw.mono (Nat.le_trans KB6.out.size b67.size))⟩
  have hMN : N ≠ M ∧ B + 2 ≠ M ∧ B + 3 ≠ M ∧ B + 2 ≠ N ∧ B + 3 ≠ N := ⟨by omega, by have := k27.lt; omega, by have := k37.lt; omega, by omega, by omega⟩
  have C8 := Lib.hid c8
  have Y0 := Lib.hid y0
  have HM := Lib.hid hM
  have HL6 := Lib.hid hl6
  have HO7 := Lib.hid ho7
  have HT2 := Lib.hid htd.2
  clear q1 q3 hl6 ho7 hM y0 y1 bw kN hn2 htd b67 k27 k37 c8 h0N K16 K26 K36 KB6 I6
  go_upto_region 3 with (first | (refine wpList_alloc_n rfl 39 rfl M HM.out _ (alloc_rep _) ?_) | (refine wpList_store_blk rfl 39 _ _ rfl M R rfl rfl Y0.out (by rw [size_rep, HL6.out]) (by rw [HL6.out]; rfl) HO7.out ?_))
  clear Y0 HM
  generalize (w7.alloc (.cells zRp.toArray 39)).setRow M R.toArray = w8 at *
  refine region_mix 2 3 (by decide) mixed (by kernel_rfl) (by kernel_rfl) (fun u => #[_, _, _, _, _, _, _, _, _, _, _, _, u 0, u 1]) [] (fun _ => undef) rfl (dwC w (B + 4) N M (B + 2) S2 R vv' ⟨(doR s.vers kind id a).1, s.seqs, s.last⟩ (doR s.vers kind id a).2) C8.out.drew (fun _ _ _ => True) (fun i v _ => dwS S2 R i v) ?mono ?step ?one ?last
  case mono => intro b i v W W' _ h _; exact h
  case step =>
    intro bb u W j o hj hjk _ ho hC hd
    rcases j with _ | _ | j
    all_goals try (simp only [List.getElem?_cons_zero, List.getElem?_cons_succ, Option.some.injEq] at ho; subst ho)
    · have K := Lib.hid hC.1
      have HCW := Lib.hid hC
      clear hC
      go_wp2_with (refine wpList_load_blk rfl 42 _ rfl N rfl K.out Try.underlying42 rfl (by rw [size_sv, HT2.out.2]) ?_)
      exact ⟨_, rfl, rfl, HCW.out, trivial⟩
    · have K := Lib.hid hC.2.1
      have HCW := Lib.hid hC
      clear hC
      go_wp2_with (refine wpList_load_blk rfl 39 _ rfl M rfl K.out Try.underlying39 rfl (by rw [size_rep, HL6.out]) ?_)
      exact ⟨_, rfl, rfl, HCW.out, trivial⟩
    · omega
  case one =>
    intro u W o ho hC hd
    simp only [List.getElem?_cons_zero, List.getElem?_cons_succ, Option.some.injEq] at ho
    subst ho
    have h0 : u 0 = .agg S2.toArray := hd ⟨0, .data⟩ (by simp) rfl
    obtain ⟨g1, g2, g3, g4, g5, g6, g7⟩ := hC
    have g3' : Blk W (B + 2) 42 zS := g3
    have c9 : dwC w (B + 4) N M (B + 2) S2 R vv' ⟨(doR s.vers kind id a).1, s.seqs, s.last⟩ (doR s.vers kind id a).2 true (W.setRow (B + 2) S2.toArray) := ⟨g1.rowOther (g := B + 2) hMN.2.2.2.1.symm _, g2.rowOther (g := B + 2) hMN.2.1.symm _, g3'.row S2 (by rw [HT2.out.2]; rfl), g4.rowOther (g := B + 2) (by omega) _, g5.row g3' (by decide) (by decide) _, g6.sub (ew_lf (Lf.row g3' (by decide) _)), below_setRow g7 (by omega) _⟩
    have G3 := Lib.hid g3'
    have C9 := Lib.hid c9
    rw [h0]
    clear g1 g2 g3 g4 g5 g6 g7 g3' c9 hd
    go_wp2_with (refine wpList_store_blk rfl 42 _ _ rfl (B + 2) S2 rfl rfl G3.out (by rw [size_sv, HT2.out.2]) (by rw [HT2.out.2]; rfl) HT2.out.1 ?_)
    exact ⟨undef, by first | (simp [upd, h0]; done) | (simp [upd, h0]; rfl) | rfl, trivial, C9.out, trivial⟩
  case last =>
    intro u W o ho hC hS
    simp only [List.getElem?_cons_zero, List.getElem?_cons_succ, Option.some.injEq] at ho
    subst ho
    have h1 : u 1 = .agg R.toArray := hS 1 (by decide)
    obtain ⟨g1, g2, g3, g4, g5, g6, g7⟩ := hC
    have g3' : Blk W (B + 2) 42 S2 := g3
    have l9 := Lf.row g4 (by decide) R.toArray
    have n9 := g5.row g4 (by decide) (by decide) R.toArray
    have F1 := Lib.hid (g3'.rowOther (show B + 2 ≠ B + 3 by omega) R.toArray)
    have F2 := Lib.hid (g4.row R (by rw [HL6.out]; rfl))
    have F3 := Lib.hid n9
    have F4 := Lib.hid ((g6.sub (ew_lf l9)).sub (ew_er lo _))
    have F5 := Lib.hid (below_setRow g7 (show w.heap.size ≤ B + 3 by omega) R.toArray)
    have G4 := Lib.hid g4
    rw [h1]
    clear g1 g2 g3 g4 g5 g6 g7 g3' l9 n9 hS
    go_wp2_with (refine wpList_store_blk rfl 39 _ _ rfl (B + 3) R rfl rfl G4.out (by rw [size_rep, HL6.out]) (by rw [HL6.out]; rfl) HO7.out ?_)
    refine bodyPost_ret (v := .tuple #[.agg S2.toArray, .agg R.toArray]) (results_cells2 rfl _ _ (B + 2) (B + 3) rfl rfl F1.out F2.out Try.underlying42 rfl (by rw [size_sv, HT2.out.2]) Try.underlying39 rfl (by rw [size_rep, HL6.out])) rfl ?_
    exact ⟨_, _, _, _, rfl, F3.out, F4.out, F5.out⟩
theorem sl_nil_any {w w' : World} {k : Nat} {v : Value} (h : Sl w k v []) : Sl w' k v [] := by
  obtain ⟨_, p, c, e, _⟩ := h
  exact ⟨fun r hr => (by cases hr), p, c, e, fun i r hr => (by simp at hr)⟩
theorem vv_any {w w' : World} {v : Value} {id : Nat} (h : VV w v (verI id)) : VV w' v (verI id) := by
  obtain ⟨vb, vn, vz, e, h1, h2, h3, s1, s2, s3⟩ := h
  exact ⟨vb, vn, vz, e, h1, h2, h3, sl_nil_any s1, sl_nil_any s2, sl_nil_any s3⟩
theorem rep_any {w w' : World} {r : List Value} {e : Nat} (h : RepOkV w r (wrongU noV e)) : RepOkV w' r (wrongU noV e) := by
  obtain ⟨vi, q, e, h1, h2, h3⟩ := h
  exact ⟨vi, q, e, h1, sl_nil_any h2, vv_any (id := 0) h3⟩
theorem tellI_any {w w' : World} {rows : List (List Value)} {L : List Nat} (h : TellVs w rows (L.map verI)) : TellVs w' rows (L.map verI) := by
  refine ⟨h.1, fun i hi => ?_⟩
  obtain ⟨r, e1, e2⟩ := h.2 i hi
  refine ⟨r, e1, ?_⟩
  have e : (L.map verI).getD i noV = verI (L.getD i 0) := by
    rw [List.length_map] at hi
    simp [List.getD_eq_getElem?_getD, hi]
  rw [e] at e2 ⊢
  exact vv_any e2
/-- a state of bare versions, where its own rows lie as they did -/
theorem stn_any {w w' : World} {base : Nat} {S : List Value} {vv : Value} {L : List Nat} (h : StN w base S vv (stW L)) (ho : ∀ rows, OwnR w base 28 4 vv rows → OwnR w' base 28 4 vv rows) : StN w' base S vv (stW L) := by
  obtain ⟨rows, s0, s1, s2, r0, r1, r2, x0, x1, x2, e, h1, h2, h3, h4, h5, h6, h7, h8⟩ := h
  have h4' := h4
  simp only [stW, List.cons.injEq, and_true] at h4'
  obtain ⟨rfl, rfl, rfl⟩ := h4'
  exact ⟨rows, s0, s1, s2, r0, r1, r2, _, _, _, e, ho rows h1, tellI_any h2, h3, h4, h5, rep_any h6, rep_any h7, rep_any h8⟩
theorem stn_zero (w : World) (base : Nat) : StN w base zS (.slice none 0 0) (stW []) :=
  ⟨[], 0, 0, 0, zRp, zRp, zRp, _, _, _, rfl, ⟨fun r hr => (by cases hr), rfl, .inl ⟨rfl, rfl⟩⟩, ⟨rfl, fun i hi => absurd hi (Nat.not_lt_zero _)⟩, rfl, rfl, by decide, rep_none _ 0, rep_none _ 0, rep_none _ 0⟩
end Go.Proofs.Ytogonbgelaehhaa
