/- VaultErrors is proved: with an error nothing is changed but that the client's request is over. Conditions: none besides the statement's own. -/
import Derived.Test.YtogonbgelaehhaaUGd
import Derived.Test.YtogonbgelaehhaaHG
import Derived.Test.YtogonbgelaehhaaUWe
namespace Go.Proofs.Ytogonbgelaehhaa.vaultErrors
open Go.RowKit Go.ChangeShapes Go.WideShapes
set_option linter.unusedVariables false

/-- a reply's first cells -/
theorem rep_cell {w : World} {X : List Value} {x : RepU RawV} (h : RepOkV w X x) : X[0]? = some (.int .i64 (x.err : Int)) ∧ X.length = 6 := by
  obtain ⟨pi, ci, pb, cb, pn, cn, pz, cz, e⟩ := h.row
  rw [e]
  exact ⟨rfl, rfl⟩
theorem rep_cells {w : World} {X : List Value} {x : RepU RawV} (h : RepOkV w X x) : ∃ (pi : Option Addr) (ci : Nat) (q : List Value), X[0]? = some (.int .i64 (x.err : Int)) ∧ X[1]? = some (.slice pi x.ids.length ci) ∧ (∀ j v, q[j]? = some v → X[2 + j]? = some v) ∧ q.length = 4 ∧ VV w (.agg q.toArray) x.ver := by
  obtain ⟨vi, q, rfl, ⟨pi, ci, rfl⟩, _, hv⟩ := h
  exact ⟨pi, ci, q, rfl, rfl, fun j v hj => by rw [Nat.add_comm]; exact hj, hv.len, hv⟩
/-- a state's row: its versions, its numbers, its replies -/
theorem st_parts {S : List Value} (h : S.length = 22) (ho : S.toArray.all (·.oneCell') = true) : ∃ (v : Value) (a b : List Value), S = v :: (a ++ b) ∧ a.length = 3 ∧ b.length = 18 ∧ a.toArray.all (·.oneCell') = true ∧ b.toArray.all (·.oneCell') = true := by
  match S, h with
  | v :: q, h =>
    have hq : ∀ x ∈ q, x.oneCell' = true := by
      simp only [List.all_toArray, List.all_cons, Bool.and_eq_true, List.all_eq_true] at ho
      exact ho.2
    refine ⟨v, q.take 3, q.drop 3, by rw [List.take_append_drop], by rw [List.length_take]; simp at h; omega, by rw [List.length_drop]; simp at h; omega, ?_, ?_⟩
    · simp only [List.all_toArray, List.all_eq_true]
      exact fun x hx => hq x (List.mem_of_mem_take hx)
    · simp only [List.all_toArray, List.all_eq_true]
      exact fun x hx => hq x (List.mem_of_mem_drop hx)
theorem part_cell1 {w : World} {b : Nat} {t : TypeId} {T : List Value} {T0 : Value} {T1 T2 : List Value} (k : Blk w b t T) (h : T = T0 :: (T1 ++ T2)) (h3 : T1.length = 3) : ∀ j v, T1[j]? = some v → w.cell? ((⟨b, 1, none⟩ : Addr).add j) = some v := fun j v hj => by
  subst h
  have hlt := (List.getElem?_eq_some_iff.1 hj).1
  rw [Addr.add_mid, k.cell, Nat.add_comm, List.getElem?_cons_succ, List.getElem?_append_left hlt]
  exact hj
theorem part_cell2 {w : World} {b : Nat} {t : TypeId} {T : List Value} {T0 : Value} {T1 T2 : List Value} (k : Blk w b t T) (h : T = T0 :: (T1 ++ T2)) (h3 : T1.length = 3) : ∀ j v, T2[j]? = some v → w.cell? ((⟨b, 4, none⟩ : Addr).add j) = some v := fun j v hj => by
  subst h
  rw [Addr.add_mid, k.cell, show 4 + j = (3 + j) + 1 by omega, List.getElem?_cons_succ, List.getElem?_append_right (by omega), h3, Nat.add_sub_cancel_left]
  exact hj
theorem er_setCells {b : Nat} {t : TypeId} {lo : Nat} (ht : erT t = true) (hb : lo ≤ b) : ∀ (y y' x z : List Value) (w : World), Blk w b t (x ++ (y ++ z)) → y.length = y'.length → er lo (w.setCells b x.length y') = er lo w
  | [], [], x, z, w, h, _ => rfl
  | [], _ :: _, _, _, _, _, hl => by cases hl
  | _ :: _, [], _, _, _, _, hl => by cases hl
  | a :: y, a' :: y', x, z, w, h, hl => by
    have h1 := h.set x.length a'
    have e : (x ++ (a :: y ++ z)).set x.length a' = (x ++ [a']) ++ (y ++ z) := by simp
    rw [e] at h1
    have h2 := er_setCells ht hb y y' (x ++ [a']) z _ h1 (by simpa using hl)
    rw [List.length_append] at h2
    exact h2.trans (er_setCell lo (a := ⟨b, x.length, none⟩) h ht hb a')
/-- a part of an erased variable is written: what is seen behind -/
theorem put_part {w w' : World} {lo y1 y2 off : Nat} {x y y' z T : List Value} (h1 : lo ≤ y1) (h2 : y1 < y2) (kS : Blk w y1 42 (x ++ (y ++ z))) (kT : Blk w y2 42 T) (e : w' = w.setCells y1 off y') (ho : off = x.length) (hl : y.length = y'.length) : Blk w' y2 42 T ∧ Below lo w w' ∧ er lo w' = er lo w := by
  subst e ho
  exact ⟨setCells_otherB (by omega) y' _ _ kT, below_setCells h1 _ _ _ (Below.refl _ _), er_setCells rfl h1 y y' x z w kS hl⟩
theorem part_join {w : World} {b : Nat} {t : TypeId} {S0 : Value} {T1 S2 : List Value} (k : Blk w b t ([S0] ++ (T1 ++ S2))) : Blk w b t ((S0 :: T1) ++ (S2 ++ [])) := by
  rw [List.append_nil]
  exact k
theorem part_last {w : World} {b : Nat} {t : TypeId} {S0 : Value} {T1 T2 : List Value} (k : Blk w b t ((S0 :: T1) ++ (T2 ++ []))) : Blk w b t (S0 :: (T1 ++ T2)) := by
  rw [List.append_nil] at k
  exact k
theorem size_last : (Try.prog.info? 40).map (·.size) = some 18 := by kernel_rfl
theorem info_verq : (Try.prog.info? 28).map (·.size) = some 4 := by kernel_rfl
theorem agg_inj {a b : List Value} (h : Value.agg a.toArray = .agg b.toArray) : a = b := by
  have := congrArg (fun v => match v with | Value.agg c => c.toList | _ => []) h
  simpa using this
/-- a state's numbers and replies over another one's versions -/
theorem st_mix {w : World} {s t : StU RawV} {T S : List Value} {T0 S0 : Value} {T1 T2 S1 S2 : List Value} (hv : t.vers = s.vers) (hT : T = T0 :: (T1 ++ T2)) (hS : S = S0 :: (S1 ++ S2)) (a : StTold w (.agg T.toArray) t) (b : StTold w (.agg S.toArray) s) : StTold w (.agg (S0 :: (T1 ++ T2)).toArray) t := by
  subst hT hS
  obtain ⟨vv, s0, s1, s2, r0, r1, r2, x0, x1, x2, e, h1, h2, h3, h4, h5, h6, h7⟩ := a
  obtain ⟨uu, _, _, _, _, _, _, _, _, _, f, g1, _⟩ := b
  have e' := agg_inj e
  have f' := agg_inj f
  unfold cellsS at e' f'
  refine ⟨uu, s0, s1, s2, r0, r1, r2, x0, x1, x2, ?_, by rw [hv]; exact g1, h2, h3, h4, h5, h6, h7⟩
  have e1 := (List.cons.inj e').2
  have f1 := (List.cons.inj f').1
  rw [e1, f1]
  rfl
theorem app_err {s : StU RawV} (h : StS s) {r : ReqU RawV} (he : (appR s r).2.err ≠ 0) : (appR s r).1.vers = s.vers := by
  unfold appR applyU at he ⊢
  by_cases h1 : r.client < 0 ∨ 3 ≤ r.client ∨ r.seq = 0
  · rw [if_pos h1]
  rw [if_neg h1] at he ⊢
  by_cases h2 : r.seq = s.seqs.getD r.client.toNat 0
  · rw [if_pos h2]
  rw [if_neg h2] at he ⊢
  by_cases h3 : r.seq < s.seqs.getD r.client.toNat 0
  · rw [if_pos h3]
  rw [if_neg h3] at he ⊢
  exact (do_err RawV.id mayR noV he).1
set_option maxRecDepth 100000 in
set_option maxHeartbeats 8000000 in
theorem walkK (K : VaultKit) (l : List (ReqU RawV)) (p : Option Addr) (c : Nat) (hin : ∀ r ∈ l, ReqIn r) (r : ReqU RawV) (v : Value) (hr : ReqIn r) (w : World) (hq : ReqsV w (.slice p l.length c) l) (hv : ReqTold w v r) :
    Calls Try.prog 6 #[.slice p l.length c, v] w fun e w' => e = .returned (.bool true) ∧ Below w.heap.size w w' := by
  obtain ⟨q, rfl, hvq⟩ := hv
  obtain ⟨R, hR⟩ : ∃ R, cellsQ r.client r.seq (cellsO r.kind r.id q) = R := ⟨_, rfl⟩
  have hql := hvq.len
  have hRl : R.length = 8 := by rw [← hR]; show q.length + 4 = 8; omega
  obtain ⟨B0, hB0⟩ : ∃ B0, w.heap.size = B0 := ⟨_, rfl⟩
  obtain ⟨w1, hw1⟩ : ∃ w1, w.alloc (.cells R.toArray 60) = w1 := ⟨_, rfl⟩
  have kR : Blk w1 B0 60 R := by rw [← hw1, ← hB0]; exact Blk.new' w 60 R rfl
  have b1 : Below w.heap.size w w1 := by rw [← hw1]; exact (Below.refl w.heap.size w).alloc (Nat.le_refl _) _
  have hq1 := hq.below b1
  have hS := fun wx => l17_shown K wx
  have HS := Lib.hid hS
  have KR := Lib.hid kR
  have B1 := Lib.hid b1
  have HRL : Hid ((Try.prog.info? 60).map (·.size) = some R.length) := Lib.hid (by rw [size_req, hRl])
  obtain ⟨i0, hi0, hz0, hz1⟩ := info_req1
  have HRZ : Hid (i0.size = R.length ∧ 0 < R.length ∧ R.length ≤ 1000) := Lib.hid ⟨by rw [hz1, hRl], by rw [hRl]; decide, by rw [hRl]; decide⟩
  have HRO : Hid (R.toArray.all (·.oneCell') = true) := Lib.hid (by rw [← hR]; exact req_one hvq)
  rw [hR]
  cases hh : heavyQ l with
  | true =>
    have HH := Lib.hid (l17_heavy l p c true w1 hh hq1)
    clear hq hq1 hin hh hS kR b1 hR hRl
    go_enter Try.func6, Try.ntmps6
    go_wp2_with fail
    refine (HH.out).mono ?_
    rintro e w2 ⟨rfl, hb2⟩
    have B2 := Lib.hid (B1.out.trans (hb2.mono B1.out.size))
    have B1_2 := Lib.hid hb2
    clear hb2
    go_wp2_with fail
    refine (HS.out _).mono ?_
    rintro e w3 ⟨rfl, hb3⟩
    have B3 := Lib.hid (B2.out.trans (hb3.mono B2.out.size))
    have B2_3 := Lib.hid hb3
    clear hb3
    go_wp2
    go_ret
    exact ⟨rfl, B3.out⟩
  | false =>
    cases hh2 : heavyQ [r] with
    | true =>
      have HH := Lib.hid (l17_heavy l p c false w1 hh hq1)
      have HH2 := Lib.hid (fun (wx : World) (g : Nat) (hb : Below w.heap.size w wx) (k : Blk wx g 60 R) => l17_heavy [r] (some ⟨g, 0, none⟩) 1 true wx hh2 (one_req k hR.symm (hvq.below hb)))
      clear hq hq1 hin hh hh2 hS kR b1 hR hRl
      go_enter Try.func6, Try.ntmps6
      go_wp2_with fail
      refine (HH.out).mono ?_
      rintro e w2 ⟨rfl, hb2⟩
      have B2 := Lib.hid (B1.out.trans (hb2.mono B1.out.size))
      have B1_2 := Lib.hid hb2
      clear hb2
      have KR2 := Lib.hid (KR.out.below B1_2.out KR.out.lt)
      obtain ⟨g, hg⟩ : ∃ g, w2.heap.size = g := ⟨_, rfl⟩
      have hG := Lib.hid hg
      obtain ⟨w3, hw3⟩ : ∃ w3, w2.alloc (.cells R.toArray 60) = w3 := ⟨_, rfl⟩
      have b3 : Below w2.heap.size w2 w3 := by rw [← hw3]; exact (Below.refl w2.heap.size w2).alloc (Nat.le_refl _) _
      have B3 := Lib.hid (B2.out.trans (b3.mono B2.out.size))
      have KR3 := Lib.hid (KR2.out.below b3 KR2.out.lt)
      have H3 := Lib.hid (HH2.out w3 g B3.out (by rw [← hw3, ← hg]; exact Blk.new' w2 60 R rfl))
      clear b3
      go_wp2_with (first | (refine wpList_load_blkW rfl 60 _ rfl B0 rfl KR2.out Try.underlying60 rfl HRL.out ?_) | (refine wpList_buildRowG rfl 22 60 _ rfl R i0 (.agg zRq.toArray) g hG.out Try.underlying22 hi0 hz0 HRZ.out.1 HRZ.out.2.1 HRZ.out.2.2 (by simp only [List.map_toArray, List.map_cons, List.map_nil]; rfl) ?_; rw [hw3]))
      refine H3.out.mono ?_
      rintro e w4 ⟨rfl, hb4⟩
      have B4 := Lib.hid (B3.out.trans (hb4.mono B3.out.size))
      have KR4 := Lib.hid (KR3.out.below hb4 KR3.out.lt)
      clear hb4
      go_wp2_with fail
      refine (HS.out _).mono ?_
      rintro e w5 ⟨rfl, hb5⟩
      have B5 := Lib.hid (B4.out.trans (hb5.mono B4.out.size))
      have B4_5 := Lib.hid hb5
      clear hb5
      go_wp2
      go_ret
      exact ⟨rfl, B5.out⟩
    | false =>
      have HH := Lib.hid (l17_heavy l p c false w1 hh hq1)
      have HH2 := Lib.hid (fun (wx : World) (g : Nat) (hb : Below w.heap.size w wx) (k : Blk wx g 60 R) => l17_heavy [r] (some ⟨g, 0, none⟩) 1 false wx hh2 (one_req k hR.symm (hvq.below hb)))
      obtain ⟨h60, hok⟩ := reqs_S hin hh
      have hrS := (reqs_S (l := [r]) (fun x hx => by rw [List.mem_singleton.1 hx]; exact hr) hh2).2 r (by simp)
      have hsS := (all_S l fun r hr => (hok r hr).2.2).1
      have HA := Lib.hid (fun (wx : World) (hb : Below w.heap.size w wx) => K.all l p c wx w.heap.size hb.size (by omega) (hq.below (below_er hb)) hok)
      have HRT : Hid (∀ wx, Below w.heap.size w wx → ReqTold (er w.heap.size wx) (.agg R.toArray) r) := Lib.hid (fun wx hb => ⟨q, by rw [hR], hvq.below (below_er hb)⟩)
      have HVQ : Hid (∀ wx, Below w.heap.size w wx → VV (er w.heap.size wx) (.agg q.toArray) r.ver) := Lib.hid (fun wx hb => hvq.below (below_er hb))
      have HRS := Lib.hid hrS
      have HRI := Lib.hid hr
      have HRC := Lib.hid hR.symm
      generalize (allR l).1 = s at *
      have HSS := Lib.hid hsS
      clear hok h60 hsS hrS
      clear hq hq1 hin hh hh2 hS kR b1 hR hRl
      go_enter Try.func6, Try.ntmps6
      go_wp2_with fail
      refine (HH.out).mono ?_
      rintro e w2 ⟨rfl, hb2⟩
      have B2 := Lib.hid (B1.out.trans (hb2.mono B1.out.size))
      have B1_2 := Lib.hid hb2
      clear hb2
      have KR2 := Lib.hid (KR.out.below B1_2.out KR.out.lt)
      obtain ⟨g, hg⟩ : ∃ g, w2.heap.size = g := ⟨_, rfl⟩
      have hG := Lib.hid hg
      obtain ⟨w3, hw3⟩ : ∃ w3, w2.alloc (.cells R.toArray 60) = w3 := ⟨_, rfl⟩
      have b3 : Below w2.heap.size w2 w3 := by rw [← hw3]; exact (Below.refl w2.heap.size w2).alloc (Nat.le_refl _) _
      have B3 := Lib.hid (B2.out.trans (b3.mono B2.out.size))
      have KR3 := Lib.hid (KR2.out.below b3 KR2.out.lt)
      have H3 := Lib.hid (HH2.out w3 g B3.out (by rw [← hw3, ← hg]; exact Blk.new' w2 60 R rfl))
      clear b3
      go_wp2_with (first | (refine wpList_load_blkW rfl 60 _ rfl B0 rfl KR2.out Try.underlying60 rfl HRL.out ?_) | (refine wpList_buildRowG rfl 22 60 _ rfl R i0 (.agg zRq.toArray) g hG.out Try.underlying22 hi0 hz0 HRZ.out.1 HRZ.out.2.1 HRZ.out.2.2 (by simp only [List.map_toArray, List.map_cons, List.map_nil]; rfl) ?_; rw [hw3]))
      refine H3.out.mono ?_
      rintro e w4 ⟨rfl, hb4⟩
      have B4 := Lib.hid (B3.out.trans (hb4.mono B3.out.size))
      have KR4 := Lib.hid (KR3.out.below hb4 KR3.out.lt)
      clear hb4
      go_wp2_with fail
      refine (HS.out _).mono ?_
      rintro e w5 ⟨rfl, hb5⟩
      have B5 := Lib.hid (B4.out.trans (hb5.mono B4.out.size))
      have B4_5 := Lib.hid hb5
      clear hb5
      have KR5 := Lib.hid (KR4.out.below B4_5.out KR4.out.lt)
      go_wp2_with fail
      refine (HA.out w5 B5.out).mono ?_
      rintro e w6 ⟨v', vo, rows, rfl, hst, hro, hre, hb6⟩
      obtain ⟨S, rfl, hSl, hSo⟩ := st_row hst
      obtain ⟨po, co, rfl⟩ := hro.isSlice
      obtain ⟨y1, hy1⟩ : ∃ y, w6.heap.size = y := ⟨_, rfl⟩
      obtain ⟨w7, o7⟩ := oneV 42 w6 y1 hy1 S hSl hSo
      have B6 := Lib.hid (B5.out.trans (hb6.mono B5.out.size))
      have B7 := Lib.hid (B6.out.trans (o7.bl.mono B6.out.size))
      have ST7 := Lib.hid (hst.below (er_belowS w.heap.size o7.bl))
      have KR6 := Lib.hid (KR5.out.below hb6 KR5.out.lt)
      have KR7 := Lib.hid (KR6.out.below o7.bl KR6.out.lt)
      have O7 := Lib.hid o7
      have HSZ := Lib.hid (size_sv2 hSl)
      have HSLn := Lib.hid hSl
      have HY1 : Hid (w.heap.size ≤ y1) := Lib.hid (by rw [← hy1]; exact B6.out.size)
      clear hst hro hre hb6 hSl hSo o7 hy1 HA HS HH HH2 H3
      generalize rows.length = rl at *
      go_wp2_with (first | (refine wpList_alloc_n rfl 42 rfl y1 O7.out.a0 _ (alloc_sv _) ?_) | (refine wpList_store_blk rfl 42 _ _ rfl y1 S rfl rfl O7.out.k0 HSZ.out O7.out.lT.1 O7.out.lT.2 ?_; rw [O7.out.eq]) | (refine wpList_load_blk rfl 42 _ rfl y1 rfl O7.out.kT Try.underlying42 rfl HSZ.out ?_) | (refine wpList_load_blk rfl 60 _ rfl B0 rfl KR7.out Try.underlying60 rfl HRL.out ?_))
      refine (K.apply s (.agg S.toArray) (.agg R.toArray) r w7 w.heap.size B7.out.size ST7.out (HRT.out w7 B7.out) HSS.out HRS.out).mono ?_
      rintro e w8 ⟨v', X, rfl, hst8, hrx, hb8⟩
      have HAS := Lib.hid (apply_S HSS.out HRS.out.2.2)
      obtain ⟨T, rfl, hTl, hTo⟩ := st_row hst8
      obtain ⟨y2, hy2⟩ : ∃ y, w8.heap.size = y := ⟨_, rfl⟩
      obtain ⟨w9, o9⟩ := twoV 42 w8 y2 hy2 T X hTl hTo (hrx.len) (rep_one hrx).1
      have B8 := Lib.hid (B7.out.trans (hb8.mono B7.out.size))
      have B9 := Lib.hid (B8.out.trans (o9.bl.mono B8.out.size))
      have B7_9 := Lib.hid (hb8.trans (o9.bl.mono hb8.size))
      have T9 := Lib.hid (hst8.below (er_belowS w.heap.size o9.bl))
      have X9 := Lib.hid (hrx.below (er_belowS w.heap.size o9.bl))
      have S9 := Lib.hid (ST7.out.below (er_belowS w.heap.size B7_9.out))
      have KS9 := Lib.hid (O7.out.kT.below B7_9.out O7.out.kT.lt)
      have KR9 := Lib.hid (KR7.out.below B7_9.out KR7.out.lt)
      have O9 := Lib.hid o9
      have HTZ := Lib.hid (size_sv2 hTl)
      have HTL := Lib.hid hTl
      have HY2 : Hid (w.heap.size ≤ y2 ∧ y1 < y2) := Lib.hid ⟨by rw [← hy2]; exact B8.out.size, by rw [← hy2]; exact Nat.lt_of_lt_of_le O7.out.kT.lt hb8.size⟩
      clear hst8 hrx hb8 hTl hTo o9 hy2
      have HOP : Hid (∀ j v, (cellsO r.kind r.id q)[j]? = some v → w9.cell? ((⟨B0, 2, none⟩ : Addr).add j) = some v) := Lib.hid (fun j v hj => by
        rw [Addr.add_mid, KR9.out.cell, HRC.out]
        rw [Nat.add_comm]
        exact hj)
      have HOL : Hid ((cellsO r.kind r.id q).length = 6) := Lib.hid (by show q.length + 2 = 6; omega)
      obtain ⟨O, hO⟩ : ∃ O, cellsO r.kind r.id q = O := ⟨_, rfl⟩
      rw [hO] at HOP HOL
      have HOT : Hid (OpTold (er w.heap.size w9) (.agg O.toArray) r.kind r.id r.ver) := Lib.hid ⟨q, by rw [hO], HVQ.out w9 B9.out⟩
      clear hO
      go_wp2_with (first | (refine wpList_alloc_n rfl 42 rfl y2 O9.out.a0 _ (alloc_sv _) ?_) | (refine wpList_alloc_n rfl 39 rfl (y2 + 1) O9.out.a1 _ (alloc_rv _) ?_) | (refine wpList_store_blk rfl 42 _ _ rfl y2 T rfl rfl O9.out.k0 HTZ.out O9.out.lT.1 O9.out.lT.2 ?_) | (refine wpList_store_blk rfl 39 _ _ rfl (y2 + 1) X rfl rfl O9.out.k1 O9.out.lX.1 O9.out.lX.2.1 O9.out.lX.2.2 ?_; rw [O9.out.eq]) | (refine wpList_load_blk rfl 42 _ rfl y1 rfl KS9.out Try.underlying42 rfl HSZ.out ?_) | (refine wpList_load_addr rfl 30 _ rfl ⟨B0, 2, none⟩ rfl O HOP.out Try.underlying30 rfl (by rw [size_op, HOL.out]) ?_))
      refine (K.do_ s (.agg S.toArray) (.agg O.toArray) r.kind r.id r.ver w9 w.heap.size B9.out.size S9.out HOT.out HSS.out HRS.out.1 HRS.out.2.2).mono ?_
      rintro e w10 ⟨v', Y, rfl, hst10, hry, hb10⟩
      obtain ⟨U, rfl, hUl, hUo⟩ := st_row hst10
      obtain ⟨y3, hy3⟩ : ∃ y, w10.heap.size = y := ⟨_, rfl⟩
      obtain ⟨w11, o11⟩ := twoV 42 w10 y3 hy3 U Y hUl hUo (hry.len) (rep_one hry).1
      have B10 := Lib.hid (B9.out.trans (hb10.mono B9.out.size))
      have B11 := Lib.hid (B10.out.trans (o11.bl.mono B10.out.size))
      have b9_11 := hb10.trans (o11.bl.mono hb10.size)
      have U11 := Lib.hid (hst10.below (er_belowS w.heap.size o11.bl))
      have Y11 := Lib.hid (hry.below (er_belowS w.heap.size o11.bl))
      have S11 := Lib.hid (S9.out.below (er_belowS w.heap.size b9_11))
      have T11 := Lib.hid (T9.out.below (er_belowS w.heap.size b9_11))
      have KS11 := Lib.hid (KS9.out.below b9_11 KS9.out.lt)
      have KT11 := Lib.hid (O9.out.kT.below b9_11 O9.out.kT.lt)
      have KX11 := Lib.hid (O9.out.kX.below b9_11 O9.out.kX.lt)
      have O11 := Lib.hid o11
      have HUZ := Lib.hid (size_sv2 hUl)
      have HXE := Lib.hid (rep_cell X9.out)
      have HYE := Lib.hid (rep_cells (Y11.out.sub (er_sub _ w11)))
      have HDE : Hid ((doR s.vers r.kind r.id r.ver).2.err ≠ 0 → (doR s.vers r.kind r.id r.ver).1 = s.vers ∧ (doR s.vers r.kind r.id r.ver).2.ids = [] ∧ (doR s.vers r.kind r.id r.ver).2.ver = noV) := Lib.hid (fun h => do_err RawV.id mayR noV h)
      have hYE := HYE.out
      obtain ⟨pi, ci, q4, hY0, hY1, hY2, hq4, hv4⟩ := hYE
      have KY11 := Lib.hid o11.kX
      have KU11 := Lib.hid o11.kT
      have yc := o11.kX.cell 0
      rw [hY0] at yc
      clear hst10 hry hb10 hUl hUo o11 hy3 b9_11
      by_cases hye : (doR s.vers r.kind r.id r.ver).2.err = 0
      · rw [hye] at yc
        have yc0 : w11.cell? ⟨y3 + 1, 0, none⟩ = some (.int .i64 0) := yc
        clear hye hY0 hY1 hY2 yc
        have xc := KX11.out.cell 0
        rw [HXE.out.1] at xc
        by_cases hxe : (appR s r).2.err = 0
        · rw [hxe] at xc
          have xc0 : w11.cell? ⟨y2 + 1, 0, none⟩ = some (.int .i64 0) := xc
          clear hxe xc
          go_wp2_with (first | (go_skip) | (refine wpList_alloc_n rfl 42 rfl y3 O11.out.a0 _ (alloc_sv _) ?_) | (refine wpList_alloc_n rfl 39 rfl (y3 + 1) O11.out.a1 _ (alloc_rv _) ?_) | (refine wpList_store_blk rfl 42 _ _ rfl y3 U rfl rfl O11.out.k0 HUZ.out O11.out.lT.1 O11.out.lT.2 ?_) | (refine wpList_store_blk rfl 39 _ _ rfl (y3 + 1) Y rfl rfl O11.out.k1 O11.out.lX.1 O11.out.lX.2.1 O11.out.lX.2.2 ?_; rw [O11.out.eq]))
          go_ret
          exact ⟨rfl, B11.out⟩
        · have hne : (((appR s r).2.err : Int) != 0) = true := by simpa using hxe
          have hne2 : (((appR s r).2.err : Int) == 0) = false := by simpa using hxe
          have HAE := Lib.hid (app_err HSS.out hxe)
          clear hxe
          generalize ((appR s r).2.err : Int) = xe at *
          obtain ⟨T0, T1, T2, hTe, hT3, hT18, oT1, oT2⟩ := st_parts HTL.out O9.out.lT.2
          obtain ⟨S0, S1, S2, hSe, hS3, hS18, oS1, oS2⟩ := st_parts HSLn.out O7.out.lT.2
          have HKP : Hid (Blk w11 y1 42 ([S0] ++ (S1 ++ S2))) := Lib.hid (by have h := KS11.out; rw [hSe] at h; exact h)
          have HC1 := Lib.hid (part_cell1 KT11.out hTe hT3)
          have HT1 : Hid (T1.length = 3 ∧ S1.length = T1.length ∧ T1.toArray.all (·.oneCell') = true ∧ 4 = (S0 :: T1).length) := Lib.hid ⟨hT3, by rw [hS3, hT3], oT1, by rw [List.length_cons, hT3]⟩
          have HT2 : Hid (T2.length = 18 ∧ S2.length = T2.length ∧ T2.toArray.all (·.oneCell') = true) := Lib.hid ⟨hT18, by rw [hS18, hT18], oT2⟩
          have HTE := Lib.hid hTe
          have HMX := Lib.hid (st_mix HAE.out hTe hSe T11.out S11.out)
          have HRZ2 : Hid ((S0 :: (T1 ++ T2)).length = 22) := Lib.hid (by simp [hT3, hT18])
          clear hTe hSe hT3 hS3 hT18 hS18 oT1 oT2 oS1 oS2
          go_wp2_with (first | (go_skip) | (refine wpList_load_addr rfl 35 _ rfl ⟨y2, 1, none⟩ rfl T1 HC1.out Try.underlying35 rfl (by rw [size_seqs, HT1.out.1]) ?_) | (refine wpList_store_part rfl 35 _ _ rfl y1 1 rfl T1 rfl [S0] S1 S2 HKP.out rfl HT1.out.2.1 (by rw [size_seqs, HT1.out.1]) HT1.out.2.2.1 ?_; rintro wA kA bA eA; have HM := Lib.hid (put_part HY1.out HY2.out.2 HKP.out KT11.out eA rfl HT1.out.2.1); have HKA := Lib.hid (part_join kA); have HC2 := Lib.hid (part_cell2 HM.out.1 HTE.out HT1.out.1); clear kA bA eA) | (refine wpList_load_addr rfl 40 _ rfl ⟨y2, 4, none⟩ rfl T2 HC2.out Try.underlying40 rfl (by rw [size_last, HT2.out.1]) ?_) | (refine wpList_store_part rfl 40 _ _ rfl y1 4 rfl T2 rfl (S0 :: T1) S2 [] HKA.out HT1.out.2.2.2 HT2.out.2.1 (by rw [size_last, HT2.out.1]) HT2.out.2.2 ?_; rintro wB kB bB eB; have HN := Lib.hid (put_part HY1.out HY2.out.2 HKA.out HM.out.1 eB HT1.out.2.2.2 HT2.out.2.1); have HKB := Lib.hid (part_last kB); clear kB bB eB) | (refine wpList_load_blk rfl 42 _ rfl y2 rfl HN.out.1 Try.underlying42 rfl HTZ.out ?_) | (refine wpList_load_blk rfl 42 _ rfl y1 rfl HKB.out Try.underlying42 rfl (size_sv2 HRZ2.out) ?_) | (refine wpList_alloc_n rfl 42 rfl y3 O11.out.a0 _ (alloc_sv _) ?_) | (refine wpList_alloc_n rfl 39 rfl (y3 + 1) O11.out.a1 _ (alloc_rv _) ?_) | (refine wpList_store_blk rfl 42 _ _ rfl y3 U rfl rfl O11.out.k0 HUZ.out O11.out.lT.1 O11.out.lT.2 ?_) | (refine wpList_store_blk rfl 39 _ _ rfl (y3 + 1) Y rfl rfl O11.out.k1 O11.out.lX.1 O11.out.lX.2.1 O11.out.lX.2.2 ?_; rw [O11.out.eq]))
          have BB := Lib.hid (B11.out.trans (HM.out.2.1.trans HN.out.2.1))
          have HEB := Lib.hid (HN.out.2.2.trans HM.out.2.2)
          refine (vr_Equal (appR s r).1 (appR s r).1 (.agg T.toArray) (.agg (S0 :: (T1 ++ T2)).toArray) true _ (equalS_self _) (StTold.sub (by rw [HEB.out]; exact T11.out) (er_sub w.heap.size _)) (StTold.sub (by rw [HEB.out]; exact HMX.out) (er_sub w.heap.size _)) (stS_C HAS.out.1) (stS_C HAS.out.1)).mono ?_
          rintro e wC ⟨rfl, hbC⟩
          have BC := Lib.hid (BB.out.trans (hbC.mono BB.out.size))
          clear hbC
          go_wp2
          go_ret
          exact ⟨rfl, BC.out⟩
      · have hye1 : (((doR s.vers r.kind r.id r.ver).2.err : Int) != 0) = true := by simpa using hye
        obtain ⟨hd1, hd2, hd3⟩ := HDE.out hye
        have U11s : Hid (StTold (er w.heap.size w11) (.agg U.toArray) s) := Lib.hid (by have h := U11.out; rw [hd1] at h; exact h)
        rw [hd3] at hv4
        rw [hd2] at hY1
        have HV4 := Lib.hid hv4
        have HY1c : Hid (Y[1]? = some (.slice pi 0 ci)) := Lib.hid hY1
        have HY2c := Lib.hid hY2
        have HQ4 := Lib.hid hq4
        have HY0c := Lib.hid hY0
        clear hye hd1 hd2 hd3 hv4 hY1 hY2 hq4 hY0
        generalize ((doR s.vers r.kind r.id r.ver).2.err : Int) = ye at *
        go_wp2_with (first | (go_skip) | (refine wpList_alloc_n rfl 42 rfl y3 O11.out.a0 _ (alloc_sv _) ?_) | (refine wpList_alloc_n rfl 39 rfl (y3 + 1) O11.out.a1 _ (alloc_rv _) ?_) | (refine wpList_store_blk rfl 42 _ _ rfl y3 U rfl rfl O11.out.k0 HUZ.out O11.out.lT.1 O11.out.lT.2 ?_) | (refine wpList_store_blk rfl 39 _ _ rfl (y3 + 1) Y rfl rfl O11.out.k1 O11.out.lX.1 O11.out.lX.2.1 O11.out.lX.2.2 ?_; rw [O11.out.eq]) | (refine wpList_load_blkW rfl 42 _ rfl y3 rfl KU11.out Try.underlying42 rfl HUZ.out ?_) | (refine wpList_load_blkW rfl 42 _ rfl y1 rfl KS11.out Try.underlying42 rfl HSZ.out ?_))
        refine (vr_Equal s s (.agg U.toArray) (.agg S.toArray) true _ (equalS_self _) (U11s.out.sub (er_sub w.heap.size _)) (S11.out.sub (er_sub w.heap.size _)) (stS_C HSS.out) (stS_C HSS.out)).mono ?_
        rintro e w12 ⟨rfl, hb12⟩
        have B12 := Lib.hid (B11.out.trans (hb12.mono B11.out.size))
        have T12 := Lib.hid (T11.out.below (er_belowS w.heap.size hb12))
        have S12 := Lib.hid (S11.out.below (er_belowS w.heap.size hb12))
        have HV12 := Lib.hid (HV4.out.below hb12)
        have KS12 := Lib.hid (KS11.out.below hb12 KS11.out.lt)
        have KT12 := Lib.hid (KT11.out.below hb12 KT11.out.lt)
        have KX12 := Lib.hid (KX11.out.below hb12 KX11.out.lt)
        have KY12 := Lib.hid (KY11.out.below hb12 KY11.out.lt)
        have yc0 := KY12.out.cell 0
        rw [HY0c.out] at yc0
        have yc1 := KY12.out.cell 1
        rw [HY1c.out] at yc1
        have HYV : Hid (∀ j v, q4[j]? = some v → w12.cell? ((⟨y3 + 1, 2, none⟩ : Addr).add j) = some v) := Lib.hid (fun j v hj => by
          rw [Addr.add_mid, KY12.out.cell]
          exact HY2c.out j v hj)
        clear hb12 yc
        go_wp2_with (first | (go_skip) | (refine wpList_load_addrV rfl 28 _ rfl ⟨y3 + 1, 2, none⟩ rfl q4 HYV.out Try.underlying28 rfl (by rw [info_verq, HQ4.out]) ?_))
        refine (hr_Same noV noV (.agg q4.toArray) _ true _ (same_self _) HV12.out (VV.none _) noV_ok noV_ok (by decide) (by decide) (by decide)).mono ?_
        rintro e w13 ⟨rfl, hb13⟩
        have B13 := Lib.hid (B12.out.trans (hb13.mono B12.out.size))
        have T13 := Lib.hid (T12.out.below (er_belowS w.heap.size hb13))
        have S13 := Lib.hid (S12.out.below (er_belowS w.heap.size hb13))
        have KS13 := Lib.hid (KS12.out.below hb13 KS12.out.lt)
        have KT13 := Lib.hid (KT12.out.below hb13 KT12.out.lt)
        have KX13 := Lib.hid (KX12.out.below hb13 KX12.out.lt)
        clear hb13 yc0 yc1
        have xc := KX13.out.cell 0
        rw [HXE.out.1] at xc
        by_cases hxe : (appR s r).2.err = 0
        · rw [hxe] at xc
          have xc0 : w13.cell? ⟨y2 + 1, 0, none⟩ = some (.int .i64 0) := xc
          clear hxe xc
          go_wp2_with (first | (go_skip) | fail)
          go_ret
          exact ⟨rfl, B13.out⟩
        · have hne : (((appR s r).2.err : Int) != 0) = true := by simpa using hxe
          have hne2 : (((appR s r).2.err : Int) == 0) = false := by simpa using hxe
          have HAE := Lib.hid (app_err HSS.out hxe)
          clear hxe
          generalize ((appR s r).2.err : Int) = xe at *
          obtain ⟨T0, T1, T2, hTe, hT3, hT18, oT1, oT2⟩ := st_parts HTL.out O9.out.lT.2
          obtain ⟨S0, S1, S2, hSe, hS3, hS18, oS1, oS2⟩ := st_parts HSLn.out O7.out.lT.2
          have HKP : Hid (Blk w13 y1 42 ([S0] ++ (S1 ++ S2))) := Lib.hid (by have h := KS13.out; rw [hSe] at h; exact h)
          have HC1 := Lib.hid (part_cell1 KT13.out hTe hT3)
          have HT1 : Hid (T1.length = 3 ∧ S1.length = T1.length ∧ T1.toArray.all (·.oneCell') = true ∧ 4 = (S0 :: T1).length) := Lib.hid ⟨hT3, by rw [hS3, hT3], oT1, by rw [List.length_cons, hT3]⟩
          have HT2 : Hid (T2.length = 18 ∧ S2.length = T2.length ∧ T2.toArray.all (·.oneCell') = true) := Lib.hid ⟨hT18, by rw [hS18, hT18], oT2⟩
          have HTE := Lib.hid hTe
          have HMX := Lib.hid (st_mix HAE.out hTe hSe T13.out S13.out)
          have HRZ2 : Hid ((S0 :: (T1 ++ T2)).length = 22) := Lib.hid (by simp [hT3, hT18])
          clear hTe hSe hT3 hS3 hT18 hS18 oT1 oT2 oS1 oS2
          go_wp2_with (first | (go_skip) | (refine wpList_load_addr rfl 35 _ rfl ⟨y2, 1, none⟩ rfl T1 HC1.out Try.underlying35 rfl (by rw [size_seqs, HT1.out.1]) ?_) | (refine wpList_store_part rfl 35 _ _ rfl y1 1 rfl T1 rfl [S0] S1 S2 HKP.out rfl HT1.out.2.1 (by rw [size_seqs, HT1.out.1]) HT1.out.2.2.1 ?_; rintro wA kA bA eA; have HM := Lib.hid (put_part HY1.out HY2.out.2 HKP.out KT13.out eA rfl HT1.out.2.1); have HKA := Lib.hid (part_join kA); have HC2 := Lib.hid (part_cell2 HM.out.1 HTE.out HT1.out.1); clear kA bA eA) | (refine wpList_load_addr rfl 40 _ rfl ⟨y2, 4, none⟩ rfl T2 HC2.out Try.underlying40 rfl (by rw [size_last, HT2.out.1]) ?_) | (refine wpList_store_part rfl 40 _ _ rfl y1 4 rfl T2 rfl (S0 :: T1) S2 [] HKA.out HT1.out.2.2.2 HT2.out.2.1 (by rw [size_last, HT2.out.1]) HT2.out.2.2 ?_; rintro wB kB bB eB; have HN := Lib.hid (put_part HY1.out HY2.out.2 HKA.out HM.out.1 eB HT1.out.2.2.2 HT2.out.2.1); have HKB := Lib.hid (part_last kB); clear kB bB eB) | (refine wpList_load_blk rfl 42 _ rfl y2 rfl HN.out.1 Try.underlying42 rfl HTZ.out ?_) | (refine wpList_load_blk rfl 42 _ rfl y1 rfl HKB.out Try.underlying42 rfl (size_sv2 HRZ2.out) ?_) | fail)
          have BB := Lib.hid (B13.out.trans (HM.out.2.1.trans HN.out.2.1))
          have HEB := Lib.hid (HN.out.2.2.trans HM.out.2.2)
          refine (vr_Equal (appR s r).1 (appR s r).1 (.agg T.toArray) (.agg (S0 :: (T1 ++ T2)).toArray) true _ (equalS_self _) (StTold.sub (by rw [HEB.out]; exact T13.out) (er_sub w.heap.size _)) (StTold.sub (by rw [HEB.out]; exact HMX.out) (er_sub w.heap.size _)) (stS_C HAS.out.1) (stS_C HAS.out.1)).mono ?_
          rintro e wC ⟨rfl, hbC⟩
          have BC := Lib.hid (BB.out.trans (hbC.mono BB.out.size))
          clear hbC
          go_wp2
          go_ret
          exact ⟨rfl, BC.out⟩
theorem walk (l : List (ReqU RawV)) (p : Option Addr) (c : Nat) (r : ReqU RawV) (v : Value) (hin : (∀ r ∈ l, ReqIn r) ∧ l.length ≤ maxLen ∧ (Value.slice p l.length c = .slice none 0 0 ∨ ((∃ a, p = some a) ∧ l.length ≤ c))) (hr : ReqIn r) (w : World) (hq : ReqsV w (.slice p l.length c) l) (hv : ReqTold w v r) :
    Calls Try.prog 6 #[.slice p l.length c, v] w fun e w' => e = .returned (.bool true) ∧ Below w.heap.size w w' := walkK theVault l p c hin.1 r v hr w hq hv
set_option maxRecDepth 100000 in
theorem lifted (os : Os) (started : os.Started) (H : Type) (enc : TypeId × Value → H) :
    ReturnsInHanded {} Try.checked os 6 .any (Rows.vaultErrorsSpec.pre6 enc Try.prog Try.f6 Rows.vaultErrorsRow.domain false) (Rows.vaultErrorsSpec.post enc Try.prog Try.f6 false true false false) := by
  refine returnsInHanded_of_change (C := Try.checked) own started (by kernel_rfl) Try.func6
    (ChangeSpec.witness6 (enc := enc) (C := Try.checked) false ⟨#[], #[.slice none 0 0, .agg #[.int .i64 0, .int .u32 0, .int .i64 0, .int .u32 0, .int .u32 0, .slice none 0 0, .slice none 0 0, .slice none 0 0]], []⟩ 8 (by kernel_rfl) (by kernel_rfl) (by kernel_rfl) (by kernel_rfl)) ?_
  intro W base args ds gs before hval0 hW hcnd _
  have hval : ∀ (j : Nat) t v, Try.f6.params[j]? = some t → args[j]? = some v → Value.okWide Try.prog W .any base t v := hval0
  have hW' := hW
  obtain ⟨p, q, hA0, hV, rfl, hfz, hnd⟩ := hW
  have hA : DataW.TrodAll enc Try.prog W 0 (fun _ => true) true Try.f6.params.toList args.toList ds p := hA0
  rw [Try.params6] at hA hval
  obtain ⟨v0, vs0, d0, ds0, p0, q0, hargs, rfl, rfl, h0, r0⟩ := trodAll_cons hA
  obtain ⟨v1, vs1, d1, ds1, p1, q1, rfl, rfl, rfl, h1, r1⟩ := trodAll_cons r0
  obtain ⟨rfl, rfl, rfl⟩ := trodAll_nil r1
  obtain rfl : args = #[v0, v1] := by cases args; simp_all
  obtain ⟨rfl, rfl⟩ := trodVars_none hV
  have k0 := h0
  have lt0 : ∀ x ∈ p0, x.block < W.heap.size := by obtain ⟨m, hm⟩ := k0; exact DataW.trod_lt m _ _ _ hm
  obtain ⟨a0, m0, c0, rfl⟩ := Go.WideShapes.okWide_slice Try.underlying22 (hval 0 22 v0 rfl rfl)
  obtain ⟨l0, rfl, S0, n0⟩ := open_reqs h0
  have k1 := h1
  have lt1 : ∀ x ∈ p1, x.block < W.heap.size := by obtain ⟨m, hm⟩ := k1; exact DataW.trod_lt m _ _ _ hm
  obtain ⟨l1, S1, n1⟩ := open_req (hval 1 60 v1 rfl rfl) h1
  clear hA0 hval0
  simp only [List.append_nil] at hW'
  refine (walk l0 a0 c0 l1 v1 n0 n1 W S0 S1).mono fun e W' ⟨he, bel⟩ => ?_
  subst he
  exact ⟨_, rfl, _, _, _, [], _, [], hW', trodAll_mk1 (shut_bool Try.underlying4 _), (trodAll_cons_mk (Below.trod laidOut (by kernel_rfl) (of_decide_eq_true (by kernel_rfl)) k0 bel lt0) (trodAll_cons_mk (Below.trod laidOut (by kernel_rfl) (of_decide_eq_true (by kernel_rfl)) k1 bel lt1) trodAll_mk0)), rfl, bel.frame _, fun h => by cases h⟩

theorem over : Rows.vaultErrorsRow.holds Try.pinned (OpenSpec.ofChange Rows.vaultErrorsSpec) :=
  OpenClaim.holds_of_wide 6 Try.f6 rfl rfl rfl rfl rfl rfl rfl ⟨rfl, rfl, rfl, rfl, rfl⟩ rfl rfl rfl rfl rfl (by kernel_rfl) Try.func6 (by kernel_rfl)
    (of_decide_eq_true (by kernel_rfl)) (by unfold Func.isWrapper; first | (rw [if_pos (by decide +kernel)]; kernel_rfl) | (rw [if_neg (by decide +kernel)]; exact ⟨rfl, rfl⟩))
    (fun os started H enc _ => lifted os started H enc)

theorem proved : Rows.VaultErrorsSaid :=
  over
#print axioms proved
end Go.Proofs.Ytogonbgelaehhaa.vaultErrors
