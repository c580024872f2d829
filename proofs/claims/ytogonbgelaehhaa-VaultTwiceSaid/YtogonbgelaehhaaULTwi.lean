/- VaultTwice is proved: a request that comes again changes nothing and is answered alike; one that is over is told so. Conditions: none besides the statement's own. -/
import Derived.Test.YtogonbgelaehhaaUGd
import Derived.Test.YtogonbgelaehhaaG1
import Derived.Test.YtogonbgelaehhaaUWe
namespace Go.Proofs.Ytogonbgelaehhaa.vaultTwice
open Go.RowKit Go.ChangeShapes Go.WideShapes
set_option linter.unusedVariables false
set_option linter.unusedSimpArgs false

/-- a reply's first cell -/
theorem rep_cell {w : World} {X : List Value} {x : RepU RawV} (h : RepOkV w X x) : X[0]? = some (.int .i64 (x.err : Int)) ∧ X.length = 6 := by
  obtain ⟨pi, ci, pb, cb, pn, cn, pz, cz, e⟩ := h.row
  rw [e]
  exact ⟨rfl, rfl⟩
theorem agg_inj {a b : List Value} (h : Value.agg a.toArray = .agg b.toArray) : a = b := by
  have := congrArg (fun v => match v with | Value.agg c => c.toList | _ => []) h
  simpa using this
theorem seq_cell {w : World} {S : List Value} {s : StU RawV} (h : StTold w (.agg S.toArray) s) (j : Nat) (hj : j < 3) : S[1 + j]? = some (.int .u32 ((s.seqs.getD j 0 : Nat) : Int)) := by
  obtain ⟨S', _, _, e, _, _, _, _, hq, _⟩ := st_cells3 h
  rw [agg_inj e]
  exact hq j hj
theorem app_bad {s : StU RawV} {r : ReqU RawV} (h : r.client < 0 ∨ 3 ≤ r.client ∨ r.seq = 0) : appR s r = (s, wrongU noV 170) := by
  unfold appR applyU
  rw [if_pos h]
theorem app_old {s : StU RawV} {r : ReqU RawV} (h : ¬ (r.client < 0 ∨ 3 ≤ r.client ∨ r.seq = 0)) (h2 : r.seq < s.seqs.getD r.client.toNat 0) : appR s r = (s, wrongU noV 171) := by
  unfold appR applyU
  rw [if_neg h, if_neg (by omega), if_pos h2]
theorem app_prev {s : StU RawV} {r : ReqU RawV} (n : Nat) (hn : n = r.seq - 1) (h : ¬ (r.client < 0 ∨ 3 ≤ r.client ∨ r.seq = 0)) (h2 : s.seqs.getD r.client.toNat 0 = r.seq) : (appR s ⟨r.client, n, r.kind, r.id, r.ver⟩).2 = wrongU noV (if n = 0 then 170 else 171) := by
  subst hn
  unfold appR applyU
  by_cases h0 : r.seq - 1 = 0
  · rw [if_pos (.inr (.inr h0)), if_pos h0]
  · rw [if_neg (by simp only; omega), if_neg (by simp only; omega), if_pos (by simp only; omega), if_neg h0]
theorem alloc_rq (w : World) : (Instr.alloc 60 true (.tuple #[])).run Try.prog w = .ok (.pointer (some ⟨w.heap.size, 0, none⟩)) (w.alloc (.cells zRq.toArray 60)) := by kernel_rfl
/-- a request in a new variable, its number changed -/
structure OneQ (w : World) (b : Nat) (R : List Value) (v : Value) (w13 w14 : World) : Prop where
  a0 : w.heap.size = b
  k0 : Blk (w.alloc (.cells zRq.toArray 60)) b 60 zRq
  eq : (w.alloc (.cells zRq.toArray 60)).setRow b R.toArray = w13
  eq2 : w13.setCell ⟨b, 1, none⟩ v = w14
  k1 : Blk w13 b 60 R
  k2 : Blk w14 b 60 (R.set 1 v)
  bl1 : Below w.heap.size w w13
  bl2 : Below w.heap.size w w14
theorem oneQ (w : World) (b : Nat) (hb : w.heap.size = b) (R : List Value) (hR : R.length = 8) (v : Value) : ∃ w13 w14, OneQ w b R v w13 w14 := by
  have k0 : Blk (w.alloc (.cells zRq.toArray 60)) b 60 zRq := by rw [← hb]; exact Blk.new' w 60 zRq rfl
  have k1 := k0.row R (by rw [hR]; rfl)
  have bl1 := below_setRow ((Below.refl w.heap.size w).alloc (Nat.le_refl _) (.cells zRq.toArray 60)) (Nat.le_of_eq hb) R.toArray
  exact ⟨_, _, hb, k0, rfl, rfl, k1, k1.set 1 v, bl1, below_setCells (Nat.le_of_eq hb) [v] 1 _ bl1⟩
/-- the slots in the last region: what is known, what its operations come to -/
def twF (p : Option Addr) (n c : Nat) (R S T X U Y V Z R2 : List Value) (B0 y1 y2 y3 y4 y5 g : Nat) (po : Option Addr) (rl co : Nat) (zs zq : Int) (k : Nat) (u : Nat → Value) : Array Value :=
  #[Value.slice p n c, Value.agg R.toArray, undef, Value.pointer (some { block := B0, off := 0 }), Value.bool false, Value.pointer (some { block := y1, off := 0 }), Value.slice po rl co, Value.pointer (some { block := y2, off := 0 }), Value.pointer (some { block := y2 + 1, off := 0 }), Value.pointer (some { block := y3, off := 0 }), Value.pointer (some { block := y3 + 1, off := 0 }), Value.pointer (some { block := y4, off := 0 }), Value.pointer (some { block := y5, off := 0 }), Value.pointer (some { block := y5 + 1, off := 0 }), Value.slice p n c, Value.bool false, Value.bool false, Value.agg R.toArray, Value.slice (some { block := g, off := 0 }) 1 1, Value.bool false, Value.bool false, Value.bool false, Value.bool true, Value.bool false, Value.bool false, undef, Value.tuple #[Value.agg S.toArray, Value.slice po rl co], Value.slice p n c, Value.tuple #[Value.agg S.toArray, Value.slice po rl co], Value.agg S.toArray, Value.slice po rl co, Value.tuple #[Value.agg T.toArray, Value.agg X.toArray], Value.agg S.toArray, Value.agg R.toArray, Value.tuple #[Value.agg T.toArray, Value.agg X.toArray], Value.agg T.toArray, Value.agg X.toArray, Value.tuple #[Value.agg U.toArray, Value.agg Y.toArray], Value.agg T.toArray, Value.agg R.toArray, Value.tuple #[Value.agg U.toArray, Value.agg Y.toArray], Value.agg U.toArray, Value.agg Y.toArray, Value.agg U.toArray, Value.agg T.toArray, Value.bool true, Value.bool false, Value.pointer (some { block := B0, off := 0 }), Value.int IntKind.i64 (k : Int), Value.bool (decide ((k : Int) < 0)), Value.bool (decide ((k : Int) < 0)), Value.pointer (some { block := B0, off := 0 }), Value.int IntKind.i64 (k : Int), Value.bool (decide (3 ≤ (k : Int))), Value.bool (decide ((k : Int) < 0) || decide (3 ≤ (k : Int))), Value.bool (decide ((k : Int) < 0) || decide (3 ≤ (k : Int))), Value.pointer (some { block := B0, off := 1 }), Value.int IntKind.u32 zs, Value.bool false, Value.bool (decide ((k : Int) < 0) || decide (3 ≤ (k : Int))), undef, undef, undef, undef, undef, undef, undef, undef, Value.pointer (some { block := B0, off := 1 }), Value.int IntKind.u32 zs, Value.pointer (some { block := B0, off := 0 }), Value.int IntKind.i64 (k : Int), Value.pointer (some { block := y1, off := 1 }), Value.pointer (some { block := y1, off := 1 + k }), Value.int IntKind.u32 zq, Value.bool (decide (zs < zq)), undef, undef, undef, undef, undef, undef, undef, undef, undef, undef, undef, undef, undef, Value.agg R.toArray, Value.pointer (some { block := B0, off := 1 }), Value.int IntKind.u32 zs, Value.int IntKind.u32 (zs - 1), Value.pointer (some { block := y4, off := 1 }), Value.tuple #[Value.agg V.toArray, Value.agg Z.toArray], Value.agg T.toArray, Value.agg R2.toArray, Value.tuple #[Value.agg V.toArray, Value.agg Z.toArray], Value.agg V.toArray, Value.agg Z.toArray, u 0, u 1, u 2, u 3, u 4, u 5, u 6, u 7, u 8, u 9, u 10, u 11, u 12, u 13, u 14, u 15, u 16, u 17, u 18, u 19, u 20, u 21, u 22, u 23, u 24, u 25, u 26, u 27, u 28, u 29, u 30, u 31, u 32]
def twV1 (X Y : List Value) (B0 y2 y4 y5 k : Nat) (zs : Int) : Nat → Value
  | 0 => .agg X.toArray
  | 1 => .agg Y.toArray
  | 2 => .bool true
  | 3 => .bool true
  | 4 => .pointer (some ⟨B0, 0, none⟩)
  | 5 => .int .i64 (k : Int)
  | 6 => .pointer (some ⟨y2, 1, none⟩)
  | 7 => .pointer (some ⟨y2, 1 + k, none⟩)
  | 8 => .int .u32 zs
  | 9 => .pointer (some ⟨B0, 1, none⟩)
  | 10 => .int .u32 zs
  | 11 => .bool true
  | 12 => .bool true
  | 13 => .bool true
  | 14 => .pointer (some ⟨y4, 1, none⟩)
  | 15 => .int .u32 0
  | 16 => .bool true
  | 17 => .bool true
  | 18 => .pointer (some ⟨y5 + 1, 0, none⟩)
  | 19 => .int .i64 170
  | 20 => .bool true
  | 21 => .bool true
  | 22 => .bool true
  | 23 => undef
  | 24 => undef
  | 25 => undef
  | 26 => undef
  | 27 => undef
  | 28 => undef
  | 29 => undef
  | 30 => undef
  | 31 => .bool true
  | 32 => .bool true
  | _ => undef
def twV2 (X Y : List Value) (B0 y2 y4 y5 k : Nat) (zs zp : Int) : Nat → Value
  | 0 => .agg X.toArray
  | 1 => .agg Y.toArray
  | 2 => .bool true
  | 3 => .bool true
  | 4 => .pointer (some ⟨B0, 0, none⟩)
  | 5 => .int .i64 (k : Int)
  | 6 => .pointer (some ⟨y2, 1, none⟩)
  | 7 => .pointer (some ⟨y2, 1 + k, none⟩)
  | 8 => .int .u32 zs
  | 9 => .pointer (some ⟨B0, 1, none⟩)
  | 10 => .int .u32 zs
  | 11 => .bool true
  | 12 => .bool true
  | 13 => .bool true
  | 14 => .pointer (some ⟨y4, 1, none⟩)
  | 15 => .int .u32 zp
  | 16 => .bool false
  | 17 => .bool false
  | 18 => undef
  | 19 => undef
  | 20 => undef
  | 21 => .bool false
  | 22 => .bool false
  | 23 => .pointer (some ⟨y4, 1, none⟩)
  | 24 => .int .u32 zp
  | 25 => .bool true
  | 26 => .bool true
  | 27 => .pointer (some ⟨y5 + 1, 0, none⟩)
  | 28 => .int .i64 171
  | 29 => .bool true
  | 30 => .bool true
  | 31 => .bool true
  | 32 => .bool true
  | _ => undef
set_option maxRecDepth 100000 in
set_option maxHeartbeats 8000000 in
theorem walkK (K : VaultKit) (l : List (ReqU RawV)) (p : Option Addr) (c : Nat) (hin : ∀ r ∈ l, ReqIn r) (r : ReqU RawV) (v : Value) (hr : ReqIn r) (w : World) (hq : ReqsV w (.slice p l.length c) l) (hv : ReqTold w v r) :
    Calls Try.prog 4 #[.slice p l.length c, v] w fun e w' => e = .returned (.bool true) ∧ Below w.heap.size w w' := by
  obtain ⟨q, rfl, hvq⟩ := hv
  obtain ⟨R, hR⟩ : ∃ R, cellsQ r.client r.seq (cellsO r.kind r.id q) = R := ⟨_, rfl⟩
  have hql := hvq.len
  have hRl : R.length = 8 := by rw [← hR]; show q.length + 4 = 8; omega
  obtain ⟨B0, hB0⟩ : ∃ B0, w.heap.size = B0 := ⟨_, rfl⟩
  obtain ⟨w1, hw1⟩ : ∃ w1, w.alloc (.cells R.toArray 60) = w1 := ⟨_, rfl⟩
  have kR : Blk w1 B0 60 R := by rw [← hw1, ← hB0]; exact Blk.new' w 60 R rfl
  have b1 : Below w.heap.size w w1 := by rw [← hw1]; exact (Below.refl w.heap.size w).alloc (Nat.le_refl _) _
  have hq1 := hq.below b1
  have hS := fun wx => l17_shown K wx
  have HS := Lib.hid hS
  have KR := Lib.hid kR
  have B1 := Lib.hid b1
  have HRL : Hid ((Try.prog.info? 60).map (·.size) = some R.length) := Lib.hid (by rw [size_req, hRl])
  obtain ⟨i0, hi0, hz0, hz1⟩ := info_req1
  have HRZ : Hid (i0.size = R.length ∧ 0 < R.length ∧ R.length ≤ 1000) := Lib.hid ⟨by rw [hz1, hRl], by rw [hRl]; decide, by rw [hRl]; decide⟩
  have HRO : Hid (R.toArray.all (·.oneCell') = true) := Lib.hid (by rw [← hR]; exact req_one hvq)
  rw [hR]
  cases hh : heavyQ l with
  | true =>
    have HH := Lib.hid (l17_heavy l p c true w1 hh hq1)
    clear hq hq1 hin hh hS kR b1 hR hRl
    go_enter Try.func4, Try.ntmps4
    go_wp2_with fail
    refine (HH.out).mono ?_
    rintro e w2 ⟨rfl, hb2⟩
    have B2 := Lib.hid (B1.out.trans (hb2.mono B1.out.size))
    have B1_2 := Lib.hid hb2
    clear hb2
    go_wp2_with fail
    refine (HS.out _).mono ?_
    rintro e w3 ⟨rfl, hb3⟩
    have B3 := Lib.hid (B2.out.trans (hb3.mono B2.out.size))
    have B2_3 := Lib.hid hb3
    clear hb3
    go_wp2
    go_ret
    exact ⟨rfl, B3.out⟩
  | false =>
    cases hh2 : heavyQ [r] with
    | true =>
      have HH := Lib.hid (l17_heavy l p c false w1 hh hq1)
      have HH2 := Lib.hid (fun (wx : World) (g : Nat) (hb : Below w.heap.size w wx) (k : Blk wx g 60 R) => l17_heavy [r] (some ⟨g, 0, none⟩) 1 true wx hh2 (one_req k hR.symm (hvq.below hb)))
      clear hq hq1 hin hh hh2 hS kR b1 hR hRl
      go_enter Try.func4, Try.ntmps4
      go_wp2_with fail
      refine (HH.out).mono ?_
      rintro e w2 ⟨rfl, hb2⟩
      have B2 := Lib.hid (B1.out.trans (hb2.mono B1.out.size))
      have B1_2 := Lib.hid hb2
      clear hb2
      have KR2 := Lib.hid (KR.out.below B1_2.out KR.out.lt)
      obtain ⟨g, hg⟩ : ∃ g, w2.heap.size = g := ⟨_, rfl⟩
      have hG := Lib.hid hg
      obtain ⟨w3, hw3⟩ : ∃ w3, w2.alloc (.cells R.toArray 60) = w3 := ⟨_, rfl⟩
      have b3 : Below w2.heap.size w2 w3 := by rw [← hw3]; exact (Below.refl w2.heap.size w2).alloc (Nat.le_refl _) _
      have B3 := Lib.hid (B2.out.trans (b3.mono B2.out.size))
      have KR3 := Lib.hid (KR2.out.below b3 KR2.out.lt)
      have H3 := Lib.hid (HH2.out w3 g B3.out (by rw [← hw3, ← hg]; exact Blk.new' w2 60 R rfl))
      clear b3
      go_wp2_with (first | (refine wpList_load_blkW rfl 60 _ rfl B0 rfl KR2.out Try.underlying60 rfl HRL.out ?_) | (refine wpList_buildRowG rfl 22 60 _ rfl R i0 (.agg zRq.toArray) g hG.out Try.underlying22 hi0 hz0 HRZ.out.1 HRZ.out.2.1 HRZ.out.2.2 (by simp only [List.map_toArray, List.map_cons, List.map_nil]; rfl) ?_; rw [hw3]))
      refine H3.out.mono ?_
      rintro e w4 ⟨rfl, hb4⟩
      have B4 := Lib.hid (B3.out.trans (hb4.mono B3.out.size))
      have KR4 := Lib.hid (KR3.out.below hb4 KR3.out.lt)
      clear hb4
      go_wp2_with fail
      refine (HS.out _).mono ?_
      rintro e w5 ⟨rfl, hb5⟩
      have B5 := Lib.hid (B4.out.trans (hb5.mono B4.out.size))
      have B4_5 := Lib.hid hb5
      clear hb5
      go_wp2
      go_ret
      exact ⟨rfl, B5.out⟩
    | false =>
      have HH := Lib.hid (l17_heavy l p c false w1 hh hq1)
      have HH2 := Lib.hid (fun (wx : World) (g : Nat) (hb : Below w.heap.size w wx) (k : Blk wx g 60 R) => l17_heavy [r] (some ⟨g, 0, none⟩) 1 false wx hh2 (one_req k hR.symm (hvq.below hb)))
      obtain ⟨h60, hok⟩ := reqs_S hin hh
      have hrS := (reqs_S (l := [r]) (fun x hx => by rw [List.mem_singleton.1 hx]; exact hr) hh2).2 r (by simp)
      have hsS := (all_S l fun r hr => (hok r hr).2.2).1
      have HA := Lib.hid (fun (wx : World) (hb : Below w.heap.size w wx) => K.all l p c wx w.heap.size hb.size (by omega) (hq.below (below_er hb)) hok)
      have HRT : Hid (∀ wx, Below w.heap.size w wx → ReqTold (er w.heap.size wx) (.agg R.toArray) r) := Lib.hid (fun wx hb => ⟨q, by rw [hR], hvq.below (below_er hb)⟩)
      have HVQ : Hid (∀ wx, Below w.heap.size w wx → VV (er w.heap.size wx) (.agg q.toArray) r.ver) := Lib.hid (fun wx hb => hvq.below (below_er hb))
      have HRS := Lib.hid hrS
      have HRI := Lib.hid hr
      have HRC := Lib.hid hR.symm
      generalize (allR l).1 = s at *
      have HSS := Lib.hid hsS
      clear hok h60 hsS hrS
      clear hq hq1 hin hh hh2 hS kR b1 hR hRl
      go_enter Try.func4, Try.ntmps4
      go_wp2_with fail
      refine (HH.out).mono ?_
      rintro e w2 ⟨rfl, hb2⟩
      have B2 := Lib.hid (B1.out.trans (hb2.mono B1.out.size))
      have B1_2 := Lib.hid hb2
      clear hb2
      have KR2 := Lib.hid (KR.out.below B1_2.out KR.out.lt)
      obtain ⟨g, hg⟩ : ∃ g, w2.heap.size = g := ⟨_, rfl⟩
      have hG := Lib.hid hg
      obtain ⟨w3, hw3⟩ : ∃ w3, w2.alloc (.cells R.toArray 60) = w3 := ⟨_, rfl⟩
      have b3 : Below w2.heap.size w2 w3 := by rw [← hw3]; exact (Below.refl w2.heap.size w2).alloc (Nat.le_refl _) _
      have B3 := Lib.hid (B2.out.trans (b3.mono B2.out.size))
      have KR3 := Lib.hid (KR2.out.below b3 KR2.out.lt)
      have H3 := Lib.hid (HH2.out w3 g B3.out (by rw [← hw3, ← hg]; exact Blk.new' w2 60 R rfl))
      clear b3
      go_wp2_with (first | (refine wpList_load_blkW rfl 60 _ rfl B0 rfl KR2.out Try.underlying60 rfl HRL.out ?_) | (refine wpList_buildRowG rfl 22 60 _ rfl R i0 (.agg zRq.toArray) g hG.out Try.underlying22 hi0 hz0 HRZ.out.1 HRZ.out.2.1 HRZ.out.2.2 (by simp only [List.map_toArray, List.map_cons, List.map_nil]; rfl) ?_; rw [hw3]))
      refine H3.out.mono ?_
      rintro e w4 ⟨rfl, hb4⟩
      have B4 := Lib.hid (B3.out.trans (hb4.mono B3.out.size))
      have KR4 := Lib.hid (KR3.out.below hb4 KR3.out.lt)
      clear hb4
      go_wp2_with fail
      refine (HS.out _).mono ?_
      rintro e w5 ⟨rfl, hb5⟩
      have B5 := Lib.hid (B4.out.trans (hb5.mono B4.out.size))
      have B4_5 := Lib.hid hb5
      clear hb5
      have KR5 := Lib.hid (KR4.out.below B4_5.out KR4.out.lt)
      go_wp2_with fail
      refine (HA.out w5 B5.out).mono ?_
      rintro e w6 ⟨v', vo, rows, rfl, hst, hro, hre, hb6⟩
      obtain ⟨S, rfl, hSl, hSo⟩ := st_row hst
      obtain ⟨po, co, rfl⟩ := hro.isSlice
      obtain ⟨y1, hy1⟩ : ∃ y, w6.heap.size = y := ⟨_, rfl⟩
      obtain ⟨w7, o7⟩ := oneV 42 w6 y1 hy1 S hSl hSo
      have B6 := Lib.hid (B5.out.trans (hb6.mono B5.out.size))
      have B7 := Lib.hid (B6.out.trans (o7.bl.mono B6.out.size))
      have ST7 := Lib.hid (hst.below (er_belowS w.heap.size o7.bl))
      have KR6 := Lib.hid (KR5.out.below hb6 KR5.out.lt)
      have KR7 := Lib.hid (KR6.out.below o7.bl KR6.out.lt)
      have O7 := Lib.hid o7
      have HSZ := Lib.hid (size_sv2 hSl)
      have HSLn := Lib.hid hSl
      have HY1 : Hid (w.heap.size ≤ y1) := Lib.hid (by rw [← hy1]; exact B6.out.size)
      clear hst hro hre hb6 hSl hSo o7 hy1 HA HS HH HH2 H3
      generalize rows.length = rl at *
      go_wp2_with (first | (refine wpList_alloc_n rfl 42 rfl y1 O7.out.a0 _ (alloc_sv _) ?_) | (refine wpList_store_blk rfl 42 _ _ rfl y1 S rfl rfl O7.out.k0 HSZ.out O7.out.lT.1 O7.out.lT.2 ?_; rw [O7.out.eq]) | (refine wpList_load_blk rfl 42 _ rfl y1 rfl O7.out.kT Try.underlying42 rfl HSZ.out ?_) | (refine wpList_load_blk rfl 60 _ rfl B0 rfl KR7.out Try.underlying60 rfl HRL.out ?_))
      refine (K.apply s (.agg S.toArray) (.agg R.toArray) r w7 w.heap.size B7.out.size ST7.out (HRT.out w7 B7.out) HSS.out HRS.out).mono ?_
      rintro e w8 ⟨v', X, rfl, hst8, hrx, hb8⟩
      have HAS := Lib.hid (apply_S HSS.out HRS.out.2.2)
      obtain ⟨T, rfl, hTl, hTo⟩ := st_row hst8
      obtain ⟨y2, hy2⟩ : ∃ y, w8.heap.size = y := ⟨_, rfl⟩
      obtain ⟨w9, o9⟩ := twoV 42 w8 y2 hy2 T X hTl hTo (hrx.len) (rep_one hrx).1
      have B8 := Lib.hid (B7.out.trans (hb8.mono B7.out.size))
      have B9 := Lib.hid (B8.out.trans (o9.bl.mono B8.out.size))
      have B7_9 := Lib.hid (hb8.trans (o9.bl.mono hb8.size))
      have T9 := Lib.hid (hst8.below (er_belowS w.heap.size o9.bl))
      have X9 := Lib.hid (hrx.below (er_belowS w.heap.size o9.bl))
      have S9 := Lib.hid (ST7.out.below (er_belowS w.heap.size B7_9.out))
      have KS9 := Lib.hid (O7.out.kT.below B7_9.out O7.out.kT.lt)
      have KR9 := Lib.hid (KR7.out.below B7_9.out KR7.out.lt)
      have O9 := Lib.hid o9
      have HTZ := Lib.hid (size_sv2 hTl)
      have HTL := Lib.hid hTl
      have HY2 : Hid (w.heap.size ≤ y2 ∧ y1 < y2) := Lib.hid ⟨by rw [← hy2]; exact B8.out.size, by rw [← hy2]; exact Nat.lt_of_lt_of_le O7.out.kT.lt hb8.size⟩
      clear hst8 hrx hb8 hTl hTo o9 hy2
      go_wp2_with (first | (refine wpList_alloc_n rfl 42 rfl y2 O9.out.a0 _ (alloc_sv _) ?_) | (refine wpList_alloc_n rfl 39 rfl (y2 + 1) O9.out.a1 _ (alloc_rv _) ?_) | (refine wpList_store_blk rfl 42 _ _ rfl y2 T rfl rfl O9.out.k0 HTZ.out O9.out.lT.1 O9.out.lT.2 ?_) | (refine wpList_store_blk rfl 39 _ _ rfl (y2 + 1) X rfl rfl O9.out.k1 O9.out.lX.1 O9.out.lX.2.1 O9.out.lX.2.2 ?_; rw [O9.out.eq]) | (refine wpList_load_blk rfl 42 _ rfl y2 rfl O9.out.kT Try.underlying42 rfl HTZ.out ?_) | (refine wpList_load_blk rfl 60 _ rfl B0 rfl KR9.out Try.underlying60 rfl HRL.out ?_))
      refine (K.apply (appR s r).1 (.agg T.toArray) (.agg R.toArray) r w9 w.heap.size B9.out.size T9.out (HRT.out w9 B9.out) HAS.out.1 HRS.out).mono ?_
      rintro e w10 ⟨v', Y, rfl, hst10, hry, hb10⟩
      have htw : appR (appR s r).1 r = ((appR s r).1, (appR s r).2) := apply_twice RawV.id mayR noV HSS.out.1 r
      rw [htw] at hst10 hry
      clear htw
      obtain ⟨U, rfl, hUl, hUo⟩ := st_row hst10
      obtain ⟨y3, hy3⟩ : ∃ y, w10.heap.size = y := ⟨_, rfl⟩
      obtain ⟨w11, o11⟩ := twoV 42 w10 y3 hy3 U Y hUl hUo (hry.len) (rep_one hry).1
      have B10 := Lib.hid (B9.out.trans (hb10.mono B9.out.size))
      have B11 := Lib.hid (B10.out.trans (o11.bl.mono B10.out.size))
      have b9_11 := hb10.trans (o11.bl.mono hb10.size)
      have U11 := Lib.hid (hst10.below (er_belowS w.heap.size o11.bl))
      have Y11 := Lib.hid (hry.below (er_belowS w.heap.size o11.bl))
      have X11 := Lib.hid (X9.out.below (er_belowS w.heap.size b9_11))
      have S11 := Lib.hid (S9.out.below (er_belowS w.heap.size b9_11))
      have T11 := Lib.hid (T9.out.below (er_belowS w.heap.size b9_11))
      have KR11 := Lib.hid (KR9.out.below b9_11 KR9.out.lt)
      have KS11 := Lib.hid (KS9.out.below b9_11 KS9.out.lt)
      have KT11 := Lib.hid (O9.out.kT.below b9_11 O9.out.kT.lt)
      have KX11 := Lib.hid (O9.out.kX.below b9_11 O9.out.kX.lt)
      have O11 := Lib.hid o11
      have HUZ := Lib.hid (size_sv2 hUl)
      clear hst10 hry hb10 hUl hUo o11 hy3 b9_11
      go_wp2_with (first | (refine wpList_alloc_n rfl 42 rfl y3 O11.out.a0 _ (alloc_sv _) ?_) | (refine wpList_alloc_n rfl 39 rfl (y3 + 1) O11.out.a1 _ (alloc_rv _) ?_) | (refine wpList_store_blk rfl 42 _ _ rfl y3 U rfl rfl O11.out.k0 HUZ.out O11.out.lT.1 O11.out.lT.2 ?_) | (refine wpList_store_blk rfl 39 _ _ rfl (y3 + 1) Y rfl rfl O11.out.k1 O11.out.lX.1 O11.out.lX.2.1 O11.out.lX.2.2 ?_; rw [O11.out.eq]) | (refine wpList_load_blk rfl 42 _ rfl y3 rfl O11.out.kT Try.underlying42 rfl HUZ.out ?_) | (refine wpList_load_blk rfl 42 _ rfl y2 rfl KT11.out Try.underlying42 rfl HTZ.out ?_))
      refine (vr_Equal (appR s r).1 (appR s r).1 (.agg U.toArray) (.agg T.toArray) true _ (equalS_self _) (U11.out.sub (er_sub w.heap.size _)) (T11.out.sub (er_sub w.heap.size _)) (stS_C HAS.out.1) (stS_C HAS.out.1)).mono ?_
      rintro e w12 ⟨rfl, hb12⟩
      have B12 := Lib.hid (B11.out.trans (hb12.mono B11.out.size))
      have Y12 := Lib.hid (Y11.out.below (er_belowS w.heap.size hb12))
      have X12 := Lib.hid (X11.out.below (er_belowS w.heap.size hb12))
      have S12 := Lib.hid (S11.out.below (er_belowS w.heap.size hb12))
      have T12 := Lib.hid (T11.out.below (er_belowS w.heap.size hb12))
      have KR12 := Lib.hid (KR11.out.below hb12 KR11.out.lt)
      have KS12 := Lib.hid (KS11.out.below hb12 KS11.out.lt)
      have KT12 := Lib.hid (KT11.out.below hb12 KT11.out.lt)
      have KX12 := Lib.hid (KX11.out.below hb12 KX11.out.lt)
      have KY12 := Lib.hid (O11.out.kX.below hb12 O11.out.kX.lt)
      have HXE := Lib.hid (rep_cell X9.out)
      have HYE := Lib.hid (rep_cell Y11.out)
      have rc0 : w12.cell? ⟨B0, 0, none⟩ = some (.int .i64 r.client) := by rw [KR12.out.cell, HRC.out]; rfl
      have rc1 : w12.cell? ⟨B0, 1, none⟩ = some (.int .u32 (r.seq : Int)) := by rw [KR12.out.cell, HRC.out]; rfl
      have xc := KX12.out.cell 0
      rw [HXE.out.1] at xc
      have yc := KY12.out.cell 0
      rw [HYE.out.1] at yc
      clear hb12
      by_cases hbad : r.client < 0 ∨ 3 ≤ r.client ∨ r.seq = 0
      · have hae := app_bad (s := s) hbad
        rw [hae] at xc yc
        have xc0 : w12.cell? ⟨y2 + 1, 0, none⟩ = some (.int .i64 170) := xc
        have T12s : Hid (StTold (er w.heap.size w12) (.agg T.toArray) s) := Lib.hid (by have h := T12.out; rw [hae] at h; exact h)
        clear xc yc hae
        by_cases h1 : r.client < 0
        · generalize r.client = cl at *
          clear hbad
          go_wp2_with (first | (go_skip) | (refine wpList_load_blkW rfl 42 _ rfl y2 rfl KT12.out Try.underlying42 rfl HTZ.out ?_) | (refine wpList_load_blkW rfl 42 _ rfl y1 rfl KS12.out Try.underlying42 rfl HSZ.out ?_))
          refine (vr_Equal s s (.agg T.toArray) (.agg S.toArray) true _ (equalS_self _) (T12s.out.sub (er_sub w.heap.size _)) (S12.out.sub (er_sub w.heap.size _)) (stS_C HSS.out) (stS_C HSS.out)).mono ?_
          rintro e w13 ⟨rfl, hb13⟩
          have B13 := Lib.hid (B12.out.trans (hb13.mono B12.out.size))
          clear hb13
          go_wp2_with (first | (go_skip) | fail)
          go_ret
          exact ⟨rfl, B13.out⟩
        · by_cases h2 : 3 ≤ r.client
          · generalize r.client = cl at *
            clear hbad
            go_wp2_with (first | (go_skip) | (refine wpList_load_blkW rfl 42 _ rfl y2 rfl KT12.out Try.underlying42 rfl HTZ.out ?_) | (refine wpList_load_blkW rfl 42 _ rfl y1 rfl KS12.out Try.underlying42 rfl HSZ.out ?_))
            refine (vr_Equal s s (.agg T.toArray) (.agg S.toArray) true _ (equalS_self _) (T12s.out.sub (er_sub w.heap.size _)) (S12.out.sub (er_sub w.heap.size _)) (stS_C HSS.out) (stS_C HSS.out)).mono ?_
            rintro e w13 ⟨rfl, hb13⟩
            have B13 := Lib.hid (B12.out.trans (hb13.mono B12.out.size))
            clear hb13
            go_wp2_with (first | (go_skip) | fail)
            go_ret
            exact ⟨rfl, B13.out⟩
          · have h3 : r.seq = 0 := by omega
            rw [h3] at rc1
            have rc1z : w12.cell? ⟨B0, 1, none⟩ = some (.int .u32 0) := rc1
            have h1 : 0 ≤ r.client := by omega
            have h2 : r.client < 3 := by omega
            have HSQ := Lib.hid h3
            generalize r.client = cl at *
            clear hbad h3 rc1
            go_wp2_with (first | (go_skip) | (refine wpList_load_blkW rfl 42 _ rfl y2 rfl KT12.out Try.underlying42 rfl HTZ.out ?_) | (refine wpList_load_blkW rfl 42 _ rfl y1 rfl KS12.out Try.underlying42 rfl HSZ.out ?_))
            refine (vr_Equal s s (.agg T.toArray) (.agg S.toArray) true _ (equalS_self _) (T12s.out.sub (er_sub w.heap.size _)) (S12.out.sub (er_sub w.heap.size _)) (stS_C HSS.out) (stS_C HSS.out)).mono ?_
            rintro e w13 ⟨rfl, hb13⟩
            have B13 := Lib.hid (B12.out.trans (hb13.mono B12.out.size))
            clear hb13
            go_wp2_with (first | (go_skip) | fail)
            go_ret
            exact ⟨rfl, B13.out⟩
      · obtain ⟨k, hcl, hk⟩ : ∃ k : Nat, r.client = (k : Int) ∧ k < 3 := ⟨r.client.toNat, by omega, by omega⟩
        have HK := Lib.hid hk
        have hk0 : (0 : Int) ≤ (k : Int) := by omega
        have hk3 : (k : Int) < 3 := by omega
        have hsq : 0 < r.seq := by omega
        have HBAD := Lib.hid hbad
        clear hbad
        have hsb := HRS.out.2.1
        have HRN : Hid (zRq.length = R.length) := Lib.hid (by rw [HRC.out]; show 8 = q.length + 4; omega)
        have HSB := Lib.hid hsb
        obtain ⟨zs, hzs⟩ : ∃ z : Int, (r.seq : Int) = z := ⟨_, rfl⟩
        have hz0 : 0 < zs := by omega
        have hz1 : zs < 4294967296 := by omega
        have hz2 : (zs == 0) = false := by simpa using (show ¬ zs = 0 by omega)
        rw [hzs] at rc1
        have HZS := Lib.hid hzs
        have HSQ := Lib.hid hsq
        clear hsb hzs hsq
        rw [hcl] at rc0
        have rc : w12.cell? ⟨B0, 0, none⟩ = some (.int .i64 (k : Int)) := rc0
        clear rc0
        have hct : r.client.toNat = k := by omega
        have HCT := Lib.hid hct
        have HCL := Lib.hid hcl
        have sc : w12.cell? ⟨y1, 1 + k, none⟩ = some (.int .u32 ((s.seqs.getD k 0 : Nat) : Int)) := by rw [KS12.out.cell]; exact seq_cell S12.out k hk
        obtain ⟨zq, hzq⟩ : ∃ z : Int, ((s.seqs.getD k 0 : Nat) : Int) = z := ⟨_, rfl⟩
        rw [hzq] at sc
        have scq : w12.cell? ⟨y1, 1 + k, none⟩ = some (.int .u32 zq) := sc
        have HZQ := Lib.hid hzq
        clear hct hcl hzq sc hk
        by_cases hold : zs < zq
        · have hae := app_old (s := s) HBAD.out (by rw [HCT.out]; have h1 := HZS.out; have h2 := HZQ.out; omega)
          rw [hae] at xc yc
          have xc0 : w12.cell? ⟨y2 + 1, 0, none⟩ = some (.int .i64 171) := xc
          have yc0 : w12.cell? ⟨y3 + 1, 0, none⟩ = some (.int .i64 171) := yc
          have T12s : Hid (StTold (er w.heap.size w12) (.agg T.toArray) s) := Lib.hid (by have h := T12.out; rw [hae] at h; exact h)
          clear xc yc hae
          go_wp2_with (first | (go_skip) | fail)
          go_quiet (fail)
          have hbd : Below w12.heap.size w12 (w12.drewN nq) := below_drewN (Below.refl _ _) nq
          have BD := Lib.hid (B12.out.trans (hbd.mono B12.out.size))
          have TD := Lib.hid (T12s.out.below (er_belowS w.heap.size hbd))
          have SD := Lib.hid (S12.out.below (er_belowS w.heap.size hbd))
          have KTD := Lib.hid (KT12.out.below hbd KT12.out.lt)
          have KSD := Lib.hid (KS12.out.below hbd KS12.out.lt)
          have xcd : (w12.drewN nq).cell? ⟨y2 + 1, 0, none⟩ = some (.int .i64 171) := xc0
          have ycd : (w12.drewN nq).cell? ⟨y3 + 1, 0, none⟩ = some (.int .i64 171) := yc0
          clear hbd xc0 yc0
          generalize w12.drewN nq = wd at *
          go_wp2_with (first | (go_skip) | (refine wpList_load_blkW rfl 42 _ rfl y2 rfl KTD.out Try.underlying42 rfl HTZ.out ?_) | (refine wpList_load_blkW rfl 42 _ rfl y1 rfl KSD.out Try.underlying42 rfl HSZ.out ?_))
          refine (vr_Equal s s (.agg T.toArray) (.agg S.toArray) true _ (equalS_self _) (TD.out.sub (er_sub w.heap.size _)) (SD.out.sub (er_sub w.heap.size _)) (stS_C HSS.out) (stS_C HSS.out)).mono ?_
          rintro e w13 ⟨rfl, hb13⟩
          have B13 := Lib.hid (BD.out.trans (hb13.mono BD.out.size))
          clear hb13
          go_wp2_with (first | (go_skip) | fail)
          go_ret
          exact ⟨rfl, B13.out⟩
        · have HNO : Hid (¬ r.seq < s.seqs.getD r.client.toNat 0) := Lib.hid (by rw [HCT.out]; have h1 := HZS.out; have h2 := HZQ.out; omega)
          have hle : zq ≤ zs := by omega
          have HTQ := Lib.hid (apply_seq RawV.id mayR noV HSS.out.1 HBAD.out HNO.out)
          clear hold xc yc
          go_wp2_with (first | (go_skip) | fail)
          go_quiet (fail)
          have hbd : Below w12.heap.size w12 (w12.drewN nq) := below_drewN (Below.refl _ _) nq
          have BD := Lib.hid (B12.out.trans (hbd.mono B12.out.size))
          have TD := Lib.hid (T12.out.below (er_belowS w.heap.size hbd))
          have XD := Lib.hid (X12.out.below (er_belowS w.heap.size hbd))
          have YD := Lib.hid (Y12.out.below (er_belowS w.heap.size hbd))
          have KRD := Lib.hid (KR12.out.below hbd KR12.out.lt)
          have KTD := Lib.hid (KT12.out.below hbd KT12.out.lt)
          have KXD := Lib.hid (KX12.out.below hbd KX12.out.lt)
          have KYD := Lib.hid (KY12.out.below hbd KY12.out.lt)
          have rcd1 : (w12.drewN nq).cell? ⟨B0, 1, none⟩ = some (.int .u32 zs) := rc1
          clear hbd rc rc1 scq
          generalize w12.drewN nq = wd at *
          obtain ⟨y4, hy4⟩ : ∃ y, wd.heap.size = y := ⟨_, rfl⟩
          obtain ⟨R2, hR2⟩ : ∃ R2, R.set 1 (.int .u32 (zs - 1)) = R2 := ⟨_, rfl⟩
          obtain ⟨w13, w14, o14⟩ := oneQ wd y4 hy4 R (by rw [HRC.out]; show q.length + 4 = 8; omega) (.int .u32 (zs - 1))
          have B13 := Lib.hid (BD.out.trans (o14.bl1.mono BD.out.size))
          have B14 := Lib.hid (BD.out.trans (o14.bl2.mono BD.out.size))
          have O14 := Lib.hid o14
          have rce : w13.cell? ⟨B0, 1, none⟩ = some (.int .u32 zs) := by rw [(KRD.out.below o14.bl1 KRD.out.lt).cell, ← KRD.out.cell]; exact rcd1
          have KT14 := Lib.hid (KTD.out.below o14.bl2 KTD.out.lt)
          have KX14 := Lib.hid (KXD.out.below o14.bl2 KXD.out.lt)
          have KY14 := Lib.hid (KYD.out.below o14.bl2 KYD.out.lt)
          have KR14 := Lib.hid (KRD.out.below o14.bl2 KRD.out.lt)
          have K214 : Hid (Blk w14 y4 60 R2) := Lib.hid (by rw [← hR2]; exact o14.k2)
          have HR2 : Hid (R2 = cellsQ r.client (r.seq - 1) (cellsO r.kind r.id q)) := Lib.hid (by
            rw [← hR2, HRC.out]
            have h1 := HZS.out
            have h2 := HSQ.out
            rw [show zs - 1 = ((r.seq - 1 : Nat) : Int) by omega]
            rfl)
          have HRL2 : Hid ((Try.prog.info? 60).map (·.size) = some R2.length) := Lib.hid (by rw [← hR2, List.length_set]; exact HRL.out)
          have RT14 : Hid (ReqTold (er w.heap.size w14) (.agg R2.toArray) ⟨r.client, r.seq - 1, r.kind, r.id, r.ver⟩) := Lib.hid ⟨q, by rw [HR2.out], HVQ.out w14 B14.out⟩
          have T14 := Lib.hid (TD.out.below (er_belowS w.heap.size o14.bl2))
          have X14 := Lib.hid (XD.out.below (er_belowS w.heap.size o14.bl2))
          have Y14 := Lib.hid (YD.out.below (er_belowS w.heap.size o14.bl2))
          have HPV := Lib.hid (app_prev (s := (appR s r).1) (r.seq - 1) rfl HBAD.out HTQ.out)
          have kc : w13.cell? ⟨y4, 1, none⟩ = some (.int .u32 zs) := by
            rw [o14.k1.cell, HRC.out, ← HZS.out]
            rfl
          have kf : w13.frozen? ⟨y4, 1, none⟩ = false := o14.k1.free _
          clear hy4 hR2 o14
          go_wp2_with (first | (go_skip) | (refine wpList_load_blk rfl 60 _ rfl B0 rfl KRD.out Try.underlying60 rfl HRL.out ?_) | (refine wpList_alloc_n rfl 60 rfl y4 O14.out.a0 _ (alloc_rq _) ?_) | (refine wpList_store_blk rfl 60 _ _ rfl y4 R rfl rfl O14.out.k0 HRL.out HRN.out HRO.out ?_; rw [O14.out.eq]) | (rw [O14.out.eq2]; refine wpList_load_blk rfl 42 _ rfl y2 rfl KT14.out Try.underlying42 rfl HTZ.out ?_) | (refine wpList_load_blk rfl 60 _ rfl y4 rfl K214.out Try.underlying60 rfl HRL2.out ?_))
          refine (K.apply (appR s r).1 (.agg T.toArray) (.agg R2.toArray) ⟨r.client, r.seq - 1, r.kind, r.id, r.ver⟩ w14 w.heap.size B14.out.size T14.out RT14.out HAS.out.1 ⟨HRS.out.1, by have := HRS.out.2.1; show r.seq - 1 < _; omega, HRS.out.2.2⟩).mono ?_
          rintro e w15 ⟨v', Z, rfl, hst15, hrz, hb15⟩
          rw [HPV.out] at hrz
          obtain ⟨V, rfl, hVl, hVo⟩ := st_row hst15
          obtain ⟨y5, hy5⟩ : ∃ y, w15.heap.size = y := ⟨_, rfl⟩
          obtain ⟨w16, o16⟩ := twoV 42 w15 y5 hy5 V Z hVl hVo (hrz.len) (rep_one hrz).1
          have B15 := Lib.hid (B14.out.trans (hb15.mono B14.out.size))
          have B16 := Lib.hid (B15.out.trans (o16.bl.mono B15.out.size))
          have b14_16 := hb15.trans (o16.bl.mono hb15.size)
          have X16 := Lib.hid ((X14.out.below (er_belowS w.heap.size b14_16)).sub (er_sub w.heap.size w16))
          have Y16 := Lib.hid ((Y14.out.below (er_belowS w.heap.size b14_16)).sub (er_sub w.heap.size w16))
          have KR16 := Lib.hid (KR14.out.below b14_16 KR14.out.lt)
          have KT16 := Lib.hid (KT14.out.below b14_16 KT14.out.lt)
          have KX16 := Lib.hid (KX14.out.below b14_16 KX14.out.lt)
          have KY16 := Lib.hid (KY14.out.below b14_16 KY14.out.lt)
          have K216 := Lib.hid (K214.out.below b14_16 K214.out.lt)
          have KZ16 := Lib.hid o16.kX
          have O16 := Lib.hid o16
          have HVZ := Lib.hid (size_sv2 hVl)
          have HZE := Lib.hid (rep_cell hrz)
          have CC0 : Hid (∀ W, Below w16.heap.size w16 W → W.cell? ⟨B0, 0, none⟩ = some (.int .i64 (k : Int))) := Lib.hid (fun W hC => by
            rw [(KR16.out.below hC KR16.out.lt).cell, HRC.out, HCL.out]; rfl)
          have CC1 : Hid (∀ W, Below w16.heap.size w16 W → W.cell? ⟨y2, 1 + k, none⟩ = some (.int .u32 zs)) := Lib.hid (fun W hC => by
            have h := seq_cell T9.out k HK.out
            have h2 := HTQ.out
            rw [HCT.out] at h2
            rw [h2, HZS.out] at h
            rw [(KT16.out.below hC KT16.out.lt).cell]; exact h)
          have CC2 : Hid (∀ W, Below w16.heap.size w16 W → W.cell? ⟨B0, 1, none⟩ = some (.int .u32 zs)) := Lib.hid (fun W hC => by
            rw [(KR16.out.below hC KR16.out.lt).cell, HRC.out, ← HZS.out]; rfl)
          have CC3 : Hid (∀ W, Below w16.heap.size w16 W → W.cell? ⟨y4, 1, none⟩ = some (.int .u32 (zs - 1))) := Lib.hid (fun W hC => by
            have h1 := HZS.out
            have h2 := HSQ.out
            rw [(K216.out.below hC K216.out.lt).cell, HR2.out, show zs - 1 = ((r.seq - 1 : Nat) : Int) by omega]; rfl)
          have CC4 : Hid (∀ W, Below w16.heap.size w16 W → W.cell? ⟨y5 + 1, 0, none⟩ = some (.int .i64 ((if r.seq - 1 = 0 then 170 else 171 : Nat) : Int))) := Lib.hid (fun W hC => by
            rw [(KZ16.out.below hC KZ16.out.lt).cell]; exact HZE.out.1)
          have CX : Hid (∀ W, Below w16.heap.size w16 W → Blk W (y2 + 1) 39 X) := Lib.hid (fun W hC => KX16.out.below hC KX16.out.lt)
          have CY : Hid (∀ W, Below w16.heap.size w16 W → Blk W (y3 + 1) 39 Y) := Lib.hid (fun W hC => KY16.out.below hC KY16.out.lt)
          have CS : Hid (∀ W, Below w16.heap.size w16 W → Calls Try.prog 19 #[.agg X.toArray, .agg Y.toArray] W fun e w' => e = .returned (.bool true) ∧ Below W.heap.size W w') := Lib.hid (fun W hC =>
            vr_Same (appR s r).2 (appR s r).2 X Y true W (sameR_self _) (X16.out.below hC) (Y16.out.below hC) (repS_ok HAS.out.2) (repS_ok HAS.out.2))
          clear hst15 hrz hb15 hVl hVo o16 hy5 b14_16 kc kf rce rcd1
          go_wp2_with (first | (refine wpList_alloc_n rfl 42 rfl y5 O16.out.a0 _ (alloc_sv _) ?_) | (refine wpList_alloc_n rfl 39 rfl (y5 + 1) O16.out.a1 _ (alloc_rv _) ?_) | (refine wpList_store_blk rfl 42 _ _ rfl y5 V rfl rfl O16.out.k0 HVZ.out O16.out.lT.1 O16.out.lT.2 ?_) | (refine wpList_store_blk rfl 39 _ _ rfl (y5 + 1) Z rfl rfl O16.out.k1 O16.out.lX.1 O16.out.lX.2.1 O16.out.lX.2.2 ?_; rw [O16.out.eq]))
          have hzs1 := HZS.out
          have hsq1 := HSQ.out
          by_cases hone : r.seq - 1 = 0
          · have CC3 : Hid (∀ W, Below w16.heap.size w16 W → W.cell? ⟨y4, 1, none⟩ = some (.int .u32 0)) := Lib.hid (fun W hC => by
              rw [CC3.out W hC, show zs - 1 = 0 by omega])
            have CC4 : Hid (∀ W, Below w16.heap.size w16 W → W.cell? ⟨y5 + 1, 0, none⟩ = some (.int .i64 170)) := Lib.hid (fun W hC => by
              rw [CC4.out W hC, if_pos hone]; rfl)
            clear hone hzs1 hsq1
            refine region_free_last 33 mixed (by kernel_rfl) (by kernel_rfl) (twF p l.length c R S T X U Y V Z R2 B0 y1 y2 y3 y4 y5 g po rl co zs zq k) [] (fun _ => undef) rfl (Below w16.heap.size w16) ((Below.refl _ _).drew) (fun i v _ => v = (twV1 X Y B0 y2 y4 y5 k zs) i) ?mono ?step ?last
            case mono =>
              intro i v W W' hv hC hC' hb
              exact hv
            case step =>
              intro u W i o hi ho hC hd
              have hr := Below.refl W.heap.size W
              rcases i with _ | _ | _ | _ | _ | _ | _ | _ | _ | _ | _ | _ | _ | _ | _ | _ | _ | _ | _ | _ | _ | _ | _ | _ | _ | _ | _ | _ | _ | _ | _ | _ | _ | i
              all_goals try (simp only [List.getElem?_cons_zero, List.getElem?_cons_succ, Option.some.injEq] at ho; subst ho)
              · unfold twF
                go_wp2_with (refine wpList_load_blk rfl 39 _ rfl (y2 + 1) rfl (CX.out _ hC) Try.underlying39 rfl O9.out.lX.1 ?_)
                exact ⟨.agg X.toArray, by simp [upd], rfl, hC, hr⟩
              · unfold twF
                go_wp2_with (refine wpList_load_blk rfl 39 _ rfl (y3 + 1) rfl (CY.out _ hC) Try.underlying39 rfl O11.out.lX.1 ?_)
                exact ⟨.agg Y.toArray, by simp [upd], rfl, hC, hr⟩
              · have h0 : u 0 = .agg X.toArray := hd ⟨0, .data⟩ (by simp) rfl
                have h1 : u 1 = .agg Y.toArray := hd ⟨1, .data⟩ (by simp) rfl
                unfold twF
                rw [h0, h1]
                go_wp2_with ((with_reducible refine (CS.out _ hC).mono ?_); rintro e w5 ⟨rfl, hb5⟩)
                exact ⟨.bool true, by simp [upd, h0, h1], rfl, hC.trans (hb5.mono hC.size), hb5⟩
              · have h2 : u 2 = .bool true := hd ⟨2, .data⟩ (by simp) rfl
                unfold twF
                rw [h2]
                go_wp2_with fail
                exact ⟨.bool true, by simp [upd, h2], rfl, hC, hr⟩
              · have h3 : u 3 = .bool true := hd ⟨3, .guard⟩ (by simp) rfl
                unfold twF
                rw [h3]
                go_wp2_with fail
                exact ⟨.pointer (some ⟨B0, 0, none⟩), by simp [upd, h3], rfl, hC, hr⟩
              · have h4 : u 4 = .pointer (some ⟨B0, 0, none⟩) := hd ⟨4, .data⟩ (by simp) rfl
                have h3 : u 3 = .bool true := hd ⟨3, .guard⟩ (by simp) rfl
                have cc := CC0.out W hC
                unfold twF
                rw [h4, h3]
                go_wp2_with fail
                exact ⟨.int .i64 (k : Int), by simp [upd, h4, h3], rfl, hC, hr⟩
              · have h3 : u 3 = .bool true := hd ⟨3, .guard⟩ (by simp) rfl
                unfold twF
                rw [h3]
                go_wp2_with fail
                exact ⟨.pointer (some ⟨y2, 1, none⟩), by simp [upd, h3], rfl, hC, hr⟩
              · have h6 : u 6 = .pointer (some ⟨y2, 1, none⟩) := hd ⟨6, .data⟩ (by simp) rfl
                have h5 : u 5 = .int .i64 (k : Int) := hd ⟨5, .data⟩ (by simp) rfl
                have h3 : u 3 = .bool true := hd ⟨3, .guard⟩ (by simp) rfl
                unfold twF
                rw [h6, h5, h3]
                go_wp2_with fail
                exact ⟨.pointer (some ⟨y2, 1 + k, none⟩), by simp [upd, h6, h5, h3], rfl, hC, hr⟩
              · have h7 : u 7 = .pointer (some ⟨y2, 1 + k, none⟩) := hd ⟨7, .data⟩ (by simp) rfl
                have h3 : u 3 = .bool true := hd ⟨3, .guard⟩ (by simp) rfl
                have cc := CC1.out W hC
                unfold twF
                rw [h7, h3]
                go_wp2_with fail
                exact ⟨.int .u32 zs, by simp [upd, h7, h3], rfl, hC, hr⟩
              · have h3 : u 3 = .bool true := hd ⟨3, .guard⟩ (by simp) rfl
                unfold twF
                rw [h3]
                go_wp2_with fail
                exact ⟨.pointer (some ⟨B0, 1, none⟩), by simp [upd, h3], rfl, hC, hr⟩
              · have h9 : u 9 = .pointer (some ⟨B0, 1, none⟩) := hd ⟨9, .data⟩ (by simp) rfl
                have h3 : u 3 = .bool true := hd ⟨3, .guard⟩ (by simp) rfl
                have cc := CC2.out W hC
                unfold twF
                rw [h9, h3]
                go_wp2_with fail
                exact ⟨.int .u32 zs, by simp [upd, h9, h3], rfl, hC, hr⟩
              · have h8 : u 8 = .int .u32 zs := hd ⟨8, .data⟩ (by simp) rfl
                have h10 : u 10 = .int .u32 zs := hd ⟨10, .data⟩ (by simp) rfl
                have h3 : u 3 = .bool true := hd ⟨3, .guard⟩ (by simp) rfl
                unfold twF
                rw [h8, h10, h3]
                go_wp2_with fail
                exact ⟨.bool true, by simp [upd, h8, h10, h3], rfl, hC, hr⟩
              · have h3 : u 3 = .bool true := hd ⟨3, .data⟩ (by simp) rfl
                have h11 : u 11 = .bool true := hd ⟨11, .data⟩ (by simp) rfl
                unfold twF
                rw [h3, h11]
                go_wp2_with fail
                exact ⟨.bool true, by simp [upd, h3, h11], rfl, hC, hr⟩
              · have h12 : u 12 = .bool true := hd ⟨12, .data⟩ (by simp) rfl
                unfold twF
                rw [h12]
                go_wp2_with fail
                exact ⟨.bool true, by simp [upd, h12], rfl, hC, hr⟩
              · have h13 : u 13 = .bool true := hd ⟨13, .guard⟩ (by simp) rfl
                unfold twF
                rw [h13]
                go_wp2_with fail
                exact ⟨.pointer (some ⟨y4, 1, none⟩), by simp [upd, h13], rfl, hC, hr⟩
              · have h14 : u 14 = .pointer (some ⟨y4, 1, none⟩) := hd ⟨14, .data⟩ (by simp) rfl
                have h13 : u 13 = .bool true := hd ⟨13, .guard⟩ (by simp) rfl
                have cc := CC3.out W hC
                unfold twF
                rw [h14, h13]
                go_wp2_with fail
                exact ⟨.int .u32 0, by simp [upd, h14, h13], rfl, hC, hr⟩
              · have h15 : u 15 = .int .u32 0 := hd ⟨15, .data⟩ (by simp) rfl
                have h13 : u 13 = .bool true := hd ⟨13, .guard⟩ (by simp) rfl
                unfold twF
                rw [h15, h13]
                go_wp2_with fail
                exact ⟨.bool true, by simp [upd, h15, h13], rfl, hC, hr⟩
              · have h16 : u 16 = .bool true := hd ⟨16, .data⟩ (by simp) rfl
                have h13 : u 13 = .bool true := hd ⟨13, .guard⟩ (by simp) rfl
                unfold twF
                rw [h16, h13]
                go_wp2_with fail
                exact ⟨.bool true, by simp [upd, h16, h13], rfl, hC, hr⟩
              · have h17 : u 17 = .bool true := hd ⟨17, .guard⟩ (by simp) rfl
                unfold twF
                rw [h17]
                go_wp2_with fail
                exact ⟨.pointer (some ⟨y5 + 1, 0, none⟩), by simp [upd, h17], rfl, hC, hr⟩
              · have h18 : u 18 = .pointer (some ⟨y5 + 1, 0, none⟩) := hd ⟨18, .data⟩ (by simp) rfl
                have h17 : u 17 = .bool true := hd ⟨17, .guard⟩ (by simp) rfl
                have cc := CC4.out W hC
                unfold twF
                rw [h18, h17]
                go_wp2_with fail
                exact ⟨.int .i64 170, by simp [upd, h18, h17], rfl, hC, hr⟩
              · have h19 : u 19 = .int .i64 170 := hd ⟨19, .data⟩ (by simp) rfl
                have h17 : u 17 = .bool true := hd ⟨17, .guard⟩ (by simp) rfl
                unfold twF
                rw [h19, h17]
                go_wp2_with fail
                exact ⟨.bool true, by simp [upd, h19, h17], rfl, hC, hr⟩
              · have h17 : u 17 = .bool true := hd ⟨17, .data⟩ (by simp) rfl
                have h20 : u 20 = .bool true := hd ⟨20, .data⟩ (by simp) rfl
                have h13 : u 13 = .bool true := hd ⟨13, .guard⟩ (by simp) rfl
                unfold twF
                rw [h17, h20, h13]
                go_wp2_with fail
                exact ⟨.bool true, by simp [upd, h17, h20, h13], rfl, hC, hr⟩
              · have h21 : u 21 = .bool true := hd ⟨21, .data⟩ (by simp) rfl
                have h13 : u 13 = .bool true := hd ⟨13, .guard⟩ (by simp) rfl
                unfold twF
                rw [h21, h13]
                go_wp2_with fail
                exact ⟨.bool true, by simp [upd, h21, h13], rfl, hC, hr⟩
              · have h22 : u 22 = .bool true := hd ⟨22, .guard⟩ (by simp) rfl
                unfold twF
                rw [h22]
                refine wpList_skip rfl ?_
                go_wp2_with fail
                exact ⟨undef, by simp [upd, h22], rfl, hC, hr⟩
              · have h22 : u 22 = .bool true := hd ⟨22, .guard⟩ (by simp) rfl
                unfold twF
                rw [h22]
                refine wpList_skip rfl ?_
                go_wp2_with fail
                exact ⟨undef, by simp [upd, h22], rfl, hC, hr⟩
              · have h22 : u 22 = .bool true := hd ⟨22, .guard⟩ (by simp) rfl
                unfold twF
                rw [h22]
                refine wpList_skip rfl ?_
                go_wp2_with fail
                exact ⟨undef, by simp [upd, h22], rfl, hC, hr⟩
              · have h22 : u 22 = .bool true := hd ⟨22, .guard⟩ (by simp) rfl
                unfold twF
                rw [h22]
                refine wpList_skip rfl ?_
                go_wp2_with fail
                exact ⟨undef, by simp [upd, h22], rfl, hC, hr⟩
              · have h26 : u 26 = undef := hd ⟨26, .guard⟩ (by simp) rfl
                unfold twF
                rw [h26]
                refine wpList_skip rfl ?_
                go_wp2_with fail
                exact ⟨undef, by simp [upd, h26], rfl, hC, hr⟩
              · have h26 : u 26 = undef := hd ⟨26, .guard⟩ (by simp) rfl
                unfold twF
                rw [h26]
                refine wpList_skip rfl ?_
                go_wp2_with fail
                exact ⟨undef, by simp [upd, h26], rfl, hC, hr⟩
              · have h26 : u 26 = undef := hd ⟨26, .guard⟩ (by simp) rfl
                unfold twF
                rw [h26]
                refine wpList_skip rfl ?_
                go_wp2_with fail
                exact ⟨undef, by simp [upd, h26], rfl, hC, hr⟩
              · have h22 : u 22 = .bool true := hd ⟨22, .guard⟩ (by simp) rfl
                unfold twF
                rw [h22]
                refine wpList_skip rfl ?_
                go_wp2_with fail
                exact ⟨undef, by simp [upd, h22], rfl, hC, hr⟩
              · have h22 : u 22 = .bool true := hd ⟨22, .data⟩ (by simp) rfl
                have h30 : u 30 = undef := hd ⟨30, .data⟩ (by simp) rfl
                have h13 : u 13 = .bool true := hd ⟨13, .guard⟩ (by simp) rfl
                unfold twF
                rw [h22, h30, h13]
                go_wp2_with fail
                exact ⟨.bool true, by simp [upd, h22, h30, h13], rfl, hC, hr⟩
              · have h13 : u 13 = .bool true := hd ⟨13, .data⟩ (by simp) rfl
                have h31 : u 31 = .bool true := hd ⟨31, .data⟩ (by simp) rfl
                unfold twF
                rw [h13, h31]
                go_wp2_with fail
                exact ⟨.bool true, by simp [upd, h13, h31], rfl, hC, hr⟩
              · omega
            case last =>
              intro u W o ho hC hS
              simp only [List.getElem?_cons_zero, List.getElem?_cons_succ, Option.some.injEq] at ho
              subst ho
              have h32 : u 32 = .bool true := hS 32 (by decide)
              have BW := B16.out.trans (hC.mono B16.out.size)
              unfold twF
              rw [h32]
              go_wp2_with fail
              go_ret
              exact ⟨rfl, BW⟩
          · obtain ⟨zp, hzp⟩ : ∃ z : Int, zs - 1 = z := ⟨_, rfl⟩
            have hp0 : 0 < zp := by omega
            have hp1 : (zp == 0) = false := by simpa using (show ¬ zp = 0 by omega)
            have CC3 : Hid (∀ W, Below w16.heap.size w16 W → W.cell? ⟨y4, 1, none⟩ = some (.int .u32 zp)) := Lib.hid (fun W hC => by
              rw [CC3.out W hC, hzp])
            have CC4 : Hid (∀ W, Below w16.heap.size w16 W → W.cell? ⟨y5 + 1, 0, none⟩ = some (.int .i64 171)) := Lib.hid (fun W hC => by
              rw [CC4.out W hC, if_neg hone]; rfl)
            clear hone hzs1 hsq1 hzp
            refine region_free_last 33 mixed (by kernel_rfl) (by kernel_rfl) (twF p l.length c R S T X U Y V Z R2 B0 y1 y2 y3 y4 y5 g po rl co zs zq k) [] (fun _ => undef) rfl (Below w16.heap.size w16) ((Below.refl _ _).drew) (fun i v _ => v = (twV2 X Y B0 y2 y4 y5 k zs zp) i) ?mono ?step ?last
            case mono =>
              intro i v W W' hv hC hC' hb
              exact hv
            case step =>
              intro u W i o hi ho hC hd
              have hr := Below.refl W.heap.size W
              rcases i with _ | _ | _ | _ | _ | _ | _ | _ | _ | _ | _ | _ | _ | _ | _ | _ | _ | _ | _ | _ | _ | _ | _ | _ | _ | _ | _ | _ | _ | _ | _ | _ | _ | i
              all_goals try (simp only [List.getElem?_cons_zero, List.getElem?_cons_succ, Option.some.injEq] at ho; subst ho)
              · unfold twF
                go_wp2_with (refine wpList_load_blk rfl 39 _ rfl (y2 + 1) rfl (CX.out _ hC) Try.underlying39 rfl O9.out.lX.1 ?_)
                exact ⟨.agg X.toArray, by simp [upd], rfl, hC, hr⟩
              · unfold twF
                go_wp2_with (refine wpList_load_blk rfl 39 _ rfl (y3 + 1) rfl (CY.out _ hC) Try.underlying39 rfl O11.out.lX.1 ?_)
                exact ⟨.agg Y.toArray, by simp [upd], rfl, hC, hr⟩
              · have h0 : u 0 = .agg X.toArray := hd ⟨0, .data⟩ (by simp) rfl
                have h1 : u 1 = .agg Y.toArray := hd ⟨1, .data⟩ (by simp) rfl
                unfold twF
                rw [h0, h1]
                go_wp2_with ((with_reducible refine (CS.out _ hC).mono ?_); rintro e w5 ⟨rfl, hb5⟩)
                exact ⟨.bool true, by simp [upd, h0, h1], rfl, hC.trans (hb5.mono hC.size), hb5⟩
              · have h2 : u 2 = .bool true := hd ⟨2, .data⟩ (by simp) rfl
                unfold twF
                rw [h2]
                go_wp2_with fail
                exact ⟨.bool true, by simp [upd, h2], rfl, hC, hr⟩
              · have h3 : u 3 = .bool true := hd ⟨3, .guard⟩ (by simp) rfl
                unfold twF
                rw [h3]
                go_wp2_with fail
                exact ⟨.pointer (some ⟨B0, 0, none⟩), by simp [upd, h3], rfl, hC, hr⟩
              · have h4 : u 4 = .pointer (some ⟨B0, 0, none⟩) := hd ⟨4, .data⟩ (by simp) rfl
                have h3 : u 3 = .bool true := hd ⟨3, .guard⟩ (by simp) rfl
                have cc := CC0.out W hC
                unfold twF
                rw [h4, h3]
                go_wp2_with fail
                exact ⟨.int .i64 (k : Int), by simp [upd, h4, h3], rfl, hC, hr⟩
              · have h3 : u 3 = .bool true := hd ⟨3, .guard⟩ (by simp) rfl
                unfold twF
                rw [h3]
                go_wp2_with fail
                exact ⟨.pointer (some ⟨y2, 1, none⟩), by simp [upd, h3], rfl, hC, hr⟩
              · have h6 : u 6 = .pointer (some ⟨y2, 1, none⟩) := hd ⟨6, .data⟩ (by simp) rfl
                have h5 : u 5 = .int .i64 (k : Int) := hd ⟨5, .data⟩ (by simp) rfl
                have h3 : u 3 = .bool true := hd ⟨3, .guard⟩ (by simp) rfl
                unfold twF
                rw [h6, h5, h3]
                go_wp2_with fail
                exact ⟨.pointer (some ⟨y2, 1 + k, none⟩), by simp [upd, h6, h5, h3], rfl, hC, hr⟩
              · have h7 : u 7 = .pointer (some ⟨y2, 1 + k, none⟩) := hd ⟨7, .data⟩ (by simp) rfl
                have h3 : u 3 = .bool true := hd ⟨3, .guard⟩ (by simp) rfl
                have cc := CC1.out W hC
                unfold twF
                rw [h7, h3]
                go_wp2_with fail
                exact ⟨.int .u32 zs, by simp [upd, h7, h3], rfl, hC, hr⟩
              · have h3 : u 3 = .bool true := hd ⟨3, .guard⟩ (by simp) rfl
                unfold twF
                rw [h3]
                go_wp2_with fail
                exact ⟨.pointer (some ⟨B0, 1, none⟩), by simp [upd, h3], rfl, hC, hr⟩
              · have h9 : u 9 = .pointer (some ⟨B0, 1, none⟩) := hd ⟨9, .data⟩ (by simp) rfl
                have h3 : u 3 = .bool true := hd ⟨3, .guard⟩ (by simp) rfl
                have cc := CC2.out W hC
                unfold twF
                rw [h9, h3]
                go_wp2_with fail
                exact ⟨.int .u32 zs, by simp [upd, h9, h3], rfl, hC, hr⟩
              · have h8 : u 8 = .int .u32 zs := hd ⟨8, .data⟩ (by simp) rfl
                have h10 : u 10 = .int .u32 zs := hd ⟨10, .data⟩ (by simp) rfl
                have h3 : u 3 = .bool true := hd ⟨3, .guard⟩ (by simp) rfl
                unfold twF
                rw [h8, h10, h3]
                go_wp2_with fail
                exact ⟨.bool true, by simp [upd, h8, h10, h3], rfl, hC, hr⟩
              · have h3 : u 3 = .bool true := hd ⟨3, .data⟩ (by simp) rfl
                have h11 : u 11 = .bool true := hd ⟨11, .data⟩ (by simp) rfl
                unfold twF
                rw [h3, h11]
                go_wp2_with fail
                exact ⟨.bool true, by simp [upd, h3, h11], rfl, hC, hr⟩
              · have h12 : u 12 = .bool true := hd ⟨12, .data⟩ (by simp) rfl
                unfold twF
                rw [h12]
                go_wp2_with fail
                exact ⟨.bool true, by simp [upd, h12], rfl, hC, hr⟩
              · have h13 : u 13 = .bool true := hd ⟨13, .guard⟩ (by simp) rfl
                unfold twF
                rw [h13]
                go_wp2_with fail
                exact ⟨.pointer (some ⟨y4, 1, none⟩), by simp [upd, h13], rfl, hC, hr⟩
              · have h14 : u 14 = .pointer (some ⟨y4, 1, none⟩) := hd ⟨14, .data⟩ (by simp) rfl
                have h13 : u 13 = .bool true := hd ⟨13, .guard⟩ (by simp) rfl
                have cc := CC3.out W hC
                unfold twF
                rw [h14, h13]
                go_wp2_with fail
                exact ⟨.int .u32 zp, by simp [upd, h14, h13], rfl, hC, hr⟩
              · have h15 : u 15 = .int .u32 zp := hd ⟨15, .data⟩ (by simp) rfl
                have h13 : u 13 = .bool true := hd ⟨13, .guard⟩ (by simp) rfl
                unfold twF
                rw [h15, h13]
                go_wp2_with fail
                exact ⟨.bool false, by simp [upd, h15, h13], rfl, hC, hr⟩
              · have h16 : u 16 = .bool false := hd ⟨16, .data⟩ (by simp) rfl
                have h13 : u 13 = .bool true := hd ⟨13, .guard⟩ (by simp) rfl
                unfold twF
                rw [h16, h13]
                go_wp2_with fail
                exact ⟨.bool false, by simp [upd, h16, h13], rfl, hC, hr⟩
              · have h17 : u 17 = .bool false := hd ⟨17, .guard⟩ (by simp) rfl
                unfold twF
                rw [h17]
                refine wpList_skip rfl ?_
                go_wp2_with fail
                exact ⟨undef, by simp [upd, h17], rfl, hC, hr⟩
              · have h17 : u 17 = .bool false := hd ⟨17, .guard⟩ (by simp) rfl
                unfold twF
                rw [h17]
                refine wpList_skip rfl ?_
                go_wp2_with fail
                exact ⟨undef, by simp [upd, h17], rfl, hC, hr⟩
              · have h17 : u 17 = .bool false := hd ⟨17, .guard⟩ (by simp) rfl
                unfold twF
                rw [h17]
                refine wpList_skip rfl ?_
                go_wp2_with fail
                exact ⟨undef, by simp [upd, h17], rfl, hC, hr⟩
              · have h17 : u 17 = .bool false := hd ⟨17, .data⟩ (by simp) rfl
                have h20 : u 20 = undef := hd ⟨20, .data⟩ (by simp) rfl
                have h13 : u 13 = .bool true := hd ⟨13, .guard⟩ (by simp) rfl
                unfold twF
                rw [h17, h20, h13]
                go_wp2_with fail
                exact ⟨.bool false, by simp [upd, h17, h20, h13], rfl, hC, hr⟩
              · have h21 : u 21 = .bool false := hd ⟨21, .data⟩ (by simp) rfl
                have h13 : u 13 = .bool true := hd ⟨13, .guard⟩ (by simp) rfl
                unfold twF
                rw [h21, h13]
                go_wp2_with fail
                exact ⟨.bool false, by simp [upd, h21, h13], rfl, hC, hr⟩
              · have h22 : u 22 = .bool false := hd ⟨22, .guard⟩ (by simp) rfl
                unfold twF
                rw [h22]
                go_wp2_with fail
                exact ⟨.pointer (some ⟨y4, 1, none⟩), by simp [upd, h22], rfl, hC, hr⟩
              · have h23 : u 23 = .pointer (some ⟨y4, 1, none⟩) := hd ⟨23, .data⟩ (by simp) rfl
                have h22 : u 22 = .bool false := hd ⟨22, .guard⟩ (by simp) rfl
                have cc := CC3.out W hC
                unfold twF
                rw [h23, h22]
                go_wp2_with fail
                exact ⟨.int .u32 zp, by simp [upd, h23, h22], rfl, hC, hr⟩
              · have h24 : u 24 = .int .u32 zp := hd ⟨24, .data⟩ (by simp) rfl
                have h22 : u 22 = .bool false := hd ⟨22, .guard⟩ (by simp) rfl
                unfold twF
                rw [h24, h22]
                go_wp2_with fail
                exact ⟨.bool true, by simp [upd, h24, h22], rfl, hC, hr⟩
              · have h25 : u 25 = .bool true := hd ⟨25, .data⟩ (by simp) rfl
                have h22 : u 22 = .bool false := hd ⟨22, .guard⟩ (by simp) rfl
                unfold twF
                rw [h25, h22]
                go_wp2_with fail
                exact ⟨.bool true, by simp [upd, h25, h22], rfl, hC, hr⟩
              · have h26 : u 26 = .bool true := hd ⟨26, .guard⟩ (by simp) rfl
                unfold twF
                rw [h26]
                go_wp2_with fail
                exact ⟨.pointer (some ⟨y5 + 1, 0, none⟩), by simp [upd, h26], rfl, hC, hr⟩
              · have h27 : u 27 = .pointer (some ⟨y5 + 1, 0, none⟩) := hd ⟨27, .data⟩ (by simp) rfl
                have h26 : u 26 = .bool true := hd ⟨26, .guard⟩ (by simp) rfl
                have cc := CC4.out W hC
                unfold twF
                rw [h27, h26]
                go_wp2_with fail
                exact ⟨.int .i64 171, by simp [upd, h27, h26], rfl, hC, hr⟩
              · have h28 : u 28 = .int .i64 171 := hd ⟨28, .data⟩ (by simp) rfl
                have h26 : u 26 = .bool true := hd ⟨26, .guard⟩ (by simp) rfl
                unfold twF
                rw [h28, h26]
                go_wp2_with fail
                exact ⟨.bool true, by simp [upd, h28, h26], rfl, hC, hr⟩
              · have h26 : u 26 = .bool true := hd ⟨26, .data⟩ (by simp) rfl
                have h29 : u 29 = .bool true := hd ⟨29, .data⟩ (by simp) rfl
                have h22 : u 22 = .bool false := hd ⟨22, .guard⟩ (by simp) rfl
                unfold twF
                rw [h26, h29, h22]
                go_wp2_with fail
                exact ⟨.bool true, by simp [upd, h26, h29, h22], rfl, hC, hr⟩
              · have h22 : u 22 = .bool false := hd ⟨22, .data⟩ (by simp) rfl
                have h30 : u 30 = .bool true := hd ⟨30, .data⟩ (by simp) rfl
                have h13 : u 13 = .bool true := hd ⟨13, .guard⟩ (by simp) rfl
                unfold twF
                rw [h22, h30, h13]
                go_wp2_with fail
                exact ⟨.bool true, by simp [upd, h22, h30, h13], rfl, hC, hr⟩
              · have h13 : u 13 = .bool true := hd ⟨13, .data⟩ (by simp) rfl
                have h31 : u 31 = .bool true := hd ⟨31, .data⟩ (by simp) rfl
                unfold twF
                rw [h13, h31]
                go_wp2_with fail
                exact ⟨.bool true, by simp [upd, h13, h31], rfl, hC, hr⟩
              · omega
            case last =>
              intro u W o ho hC hS
              simp only [List.getElem?_cons_zero, List.getElem?_cons_succ, Option.some.injEq] at ho
              subst ho
              have h32 : u 32 = .bool true := hS 32 (by decide)
              have BW := B16.out.trans (hC.mono B16.out.size)
              unfold twF
              rw [h32]
              go_wp2_with fail
              go_ret
              exact ⟨rfl, BW⟩
theorem walk (l : List (ReqU RawV)) (p : Option Addr) (c : Nat) (r : ReqU RawV) (v : Value) (hin : (∀ r ∈ l, ReqIn r) ∧ l.length ≤ maxLen ∧ (Value.slice p l.length c = .slice none 0 0 ∨ ((∃ a, p = some a) ∧ l.length ≤ c))) (hr : ReqIn r) (w : World) (hq : ReqsV w (.slice p l.length c) l) (hv : ReqTold w v r) :
    Calls Try.prog 4 #[.slice p l.length c, v] w fun e w' => e = .returned (.bool true) ∧ Below w.heap.size w w' := walkK theVault l p c hin.1 r v hr w hq hv
set_option maxRecDepth 100000 in
theorem lifted (os : Os) (started : os.Started) (H : Type) (enc : TypeId × Value → H) :
    ReturnsInHanded {} Try.checked os 4 .any (Rows.vaultTwiceSpec.pre6 enc Try.prog Try.f4 Rows.vaultTwiceRow.domain false) (Rows.vaultTwiceSpec.post enc Try.prog Try.f4 false true false false) := by
  refine returnsInHanded_of_change (C := Try.checked) own started (by kernel_rfl) Try.func4
    (ChangeSpec.witness6 (enc := enc) (C := Try.checked) false ⟨#[], #[.slice none 0 0, .agg #[.int .i64 0, .int .u32 0, .int .i64 0, .int .u32 0, .int .u32 0, .slice none 0 0, .slice none 0 0, .slice none 0 0]], []⟩ 8 (by kernel_rfl) (by kernel_rfl) (by kernel_rfl) (by kernel_rfl)) ?_
  intro W base args ds gs before hval0 hW hcnd _
  have hval : ∀ (j : Nat) t v, Try.f4.params[j]? = some t → args[j]? = some v → Value.okWide Try.prog W .any base t v := hval0
  have hW' := hW
  obtain ⟨p, q, hA0, hV, rfl, hfz, hnd⟩ := hW
  have hA : DataW.TrodAll enc Try.prog W 0 (fun _ => true) true Try.f4.params.toList args.toList ds p := hA0
  rw [Try.params4] at hA hval
  obtain ⟨v0, vs0, d0, ds0, p0, q0, hargs, rfl, rfl, h0, r0⟩ := trodAll_cons hA
  obtain ⟨v1, vs1, d1, ds1, p1, q1, rfl, rfl, rfl, h1, r1⟩ := trodAll_cons r0
  obtain ⟨rfl, rfl, rfl⟩ := trodAll_nil r1
  obtain rfl : args = #[v0, v1] := by cases args; simp_all
  obtain ⟨rfl, rfl⟩ := trodVars_none hV
  have k0 := h0
  have lt0 : ∀ x ∈ p0, x.block < W.heap.size := by obtain ⟨m, hm⟩ := k0; exact DataW.trod_lt m _ _ _ hm
  obtain ⟨a0, m0, c0, rfl⟩ := Go.WideShapes.okWide_slice Try.underlying22 (hval 0 22 v0 rfl rfl)
  obtain ⟨l0, rfl, S0, n0⟩ := open_reqs h0
  have k1 := h1
  have lt1 : ∀ x ∈ p1, x.block < W.heap.size := by obtain ⟨m, hm⟩ := k1; exact DataW.trod_lt m _ _ _ hm
  obtain ⟨l1, S1, n1⟩ := open_req (hval 1 60 v1 rfl rfl) h1
  clear hA0 hval0
  simp only [List.append_nil] at hW'
  refine (walk l0 a0 c0 l1 v1 n0 n1 W S0 S1).mono fun e W' ⟨he, bel⟩ => ?_
  subst he
  exact ⟨_, rfl, _, _, _, [], _, [], hW', trodAll_mk1 (shut_bool Try.underlying4 _), (trodAll_cons_mk (Below.trod laidOut (by kernel_rfl) (of_decide_eq_true (by kernel_rfl)) k0 bel lt0) (trodAll_cons_mk (Below.trod laidOut (by kernel_rfl) (of_decide_eq_true (by kernel_rfl)) k1 bel lt1) trodAll_mk0)), rfl, bel.frame _, fun h => by cases h⟩

theorem over : Rows.vaultTwiceRow.holds Try.pinned (OpenSpec.ofChange Rows.vaultTwiceSpec) :=
  OpenClaim.holds_of_wide 4 Try.f4 rfl rfl rfl rfl rfl rfl rfl ⟨rfl, rfl, rfl, rfl, rfl⟩ rfl rfl rfl rfl rfl (by kernel_rfl) Try.func4 (by kernel_rfl)
    (of_decide_eq_true (by kernel_rfl)) (by unfold Func.isWrapper; first | (rw [if_pos (by decide +kernel)]; kernel_rfl) | (rw [if_neg (by decide +kernel)]; exact ⟨rfl, rfl⟩))
    (fun os started H enc _ => lifted os started H enc)

theorem proved : Rows.VaultTwiceSaid :=
  over
#print axioms proved
end Go.Proofs.Ytogonbgelaehhaa.vaultTwice
