/- The program's copy of a reply; its replies of errors (stage 17). -/
import Derived.Test.YtogonbgelaehhaaUWa
import Derived.Test.YtogonbgelaehhaaUGb
import Derived.Test.YtogonbgelaehhaaUGd
import Derived.Test.YtogonbgelaehhaaFD
namespace Go.Proofs.Ytogonbgelaehhaa
open Go.RowKit
set_option linter.unusedVariables false

set_option maxRecDepth 100000 in
theorem u_fault (e : Nat) (w : World) : Calls Try.prog 37 #[.int .i64 (e : Int)] w fun x w' => x = .returned (.agg (eR e).toArray) ∧ Below w.heap.size w w' := by
  have k1 := Blk.new' w 39 (c := zRp.toArray) zRp rfl
  have k2 := k1.row (eR e) rfl
  have kb := below_setRow ((Below.refl w.heap.size w).alloc (Nat.le_refl _) (.cells zRp.toArray 39)) (Nat.le_refl _) (eR e).toArray
  have K1 := Lib.hid k1
  have K2 := Lib.hid k2
  have KB := Lib.hid kb
  clear k1 k2 kb
  go_enter Try.func37, Try.ntmps37
  go_wp2_with (first | (refine wpList_alloc_n rfl 39 rfl w.heap.size rfl _ (alloc_rep _) ?_) | (refine wpList_build_at rfl 39 _ rfl (.agg (eR e).toArray) (by simp only [List.map_toArray, List.map_cons, List.map_nil]; exact build_repE e _) ?_) | (refine wpList_store_blk rfl 39 _ _ rfl w.heap.size (eR e) rfl rfl K1.out (by rw [size_rep]; rfl) rfl (eR_one e) ?_))
  refine bodyPost_ret (v := .agg (eR e).toArray) (results_cell_blk rfl _ _ w.heap.size rfl K2.out Try.underlying39 rfl (by rw [size_rep]; rfl)) rfl ?_
  exact ⟨rfl, KB.out⟩
def crF (v : Value) (y1 y2 : Nat) (u : Nat → Value) : Array Value := #[v, .pointer (some ⟨y1, 0, none⟩), .pointer (some ⟨y2, 0, none⟩), u 0, u 1, u 2, u 3, u 4, u 5, u 6, u 7, u 8]
def crS (x : RepU RawV) (y1 B : Nat) (vi : Value) (q : List Value) (i : Nat) (v : Value) (W : World) : Prop := match i with
  | 0 => v = .pointer (some ⟨y1, 0, none⟩) | 1 => v = .int .i64 (x.err : Int) | 2 => v = .pointer (some ⟨y1, 1, none⟩) | 3 => v = vi
  | 4 => OwnR W B 23 1 v (rowsU .u32 x.ids) | 5 => v = .pointer (some ⟨y1, 2, none⟩) | 6 => v = .agg q.toArray
  | 7 => ∃ r : List Value, v = .agg r.toArray ∧ VV (ew W) (.agg r.toArray) x.ver
  | 8 => ∃ r : List Value, v = .agg r.toArray ∧ RepOkV (ew W) r x
  | _ => True
theorem rep_oneV {w : World} {r : List Value} {x : RepU RawV} (h : RepOkV w r x) : r.toArray.all (·.oneCell') = true := (rep_one h).1
set_option maxRecDepth 100000 in
set_option maxHeartbeats 2000000 in
theorem u_copyR (x : RepU RawV) (R : List Value) (w : World) (hV : RepOkV w R x) (hn : x.ids.length ≤ 1000 ∧ x.ver.bl.length ≤ 1000 ∧ x.ver.ns.length ≤ 1000 ∧ x.ver.zs.length ≤ 1000) :
    Calls Try.prog 38 #[.agg R.toArray] w fun e w' => ∃ r : List Value, e = .returned (.agg r.toArray) ∧ RepOkV (ew w') r x ∧ Below w.heap.size w w' := by
  have hl6 := hV.len
  obtain ⟨vi, q, eR', ⟨pi, ci, ei⟩, si, sq⟩ := hV
  have hq4 := sq.len
  obtain ⟨y, hy⟩ : ∃ y, w.heap.size = y := ⟨_, rfl⟩
  have k0 := Blk.newAt w y hy 39 (c := R.toArray) R rfl
  have z1 : (w.alloc (.cells R.toArray 39)).heap.size = y + 1 := by simp [hy]
  have k1 := Blk.newAt _ (y + 1) z1 39 (c := zRp.toArray) zRp rfl
  have kb := ((Below.refl w.heap.size w).alloc (Nat.le_refl _) (.cells R.toArray 39)).alloc (by simp) (.cells zRp.toArray 39)
  have K0 := Lib.hid (k0.alloc (.cells zRp.toArray 39))
  have K1 := Lib.hid k1
  have KB := Lib.hid kb
  have Z1 := Lib.hid z1
  have HR := Lib.hid eR'
  have SI := Lib.hid (si.below kb)
  have SQ := Lib.hid (sq.below kb)
  have EI := Lib.hid ei
  have HN := Lib.hid hn
  have HY := Lib.hid hy
  have HQ4 := Lib.hid hq4
  clear k0 z1 k1 kb eR' si sq ei hn hy hq4 hl6
  go_enter Try.func38, Try.ntmps38
  go_wp2_with (first | (refine wpList_alloc_n rfl 39 rfl (y + 1) Z1.out _ (alloc_rep _) ?_))
  rw [HY.out]
  generalize (w.alloc (.cells R.toArray 39)).alloc (.cells zRp.toArray 39) = w2 at *
  have hk0 : ∀ wx, NewBut w2 wx → Blk wx y 39 ([.int .i64 (x.err : Int), vi] ++ q) := fun wx hx => by
    have := K0.out.below hx K0.out.lt
    rw [HR.out] at this
    exact this
  have hk1 : ∀ wx, NewBut w2 wx → Blk wx (y + 1) 39 zRp := fun wx hx => K1.out.below hx K1.out.lt
  have HK0 := Lib.hid hk0
  have HK1 := Lib.hid hk1
  clear hk0 hk1
  refine region_free_last 9 mixed (by kernel_rfl) (by kernel_rfl) (crF (.agg R.toArray) y (y + 1)) [] (fun _ => undef) rfl (NewBut w2) (show Below _ _ _ from (Below.refl _ _).drew) (crS x y w2.heap.size vi q) ?mono ?step ?last
  case mono =>
    intro i v W W' hv hC hC' hb
    match i with
    | 0 | 1 | 2 | 3 | 5 | 6 => exact hv
    | 4 => exact OwnR.keep hv hb
    | 7 =>
      obtain ⟨r, h1, h2⟩ := hv
      exact ⟨r, h1, h2.sub (ew_lf (Lf.below hb))⟩
    | 8 =>
      obtain ⟨r, h1, h2⟩ := hv
      exact ⟨r, h1, h2.sub (ew_lf (Lf.below hb))⟩
    | _ + 9 => trivial
  case step =>
    intro u W i o hi ho hC hd
    have hr := Below.refl W.heap.size W
    have hz := hC.size
    have hB := HK0.out _ hC
    rcases i with _ | _ | _ | _ | _ | _ | _ | _ | _ | i
    all_goals try (simp only [List.getElem?_cons_zero, List.getElem?_cons_succ, Option.some.injEq] at ho; subst ho)
    · unfold crF; go_wp2_with fail
      exact ⟨_, rfl, rfl, hC, hr⟩
    · have h0 : u 0 = _ := hd ⟨0, .data⟩ (by simp) rfl
      have c0 := hB.cellOf (j := 0) rfl
      unfold crF
      rw [h0]
      clear hB
      go_wp2_with fail
      exact ⟨.int .i64 (x.err : Int), by simp [upd, h0], rfl, hC, hr⟩
    · unfold crF; go_wp2_with fail
      exact ⟨_, rfl, rfl, hC, hr⟩
    · have h0 : u 2 = _ := hd ⟨2, .data⟩ (by simp) rfl
      have c0 := hB.cellOf (j := 1) rfl
      have eb := EI.out
      subst eb
      unfold crF
      rw [h0]
      clear hB
      go_wp2_with fail
      exact ⟨.slice pi x.ids.length ci, by simp [upd, h0], rfl, hC, hr⟩
    · have h0 : u 3 = _ := hd ⟨3, .data⟩ (by simp) rfl
      have hc : Calls Try.prog 46 #[vi] W fun x' w' => ∃ v, x' = .returned v ∧ OwnR w' W.heap.size 23 1 v (rowsU .u32 x.ids) ∧ Below W.heap.size W w' := by
        have := cl_U W pi ci (rowsU .u32 x.ids) (by rw [rowsU_len, ← EI.out]; exact SI.out.below hC) rowsU_cells (by rw [rowsU_len]; have := HN.out; omega)
        rw [rowsU_len, ← EI.out] at this
        exact this
      have HC := Lib.hid hc
      unfold crF
      rw [h0]
      clear hc hB
      go_wp2_with ((with_reducible refine HC.out.mono ?_); rintro e w5 ⟨v5, rfl, o5, b5⟩; have O5 := Lib.hid (o5.lower hz); have B5 := Lib.hid b5; clear o5 b5)
      exact ⟨v5, by simp [upd, h0], O5.out, hC.trans (B5.out.mono hz), B5.out⟩
    · unfold crF; go_wp2_with fail
      exact ⟨_, rfl, rfl, hC, hr⟩
    · have h0 : u 5 = _ := hd ⟨5, .data⟩ (by simp) rfl
      have hcell : ∀ i v, q[i]? = some v → W.cell? ((⟨y, 2, none⟩ : Addr).add i) = some v := fun i v hv => by
        rw [Addr.add_mid, hB.cell]
        rw [List.getElem?_append_right (by simp)]
        simpa using hv
      have HCL := Lib.hid hcell
      unfold crF
      rw [h0]
      clear hB hcell
      go_wp2_with (refine wpList_load_addr rfl 28 _ rfl ⟨y, 2, none⟩ rfl q HCL.out Try.underlying28 rfl (by rw [size_ver, HQ4.out]) ?_)
      exact ⟨.agg q.toArray, by simp [upd, h0], rfl, hC, hr⟩
    · have h0 : u 6 = _ := hd ⟨6, .data⟩ (by simp) rfl
      have hc := u_copyV x.ver (.agg q.toArray) W (SQ.out.below hC) HN.out.2
      have HC := Lib.hid hc
      unfold crF
      rw [h0]
      clear hc hB
      go_wp2_with ((with_reducible refine HC.out.mono ?_); rintro e w5 ⟨r5, rfl, o5, b5⟩; have O5 := Lib.hid o5; have B5 := Lib.hid b5; clear o5 b5)
      exact ⟨.agg r5.toArray, by simp [upd, h0], ⟨r5, rfl, O5.out⟩, hC.trans (B5.out.mono hz), B5.out⟩
    · have h1 : u 1 = _ := hd ⟨1, .data⟩ (by simp) rfl
      have h4 : OwnR W w2.heap.size 23 1 (u 4) (rowsU .u32 x.ids) := hd ⟨4, .data⟩ (by simp) rfl
      obtain ⟨r7, h7, hV7⟩ : ∃ r : List Value, u 7 = .agg r.toArray ∧ VV (ew W) (.agg r.toArray) x.ver := hd ⟨7, .data⟩ (by simp) rfl
      obtain ⟨p4, c4, e4⟩ := h4.isSlice
      have hsl := (own_ew h4 (by decide)).sl
      rw [rowsU_len] at e4
      obtain ⟨pb, cb, pn, cn, pz, cz, e7⟩ := hV7.row
      have hrep : RepOkV (ew W) (cellsR x.err (.slice p4 x.ids.length c4) x.ver.id (.slice pb x.ver.bl.length cb) (.slice pn x.ver.ns.length cn) (.slice pz x.ver.zs.length cz)) x := ⟨_, r7, by rw [e7]; rfl, ⟨p4, c4, rfl⟩, by rw [← e4]; exact hsl, hV7⟩
      have HV := Lib.hid hrep
      rw [e7] at h7
      unfold crF
      rw [h1, e4, h7]
      clear hB h4 hV7 hsl hrep
      go_wp2_with (refine wpList_build_at rfl 39 _ rfl (.agg (cellsR x.err (.slice p4 x.ids.length c4) x.ver.id (.slice pb x.ver.bl.length cb) (.slice pn x.ver.ns.length cn) (.slice pz x.ver.zs.length cz)).toArray) (by simp only [List.map_toArray, List.map_cons, List.map_nil]; exact build_cr _ _ _ _ _ _ _ _ _ _ _ _ _ _ _) ?_)
      exact ⟨_, by simp [upd, h1, e4, h7], ⟨_, rfl, HV.out⟩, hC, hr⟩
    · omega
  case last =>
    intro u W o ho hC hS
    simp only [List.getElem?_cons_zero, List.getElem?_cons_succ, Option.some.injEq] at ho
    subst ho
    obtain ⟨r, h8, hV⟩ : ∃ r : List Value, u 8 = .agg r.toArray ∧ RepOkV (ew W) r x := hS 8 (by decide)
    have hB := HK1.out _ hC
    have hl := hV.len
    have hone := rep_oneV hV
    have HV := Lib.hid (hV.sub (ew_lf (Lf.row hB (by decide) r.toArray)))
    have D1 := Lib.hid (hB.row r (by rw [hl]; rfl))
    have D0 := Lib.hid hB
    have HL := Lib.hid hl
    have HO := Lib.hid hone
    have HB := Lib.hid (below_setRow (KB.out.trans (hC.mono KB.out.size)) (show w.heap.size ≤ y + 1 by have := HY.out; omega) r.toArray)
    clear hB hl hone hV
    unfold crF
    rw [h8]
    go_wp2_with (refine wpList_store_blk rfl 39 _ _ rfl (y + 1) r rfl rfl D0.out (by rw [size_rep, HL.out]) (by rw [HL.out]; rfl) HO.out ?_)
    refine bodyPost_ret (v := .agg r.toArray) (results_cell_blk rfl _ _ (y + 1) rfl D1.out Try.underlying39 rfl (by rw [size_rep, HL.out])) rfl ?_
    exact ⟨r, rfl, HV.out, HB.out⟩
end Go.Proofs.Ytogonbgelaehhaa
namespace Go.Proofs.Ytogonbgelaehhaa
open Go.RowKit
set_option linter.unusedVariables false

/-! ### frames -/
theorem Turn.below' {base : Nat} {a b c : World} {F G : Nat → Prop} (h : Turn base a b F G) (k : Below b.heap.size b c) (hb : base ≤ b.heap.size) : Turn base a c F G := h.trans (Turn.of_below k hb)
theorem Turn.row {base : Nat} {a b : World} {F G : Nat → Prop} (h : Turn base a b F G) {R : Nat} (hR : base ≤ R) (hF : F R ∨ a.heap.size ≤ R) (cs : Array Value) : Turn base a (b.setRow R cs) F G :=
  ⟨below_setRow h.b hR cs, fun i hi hn => by
    have : i ≠ R := fun e => by rcases hF with hF | hF; exact hn (e ▸ hF); omega
    rw [setRow_other b R i cs this]; exact h.out i hi hn, h.new⟩
theorem Turn.cell {base : Nat} {a b : World} {F G : Nat → Prop} (h : Turn base a b F G) {R o : Nat} (hR : base ≤ R) (hF : F R ∨ a.heap.size ≤ R) (v : Value) : Turn base a (b.setCell ⟨R, o, none⟩ v) F G :=
  ⟨h.b.setCell (p := ⟨R, o, none⟩) hR v, fun i hi hn => by
    have : i ≠ R := fun e => by rcases hF with hF | hF; exact hn (e ▸ hF); omega
    rw [Below.heap_setCell _ _ _ _ this]; exact h.out i hi hn, h.new⟩
theorem Turn.alloc {base : Nat} {a b : World} {F G : Nat → Prop} (h : Turn base a b F G) (hb : base ≤ b.heap.size) (o : Obj) : Turn base a (b.alloc o) F G := h.below' ((Below.refl _ _).alloc (Nat.le_refl _) o) hb
/-- the blocks of a state in a variable: the variable's own, and its versions' -/
def stF (b : Nat) (vv : Value) (i : Nat) : Prop := i = b ∨ vv.ownBlock = some i
theorem Turn.grownV {base b : Nat} {a c d : World} {F : Nat → Prop} {vv vv' : Value} (h : Turn base a c F (stF b vv)) (hg : c.grownBy d vv'.ownBlock) (hv : vv'.ownBlock = vv.ownBlock ∨ vv'.ownBlock = some c.heap.size) (hc : base ≤ c.heap.size) (hl : ∀ i, vv.ownBlock = some i → base ≤ i) : Turn base a d F (stF b vv') := by
  have hz := h.b.size
  refine ⟨h.b.trans ⟨hg.os, hg.tape, hg.output, hg.size, fun i hi => hg.block i (by omega) fun e => ?_⟩, fun i hi hn => ?_, fun i hi => ?_⟩
  · rcases hv with hv | hv
    · rw [hv] at e; have := hl i e.symm; omega
    · rw [hv] at e; cases e; omega
  · rw [hg.block i (by omega) fun e => ?_]
    · exact h.out i hi hn
    · rcases hv with hv | hv
      · rw [hv] at e
        rcases h.new i (.inr e.symm) with h1 | h1
        · exact hn h1
        · omega
      · rw [hv] at e; cases e; omega
  · rcases hi with rfl | hi
    · exact h.new _ (.inl rfl)
    · rcases hv with hv | hv
      · rw [hv] at hi; exact h.new i (.inr hi)
      · rw [hv] at hi; cases hi; exact .inr hz
/-! ### states -/
/-- these cells are the state, its versions in a slice of the call's own -/
def StN (w : World) (base : Nat) (S : List Value) (vv : Value) (s : StU RawV) : Prop :=
  ∃ rows s0 s1 s2 r0 r1 r2 x0 x1 x2, S = cellsS vv s0 s1 s2 r0 r1 r2 ∧ OwnR w base 28 4 vv rows ∧ TellVs (ew w) rows s.vers ∧ s.seqs = [s0, s1, s2] ∧ s.last = [x0, x1, x2] ∧ (s0 < 4294967296 ∧ s1 < 4294967296 ∧ s2 < 4294967296) ∧ RepOkV (ew w) r0 x0 ∧ RepOkV (ew w) r1 x1 ∧ RepOkV (ew w) r2 x2
def StI (w : World) (base b : Nat) (vv : Value) (s : StU RawV) : Prop := base ≤ b ∧ ∃ S, Blk w b 42 S ∧ StN w base S vv s
theorem StN.mono {w w' : World} {base : Nat} {S : List Value} {vv : Value} {s : StU RawV} (h : StN w base S vv s) (hl : Lf w w') (hv : ∀ i, vv.ownBlock = some i → w'.heap[i]? = w.heap[i]?) : StN w' base S vv s := by
  obtain ⟨rows, s0, s1, s2, r0, r1, r2, x0, x1, x2, e, h1, h2, h3, h4, h5, h6, h7, h8⟩ := h
  have hs := ew_lf hl
  refine ⟨rows, s0, s1, s2, r0, r1, r2, x0, x1, x2, e, ?_, h2.sub hs, h3, h4, h5, h6.sub hs, h7.sub hs, h8.sub hs⟩
  obtain ⟨k0, k1, k2⟩ := h1
  refine ⟨k0, k1, ?_⟩
  rcases k2 with h | ⟨g, cap, cur, hv', hgg, hh, rest⟩
  · exact .inl h
  · refine .inr ⟨g, cap, cur, hv', hgg, ?_, rest⟩
    rw [hv g (by rw [hv']; rfl)]; exact hh
theorem StN.own {w : World} {base : Nat} {S : List Value} {vv : Value} {s : StU RawV} (h : StN w base S vv s) : ∃ rows, OwnR w base 28 4 vv rows ∧ TellVs (ew w) rows s.vers ∧ rows.length = s.vers.length ∧ S[0]? = some vv := by
  obtain ⟨rows, s0, s1, s2, r0, r1, r2, x0, x1, x2, e, h1, h2, _⟩ := h
  exact ⟨rows, h1, h2, h2.1, by rw [e]; rfl⟩
theorem StN.below {w w' : World} {base : Nat} {S : List Value} {vv : Value} {s : StU RawV} (h : StN w base S vv s) (hb : Below w.heap.size w w') : StN w' base S vv s := by
  obtain ⟨rows, h1, _⟩ := h.own
  exact h.mono (Lf.below hb) fun i hi => hb.block i (h1.lt i hi).2
theorem StI.below {w w' : World} {base b : Nat} {vv : Value} {s : StU RawV} (h : StI w base b vv s) (hb : Below w.heap.size w w') : StI w' base b vv s := by
  obtain ⟨h0, S, h1, h2⟩ := h
  exact ⟨h0, S, h1.below hb h1.lt, h2.below hb⟩
theorem StI.lt {w : World} {base b : Nat} {vv : Value} {s : StU RawV} (h : StI w base b vv s) : base ≤ b ∧ b < w.heap.size := by
  obtain ⟨h0, S, h1, h2⟩ := h
  exact ⟨h0, h1.lt⟩
theorem StI.ownLt {w : World} {base b : Nat} {vv : Value} {s : StU RawV} (h : StI w base b vv s) : ∀ i, vv.ownBlock = some i → base ≤ i ∧ i < w.heap.size := by
  obtain ⟨h0, S, h1, h2⟩ := h
  obtain ⟨rows, h3, _⟩ := h2.own
  exact h3.lt
theorem StI.ownNe {w : World} {base b : Nat} {vv : Value} {s : StU RawV} (h : StI w base b vv s) {g : Nat} {t : TypeId} {vs : List Value} (hB : Blk w g t vs) (ht : t ≠ 28) : ∀ i, vv.ownBlock = some i → i ≠ g := by
  obtain ⟨h0, S, h1, h2⟩ := h
  obtain ⟨rows, h3, _⟩ := h2.own
  exact h3.ne hB ht
/-- the versions' slice -/
theorem StI.vers {w : World} {base b : Nat} {vv : Value} {s : StU RawV} (h : StI w base b vv s) : ∃ p c, vv = .slice p s.vers.length c ∧ w.cell? ⟨b, 0, none⟩ = some (.slice p s.vers.length c) ∧ VsV w (.slice p s.vers.length c) s.vers ∧ s.vers.length ≤ c := by
  obtain ⟨h0, S, h1, h2⟩ := h
  obtain ⟨rows, h3, h4, h5, h6⟩ := h2.own
  obtain ⟨p, c, e⟩ := h3.isSlice
  rw [h5] at e
  subst e
  refine ⟨p, c, rfl, h1.cellOf h6, h3.vs (h4.sub (ew_sub w)), ?_⟩
  rcases h3.nilOk with h | ⟨ad, n, c', h, hc⟩
  · simp only [Value.slice.injEq] at h; omega
  · simp only [Value.slice.injEq] at h; omega
/-- other versions in the state -/
theorem StI.set {w w' : World} {base b : Nat} {vv vv' : Value} {s : StU RawV} {rows : List (List Value)} {L : List RawV} (h : StI w base b vv s) (hl : Lf w w') (hb : ∀ S, Blk w b 42 S → Blk w' b 42 (S.set 0 vv')) (ho : OwnR w' base 28 4 vv' rows) (ht : TellVs (ew w') rows L) : StI w' base b vv' ⟨L, s.seqs, s.last⟩ := by
  obtain ⟨h0, S, h1, rows0, s0, s1, s2, r0, r1, r2, x0, x1, x2, e, _, _, h3, h4, h5, h6, h7, h8⟩ := h
  have hs := ew_lf hl
  refine ⟨h0, S.set 0 vv', hb S h1, rows, s0, s1, s2, r0, r1, r2, x0, x1, x2, by rw [e]; rfl, ho, ht, h3, h4, h5, h6.sub hs, h7.sub hs, h8.sub hs⟩
theorem StN.told {w : World} {base : Nat} {S : List Value} {vv : Value} {s : StU RawV} (h : StN w base S vv s) (lo : Nat) : StTold (er lo w) (.agg S.toArray) s ∧ S.toArray.all (·.oneCell') = true ∧ S.length = 22 := by
  obtain ⟨rows, s0, s1, s2, r0, r1, r2, x0, x1, x2, e, h1, h2, h3, h4, h5, h6, h7, h8⟩ := h
  have hs := ew_er lo w
  have hV : VsV (er lo w) vv s.vers := (own_er lo h1 (by decide)).vs (h2.sub hs)
  obtain ⟨p, c, e'⟩ := hV.isSlice
  have k := cellsS_one (vv := vv) (s0 := s0) (s1 := s1) (s2 := s2) ⟨p, _, c, e'⟩ h6 h7 h8
  rw [← e] at k
  exact ⟨⟨vv, s0, s1, s2, r0, r1, r2, x0, x1, x2, by rw [e], hV, h3, h4, h5, h6.sub hs, h7.sub hs, h8.sub hs⟩, k⟩
/-! ### a row of an own slice is written -/
section
variable {P : Program} {ops : Array Oper} {rest : List Oper} {o : Oper} {a : Act} {w : World} {Q : Exit → Act → World → Prop}
theorem wpList_store_own (hgd : o.guard = none) (ty : TypeId) (p v : Operand) (ho : o.op = .store ty p v) (B g n cap k j : Nat) (e : TypeId) (rows : List (List Value)) (R : List Value)
    (hx : a.eval p = .pointer (some ⟨g, j * k, none⟩)) (hy : a.eval v = .agg R.toArray) (hO : OwnR w B e k (.slice (some ⟨g, 0, none⟩) n cap) rows) (hj : j < rows.length) (hR : R.length = k) (hi : (P.info? ty).map (·.size) = some k) (h1 : R.toArray.all (·.oneCell') = true)
    (h : ∀ w', OwnR w' B e k (.slice (some ⟨g, 0, none⟩) n cap) (rows.set j R) → w.grownBy w' (some g) → wpList P ops Q rest (a.put o.dst undef) w') : wpList P ops Q (o :: rest) a w := by
  obtain ⟨k0, k1, k2⟩ := hO
  rcases k2 with ⟨hv, h0⟩ | ⟨g', cap', cur, hv, hg, hh, hn, hm, hcs, htk⟩
  · cases hv
  · cases hv
    obtain ⟨c1, c2, c3, c4⟩ := flat_cut k0 hj
    have hB : Blk w g e cur.toList := hh
    have e0 : cur.toList = (rows.take j).flatten ++ (rows[j] ++ ((rows.drop (j + 1)).flatten ++ cur.toList.drop (rows.length * k))) := by
      conv => lhs; rw [← List.take_append_drop (rows.length * k) cur.toList, htk, c1]
      simp only [List.append_assoc]
    rw [e0] at hB
    refine wpList_store_part hgd ty p v ho g (j * k) hx R hy _ _ _ hB c2.symm (by rw [c3, hR]) (by rw [hi, hR]) h1 ?_
    intro w' hB' _ hw'
    have kk : ∀ r ∈ rows.set j R, r.length = k := fun r hr => by
      rcases List.mem_or_eq_of_mem_set hr with hr | rfl
      · exact k0 r hr
      · exact hR
    have hfl := flat_len kk
    rw [List.length_set] at hfl
    refine h w' ⟨kk, by rw [List.length_set]; exact hfl, .inr ⟨g, cap, _, by rw [List.length_set], hg, hB', by rw [List.length_set]; exact hn, hm, ?_, ?_⟩⟩ ?_
    · rw [← hcs]
      conv => rhs; rw [← Array.length_toList, e0]
      simp only [List.size_toArray, List.length_append]
      rw [c3, hR]
    · rw [List.toList_toArray, List.length_set, ← hfl, c4 R]
      simp only [← List.append_assoc]
      exact List.take_left
    · rw [hw']
      exact grown_setCells g R (j * k) w
end
end Go.Proofs.Ytogonbgelaehhaa
namespace Go.Proofs.Ytogonbgelaehhaa
open Go.RowKit
set_option linter.unusedVariables false

theorem size_lst : (Try.prog.info? 40).map (·.size) = some 18 := by kernel_rfl
theorem size_rp : (Try.prog.info? 39).map (·.size) = some 6 := by kernel_rfl
theorem idx_last0 (w : World) (e0 d0 : Nat) (a0 f0 i0 m0 : Option Addr) (l0 c0 g0 h0 j0 k0 n0 o0 : Nat) (e1 d1 : Nat) (a1 f1 i1 m1 : Option Addr) (l1 c1 g1 h1 j1 k1 n1 o1 : Nat) (e2 d2 : Nat) (a2 f2 i2 m2 : Option Addr) (l2 c2 g2 h2 j2 k2 n2 o2 : Nat) : (Instr.index 40 (.agg ((cellsR e0 (.slice a0 l0 c0) d0 (.slice f0 g0 h0) (.slice i0 j0 k0) (.slice m0 n0 o0)) ++ (cellsR e1 (.slice a1 l1 c1) d1 (.slice f1 g1 h1) (.slice i1 j1 k1) (.slice m1 n1 o1)) ++ (cellsR e2 (.slice a2 l2 c2) d2 (.slice f2 g2 h2) (.slice i2 j2 k2) (.slice m2 n2 o2))).toArray) (.int .i64 0)).run Try.prog w = .ok (.agg (cellsR e0 (.slice a0 l0 c0) d0 (.slice f0 g0 h0) (.slice i0 j0 k0) (.slice m0 n0 o0)).toArray) w := by kernel_rfl
theorem idx_last1 (w : World) (e0 d0 : Nat) (a0 f0 i0 m0 : Option Addr) (l0 c0 g0 h0 j0 k0 n0 o0 : Nat) (e1 d1 : Nat) (a1 f1 i1 m1 : Option Addr) (l1 c1 g1 h1 j1 k1 n1 o1 : Nat) (e2 d2 : Nat) (a2 f2 i2 m2 : Option Addr) (l2 c2 g2 h2 j2 k2 n2 o2 : Nat) : (Instr.index 40 (.agg ((cellsR e0 (.slice a0 l0 c0) d0 (.slice f0 g0 h0) (.slice i0 j0 k0) (.slice m0 n0 o0)) ++ (cellsR e1 (.slice a1 l1 c1) d1 (.slice f1 g1 h1) (.slice i1 j1 k1) (.slice m1 n1 o1)) ++ (cellsR e2 (.slice a2 l2 c2) d2 (.slice f2 g2 h2) (.slice i2 j2 k2) (.slice m2 n2 o2))).toArray) (.int .i64 1)).run Try.prog w = .ok (.agg (cellsR e1 (.slice a1 l1 c1) d1 (.slice f1 g1 h1) (.slice i1 j1 k1) (.slice m1 n1 o1)).toArray) w := by kernel_rfl
theorem idx_last2 (w : World) (e0 d0 : Nat) (a0 f0 i0 m0 : Option Addr) (l0 c0 g0 h0 j0 k0 n0 o0 : Nat) (e1 d1 : Nat) (a1 f1 i1 m1 : Option Addr) (l1 c1 g1 h1 j1 k1 n1 o1 : Nat) (e2 d2 : Nat) (a2 f2 i2 m2 : Option Addr) (l2 c2 g2 h2 j2 k2 n2 o2 : Nat) : (Instr.index 40 (.agg ((cellsR e0 (.slice a0 l0 c0) d0 (.slice f0 g0 h0) (.slice i0 j0 k0) (.slice m0 n0 o0)) ++ (cellsR e1 (.slice a1 l1 c1) d1 (.slice f1 g1 h1) (.slice i1 j1 k1) (.slice m1 n1 o1)) ++ (cellsR e2 (.slice a2 l2 c2) d2 (.slice f2 g2 h2) (.slice i2 j2 k2) (.slice m2 n2 o2))).toArray) (.int .i64 2)).run Try.prog w = .ok (.agg (cellsR e2 (.slice a2 l2 c2) d2 (.slice f2 g2 h2) (.slice i2 j2 k2) (.slice m2 n2 o2)).toArray) w := by kernel_rfl
theorem idx_lasts {w0 : World} {r0 r1 r2 : List Value} {x0 x1 x2 : RepU RawV} (h0 : RepOkV w0 r0 x0) (h1 : RepOkV w0 r1 x1) (h2 : RepOkV w0 r2 x2) (w : World) :
    (Instr.index 40 (.agg (r0 ++ r1 ++ r2).toArray) (.int .i64 0)).run Try.prog w = .ok (.agg r0.toArray) w ∧ (Instr.index 40 (.agg (r0 ++ r1 ++ r2).toArray) (.int .i64 1)).run Try.prog w = .ok (.agg r1.toArray) w ∧ (Instr.index 40 (.agg (r0 ++ r1 ++ r2).toArray) (.int .i64 2)).run Try.prog w = .ok (.agg r2.toArray) w := by
  obtain ⟨_, _, _, _, _, _, _, _, rfl⟩ := h0.row
  obtain ⟨_, _, _, _, _, _, _, _, rfl⟩ := h1.row
  obtain ⟨_, _, _, _, _, _, _, _, rfl⟩ := h2.row
  exact ⟨idx_last0 _ _ _ _ _ _ _ _ _ _ _ _ _ _ _ _ _ _ _ _ _ _ _ _ _ _ _ _ _ _ _ _ _ _ _ _ _ _ _ _ _ _ _, idx_last1 _ _ _ _ _ _ _ _ _ _ _ _ _ _ _ _ _ _ _ _ _ _ _ _ _ _ _ _ _ _ _ _ _ _ _ _ _ _ _ _ _ _ _, idx_last2 _ _ _ _ _ _ _ _ _ _ _ _ _ _ _ _ _ _ _ _ _ _ _ _ _ _ _ _ _ _ _ _ _ _ _ _ _ _ _ _ _ _ _⟩
/-- versions, of which the first j are copies -/
def HalfV (w0 w : World) (rows0 rows : List (List Value)) (L : List RawV) (j : Nat) : Prop := rows.length = L.length ∧ (∀ i, i < j → ∃ r, rows[i]? = some r ∧ VV (ew w) (.agg r.toArray) (L.getD i noV)) ∧ ∀ i, j ≤ i → rows[i]? = rows0[i]?
theorem HalfV.sub {w0 w w' : World} {rows0 rows : List (List Value)} {L : List RawV} {j : Nat} (h : HalfV w0 w rows0 rows L j) (hs : Sub (ew w) (ew w')) : HalfV w0 w' rows0 rows L j := ⟨h.1, fun i hi => by
  obtain ⟨r, h1, h2⟩ := h.2.1 i hi
  exact ⟨r, h1, h2.sub hs⟩, h.2.2⟩
theorem HalfV.next {w0 w : World} {rows0 rows : List (List Value)} {L : List RawV} {j : Nat} (h : HalfV w0 w rows0 rows L j) (hj : j < L.length) {R : List Value} (hR : VV (ew w) (.agg R.toArray) (L.getD j noV)) : HalfV w0 w rows0 (rows.set j R) L (j + 1) := by
  refine ⟨by rw [List.length_set]; exact h.1, fun i hi => ?_, fun i hi => ?_⟩
  · by_cases e : i = j
    · subst e
      exact ⟨R, by rw [List.getElem?_set_self (by rw [h.1]; exact hj)], hR⟩
    · rw [List.getElem?_set_ne (fun e' => e e'.symm)]
      exact h.2.1 i (by omega)
  · rw [List.getElem?_set_ne (by omega)]
    exact h.2.2 i (by omega)
theorem HalfV.done {w0 w : World} {rows0 rows : List (List Value)} {L : List RawV} (h : HalfV w0 w rows0 rows L L.length) : TellVs (ew w) rows L := ⟨h.1, h.2.1⟩
def csS (a : RawV) (y Y g c : Nat) (p : Option Addr) (n j : Nat) (q : List Value) (i : Nat) (v : Value) (W : World) : Prop := match i with
  | 0 => v = .pointer (some ⟨y, 0, none⟩) | 1 => v = .slice p n c | 2 => v = .int .i64 (j : Int) | 3 => v = .agg q.toArray
  | 4 => ∃ r : List Value, v = .agg r.toArray ∧ VV (ew W) (.agg r.toArray) a | 5 => v = .pointer (some ⟨g, j * 4, none⟩)
  | _ => True
/-- a copy of a reply, or the reply as it was -/
def CpR (w : World) (b : Bool) (q r : List Value) (x : RepU RawV) : Prop := match b with | true => RepOkV (ew w) q x | false => q = r
theorem CpR.sub {w w' : World} {b : Bool} {q r : List Value} {x : RepU RawV} (h : CpR w b q r x) (hs : Sub (ew w) (ew w')) : CpR w' b q r x := by
  cases b with
  | false => exact h
  | true => exact RepOkV.sub h hs
theorem CpR.len {w w0 : World} {b : Bool} {q r : List Value} {x : RepU RawV} (h : CpR w b q r x) (hr : RepOkV w0 r x) : q.length = 6 := by
  cases b with
  | false => exact (congrArg List.length h).trans hr.len
  | true => exact RepOkV.len h
def csI (w wr : World) (y : Nat) (v1 : Value) (s0 s1 s2 : Nat) (r0 r1 r2 q0 q1 q2 : List Value) (x0 x1 x2 : RepU RawV) (L : List RawV) (b0 b1 b2 : Bool) : Prop :=
  (∃ rows, OwnR wr w.heap.size 28 4 v1 rows ∧ TellVs (ew wr) rows L) ∧ Blk wr y 42 (cellsS v1 s0 s1 s2 q0 q1 q2) ∧ Blk wr (y + 1) 42 zS ∧ CpR wr b0 q0 r0 x0 ∧ CpR wr b1 q1 r1 x1 ∧ CpR wr b2 q2 r2 x2 ∧ Below w.heap.size w wr
theorem csI.keep {w wr w2 : World} {y : Nat} {v1 : Value} {s0 s1 s2 : Nat} {r0 r1 r2 q0 q1 q2 : List Value} {x0 x1 x2 : RepU RawV} {L : List RawV} {b0 b1 b2 : Bool} (h : csI w wr y v1 s0 s1 s2 r0 r1 r2 q0 q1 q2 x0 x1 x2 L b0 b1 b2) (hb : Below wr.heap.size wr w2) : csI w w2 y v1 s0 s1 s2 r0 r1 r2 q0 q1 q2 x0 x1 x2 L b0 b1 b2 := by
  obtain ⟨⟨rows, h1, h2⟩, h3, h4, h5, h6, h7, h8⟩ := h
  have hs := ew_lf (Lf.below hb)
  exact ⟨⟨rows, h1.keep hb, h2.sub hs⟩, h3.below hb h3.lt, h4.below hb h4.lt, h5.sub hs, h6.sub hs, h7.sub hs, h8.trans (hb.mono h8.size)⟩
set_option maxRecDepth 100000 in
set_option maxHeartbeats 4000000 in
theorem u_copyS (s : StU RawV) (v : Value) (w : World) (hs : StTold w v s) (hg : StS s) :
    Calls Try.prog 31 #[v] w fun e w' => ∃ S vv, e = .returned (.agg S.toArray) ∧ StN w' w.heap.size S vv s ∧ Below w.heap.size w w' := by
  obtain ⟨vv, s0, s1, s2, r0, r1, r2, x0, x1, x2, rfl, hV, hq, hl, hbd, h0, h1, h2⟩ := hs
  obtain ⟨p, c, rfl⟩ := hV.isSlice
  obtain ⟨rows0, hS, hT, hlen⟩ := hV.of_len
  have hfew : s.vers.length ≤ 8 := hg.1.vers.few
  have hvs : ∀ i, i < s.vers.length → VerS (s.vers.getD i noV) := fun i hi => versS hg i hi
  have hrs : RepS x0 ∧ RepS x1 ∧ RepS x2 := ⟨hg.2.2 x0 (by rw [hl]; simp), hg.2.2 x1 (by rw [hl]; simp), hg.2.2 x2 (by rw [hl]; simp)⟩
  obtain ⟨L, hL⟩ : ∃ L, s.vers = L := ⟨_, rfl⟩
  have HLL := Lib.hid hL
  rw [hL] at hS hT hlen hfew hvs ⊢
  clear hL
  obtain ⟨S0, hS0⟩ : ∃ S0, cellsS (.slice p L.length c) s0 s1 s2 r0 r1 r2 = S0 := ⟨_, rfl⟩
  rw [hS0]
  obtain ⟨y, hy⟩ : ∃ y, w.heap.size = y := ⟨_, rfl⟩
  have k0 := Blk.newAt w y hy 42 (c := S0.toArray) S0 rfl
  have z1 : (w.alloc (.cells S0.toArray 42)).heap.size = y + 1 := by simp [hy]
  have k1 := Blk.newAt _ (y + 1) z1 42 (c := zS.toArray) zS rfl
  have kb := ((Below.refl w.heap.size w).alloc (Nat.le_refl _) (.cells S0.toArray 42)).alloc (by simp) (.cells zS.toArray 42)
  have k0' := k0.alloc (.cells zS.toArray 42)
  have c0 := k0'.cellOf (j := 0) (x := .slice p L.length c) (by rw [← hS0]; rfl)
  have hcl := cl_V ((w.alloc (.cells S0.toArray 42)).alloc (.cells zS.toArray 42)) p c rows0 (by rw [hlen]; exact hS.below kb) (tell_one hT) (by rw [hlen]; omega)
  rw [hlen] at hcl
  have HCL := Lib.hid hcl
  have K0 := Lib.hid k0'
  have K1 := Lib.hid k1
  have KB := Lib.hid kb
  have Z1 := Lib.hid z1
  have HS0 := Lib.hid hS0
  have HT := Lib.hid hT
  have HV0 := Lib.hid h0
  have HV1 := Lib.hid h1
  have HV2 := Lib.hid h2
  have HQ := Lib.hid hq
  have HL := Lib.hid hl
  have HBD := Lib.hid hbd
  have HVS := Lib.hid hvs
  have HRS := Lib.hid hrs
  have HLEN := Lib.hid hlen
  have HY := Lib.hid hy
  clear hcl k0 k0' k1 kb z1 hS0 hS hT hV hq hl hbd h0 h1 h2 hg hvs hrs hlen
  go_enter Try.func31, Try.ntmps31
  go_wp2_with (refine wpList_alloc_n rfl 42 rfl (y + 1) Z1.out _ (alloc_sv _) ?_)
  (with_reducible refine HCL.out.mono ?_)
  rintro e w5 ⟨v1, rfl, o5, b5⟩
  have hz := KB.out.size
  have o5' := o5.lower hz
  have k05 := K0.out.below b5 K0.out.lt
  have k15 := K1.out.below b5 K1.out.lt
  have b55 := KB.out.trans (b5.mono hz)
  obtain ⟨p1, c1, rfl⟩ := o5'.isSlice
  rw [HLEN.out] at o5' ⊢
  have cy := k05.cellOf (j := 0) (x := .slice p L.length c) (by rw [← HS0.out]; rfl)
  have fy := k05.free 0
  have k06 := k05.set 0 (.slice p1 L.length c1)
  have k16 := k15.other (a := ⟨y, 0, none⟩) (show y ≠ y + 1 by omega) (.slice p1 L.length c1)
  have o6 := o5'.cellOther k05 (by decide) 0 (.slice p1 L.length c1)
  have b6 := b55.setCell (p := ⟨y, 0, none⟩) (by rw [HY.out]; exact Nat.le_refl _) (.slice p1 L.length c1)
  have cy6 := k06.cellOf (j := 0) (x := .slice p1 L.length c1) (by rw [← HS0.out]; rfl)
  have K06 := Lib.hid k06
  have K16 := Lib.hid k16
  have O6 := Lib.hid o6
  have B6 := Lib.hid b6
  clear o5 o5' k05 k15 b5 b55 k06 k16 o6 b6 HCL KB K0 K1
  go_wp2_with fail
  generalize w5.setCell ⟨y, 0, none⟩ (.slice p1 L.length c1) = w6 at *
  clear cy fy
  go_wp2_with fail
  clear cy6
  obtain ⟨S1, hS1⟩ : ∃ S1, S0.set 0 (.slice p1 L.length c1) = S1 := ⟨_, rfl⟩
  have HS1 : Hid (cellsS (.slice p1 L.length c1) s0 s1 s2 r0 r1 r2 = S1) := Lib.hid (by rw [← hS1, ← HS0.out]; rfl)
  rw [hS1] at K06
  clear hS1
  go_loopw [3, 4, 14] (fun _ _ i wr => ∃ (j : Nat) (rows : List (List Value)), j ≤ L.length ∧ i = .int .i64 (j : Int) ∧ OwnR wr w.heap.size 28 4 (.slice p1 L.length c1) rows ∧ HalfV w wr rows0 rows L j ∧ Blk wr y 42 S1 ∧ Blk wr (y + 1) 42 zS ∧ Below w.heap.size w wr) (fun _ _ i _ => L.length - (intOf i).toNat)
  case atStart => exact ⟨0, rows0, Nat.zero_le _, rfl, O6.out, ⟨HLEN.out, fun i hi => absurd hi (Nat.not_lt_zero i), fun i _ => rfl⟩, K06.out, K16.out, B6.out⟩
  case round =>
    obtain ⟨j, rows, hj, rfl, ro, rh, rb0, rb1, gb⟩ := hrel
    clear O6 K06 K16 B6
    by_cases hlt : j < L.length
    · have d1 : (j : Int) < (L.length : Int) := by omega
      rcases ro.2.2 with ⟨_, hn0⟩ | ⟨g, cap, cur, hv1, _⟩
      · rw [rh.1] at hn0; omega
      · simp only [Value.slice.injEq] at hv1
        obtain ⟨rfl, -, rfl⟩ := hv1
        obtain ⟨q, hq1, hq2⟩ := HT.out.2 j hlt
        have hr0 : rows[j]? = some q := (rh.2.2 j (Nat.le_refl j)).trans hq1
        have hq4 := hq2.len
        have hcell : ∀ i x, q[i]? = some x → wr.cell? ((⟨g, j * 4, none⟩ : Addr).add i) = some x := fun i x hx => by
          obtain ⟨_, p', c', e, hc'⟩ := ro.sl
          simp only [Value.slice.injEq] at e
          obtain ⟨rfl, -, rfl⟩ := e
          obtain ⟨a', ea, _, hat⟩ := hc' j q hr0
          cases ea
          have := hat i x hx
          rw [Addr.add_mid] at this ⊢
          rw [Nat.zero_add] at this
          exact this
        have hone : q.toArray.all (·.oneCell') = true := by
          obtain ⟨_, _, _, _, _, _, hrow⟩ := hq2.row
          rw [hrow]; exact cellsV_one _ _ _ _ _ _ _ _ _ _
        obtain ⟨Y, hY⟩ : ∃ Y, wr.heap.size = Y := ⟨_, rfl⟩
        have y0 := Blk.newAt wr Y hY 28 (c := zV.toArray) zV rfl
        have y1 := y0.row q (by rw [hq4]; rfl)
        have hgY : ∀ b, (Value.slice (some ⟨g, 0, none⟩) L.length c1).ownBlock = some b → b ≠ Y := fun b e => by have := (ro.lt b e).2; omega
        have oa := (ro.alloc (.cells zV.toArray 28)).rowApart Y q.toArray hgY
        have ly := rb0.lt
        have ly1 := rb1.lt
        have ba := (rb0.alloc (.cells zV.toArray 28)).rowOther (g := Y) (by omega) q.toArray
        have ba1 := (rb1.alloc (.cells zV.toArray 28)).rowOther (g := Y) (by omega) q.toArray
        have hbw : Below wr.heap.size wr ((wr.alloc (.cells zV.toArray 28)).setRow Y q.toArray) := below_setRow ((Below.refl _ _).alloc (Nat.le_refl _) _) (by omega) _
        have ha := rh.sub (ew_lf (Lf.below hbw))
        have gba := gb.trans (hbw.mono gb.size)
        have HCL := Lib.hid hcell
        have HQ4 := Lib.hid hq4
        have HO1 := Lib.hid hone
        have Y0 := Lib.hid y0
        have Y1 := Lib.hid y1
        have OA := Lib.hid oa
        have BA := Lib.hid ba
        have BA1 := Lib.hid ba1
        have HA := Lib.hid ha
        have GB := Lib.hid gb
        have HBW := Lib.hid hbw
        have GBA := Lib.hid gba
        have HQ2 := Lib.hid hq2
        have HYS := Lib.hid hY
        have HRL := Lib.hid rh.1
        clear ro rh rb0 rb1 gb hq1 hr0 hq4 hcell hone y0 y1 hgY oa ba ba1 hbw ha gba hq2
        go_wp2_with (first | (refine wpList_load_addr rfl 28 _ rfl ⟨g, j * 4, none⟩ rfl q HCL.out Try.underlying28 rfl (by rw [size_ver, HQ4.out]) ?_) | (refine wpList_alloc_n rfl 28 rfl Y HYS.out _ (alloc_ver _) ?_) | (refine wpList_store_blk rfl 28 _ _ rfl Y q rfl rfl Y0.out (by rw [size_ver, HQ4.out]) (by rw [HQ4.out]; rfl) HO1.out ?_))
        generalize (wr.alloc (.cells zV.toArray 28)).setRow Y q.toArray = wa at *
        have hzy : y < wa.heap.size := BA.out.lt
        refine region_free_last 6 mixed (by kernel_rfl) (by kernel_rfl) (fun u => ((_ :: _ :: _ :: _ :: _ :: _ :: _ :: _ :: _ :: _ :: _ :: _ :: _ :: _ :: _ :: _ :: _ :: _ :: _ :: u 0 :: u 1 :: u 2 :: u 3 :: u 4 :: u 5 :: _ :: _ :: _ :: _ :: _ :: _ :: _ :: _ :: _ :: _ :: _ :: _ :: _ :: _ :: []) : List Value).toArray) [] (fun i => match i with | 0 => _ | 1 => _ | 2 => _ | 3 => _ | 4 => _ | 5 => _ | _ => undef) rfl (NewBut wa) (show Below _ _ _ from (Below.refl _ _).drew) (csS (L.getD j noV) y Y g c1 (some ⟨g, 0, none⟩) L.length j q) ?mono ?step ?last
        case mono =>
          intro i v W W' hv hC hC' hb
          match i with
          | 0 | 1 | 2 | 3 | 5 => exact hv
          | 4 =>
            obtain ⟨r, h1, h2⟩ := hv
            exact ⟨r, h1, h2.sub (ew_lf (Lf.below hb))⟩
          | _ + 6 => trivial
        case step =>
          intro u W i o hi ho hC hd
          have hr := Below.refl W.heap.size W
          have hz := hC.size
          rcases i with _ | _ | _ | _ | _ | _ | i
          all_goals try (simp only [List.getElem?_cons_zero, List.getElem?_cons_succ, Option.some.injEq] at ho; subst ho)
          · go_wp2_with fail
            exact ⟨_, rfl, rfl, hC, hr⟩
          · have h0 : u 0 = _ := hd ⟨0, .data⟩ (by simp) rfl
            have c0 := (BA.out.below hC BA.out.lt).cellOf (j := 0) (x := .slice (some ⟨g, 0, none⟩) L.length c1) (by rw [← HS1.out]; rfl)
            rw [h0]
            go_wp2_with fail
            exact ⟨.slice (some ⟨g, 0, none⟩) L.length c1, by simp [upd, h0], rfl, hC, hr⟩
          · go_wp2_with fail
            exact ⟨_, rfl, rfl, hC, hr⟩
          · have hB := Y1.out.below hC Y1.out.lt
            go_wp2_with (refine wpList_load_blk rfl 28 _ rfl Y rfl hB Try.underlying28 rfl (by rw [size_ver, HQ4.out]) ?_)
            exact ⟨_, rfl, rfl, hC, hr⟩
          · have h3 : u 3 = _ := hd ⟨3, .data⟩ (by simp) rfl
            have HC := Lib.hid (u_copyV (L.getD j noV) (.agg q.toArray) W ((HQ2.out.below GB.out).below (HBW.out.trans (hC.mono HBW.out.size))) (HVS.out j hlt).2)
            rw [h3]
            go_wp2_with ((with_reducible refine HC.out.mono ?_); rintro e w5 ⟨r5, rfl, o5, b5⟩; have O5 := Lib.hid o5; have B5 := Lib.hid b5; clear o5 b5)
            exact ⟨.agg r5.toArray, by simp [upd, h3], ⟨r5, rfl, O5.out⟩, hC.trans (B5.out.mono hz), B5.out⟩
          · have h1 : u 1 = _ := hd ⟨1, .data⟩ (by simp) rfl
            have h2 : u 2 = _ := hd ⟨2, .data⟩ (by simp) rfl
            rw [h1, h2]
            go_wp2_with fail
            exact ⟨.pointer (some ⟨g, j * 4, none⟩), by simp [upd, h1, h2], rfl, hC, hr⟩
          · omega
        case last =>
          intro u W o ho hC hS
          simp only [List.getElem?_cons_zero, List.getElem?_cons_succ, Option.some.injEq] at ho
          subst ho
          have h5 : u 5 = .pointer (some ⟨g, j * 4, none⟩) := hS 5 (by decide)
          obtain ⟨r, h4, hV4⟩ : ∃ r : List Value, u 4 = .agg r.toArray ∧ VV (ew W) (.agg r.toArray) (L.getD j noV) := hS 4 (by decide)
          have hone : r.toArray.all (·.oneCell') = true := by
            obtain ⟨_, _, _, _, _, _, hrow⟩ := hV4.row
            rw [hrow]; exact cellsV_one _ _ _ _ _ _ _ _ _ _
          have OW := Lib.hid (OA.out.keep hC)
          have HV4 := Lib.hid hV4
          have HR4 := Lib.hid hV4.len
          have HO4 := Lib.hid hone
          have HCW := Lib.hid hC
          clear hV4 hone hC hS
          rw [h4, h5]
          go_wp2_with (refine wpList_store_own rfl 28 _ _ rfl w.heap.size g L.length c1 4 j 28 rows r rfl rfl OW.out (by rw [HRL.out]; exact hlt) HR4.out size_ver HO4.out ?_; intro w8 ho8 hg8)
          have hl8 : Lf W w8 := Lf.grown hg8 fun b e _ => by
            obtain ⟨vs, hB⟩ := OW.out.blkAt b e
            exact ⟨_, vs, hB, by decide⟩
          have hh8 := ((HA.out.sub (ew_lf (Lf.below HCW.out))).sub (ew_lf hl8)).next hlt (HV4.out.sub (ew_lf hl8))
          have hgy : ∀ b, (Value.slice (some ⟨g, 0, none⟩) L.length c1).ownBlock = some b → b ≠ y := OA.out.ne BA.out (by decide)
          have hgy1 : ∀ b, (Value.slice (some ⟨g, 0, none⟩) L.length c1).ownBlock = some b → b ≠ y + 1 := OA.out.ne BA1.out (by decide)
          have hb8 := (BA.out.below HCW.out BA.out.lt).grownP hg8 (fun e => hgy g rfl (Option.some.inj e))
          have hb81 := (BA1.out.below HCW.out BA1.out.lt).grownP hg8 (fun e => hgy1 g rfl (Option.some.inj e))
          have hgb8 := (GBA.out.trans (HCW.out.mono GBA.out.size)).grown hg8 (Nat.le_trans GBA.out.size HCW.out.size) (fun b e => (OW.out.lt b e).1)
          have H1 := Lib.hid ho8
          have H2 := Lib.hid hh8
          have H3 := Lib.hid hb8
          have H4 := Lib.hid hb81
          have H5 := Lib.hid hgb8
          clear ho8 hg8 hl8 hh8 hgy hgy1 hb8 hb81 hgb8
          go_wp2
          go_roundw
          case rel => exact ⟨j + 1, _, by omega, by go_num, H1.out, H2.out, H3.out, H4.out, H5.out⟩
          case measure => simp [intOf]; omega
    · obtain rfl : j = L.length := by omega
      have hLA : ∀ i x, (r0 ++ r1 ++ r2)[i]? = some x → wr.cell? ((⟨y, 4, none⟩ : Addr).add i) = some x := fun i x hx => by
        rw [Addr.add_mid, rb0.cell, ← HS1.out, Nat.add_comm 4 i]
        exact hx
      have hll : (r0 ++ r1 ++ r2).length = 18 := by rw [List.length_append, List.length_append, HV0.out.len, HV1.out.len, HV2.out.len]
      have hix := idx_lasts HV0.out HV1.out HV2.out
      obtain ⟨LA, hA⟩ : ∃ LA, r0 ++ r1 ++ r2 = LA := ⟨_, rfl⟩
      rw [hA] at hLA hll
      simp only [hA] at hix
      have hi0 := fun w => (hix w).1
      have hi1 := fun w => (hix w).2.1
      have hi2 := fun w => (hix w).2.2
      have HLA := Lib.hid hLA
      have HLN := Lib.hid hll
      have hst : csI w wr y (.slice p1 L.length c1) s0 s1 s2 r0 r1 r2 r0 r1 r2 x0 x1 x2 L false false false := ⟨⟨rows, ro, rh.done⟩, by rw [HS1.out]; exact rb0, rb1, rfl, rfl, rfl, gb⟩
      have HST := Lib.hid hst
      clear ro rh rb0 rb1 gb hLA hll hix hA hst
      go_wp2_with (refine wpList_load_addr rfl 40 _ rfl ⟨y, 4, none⟩ rfl LA HLA.out Try.underlying40 rfl (by rw [size_lst, HLN.out]) ?_)
      go_loopw [5, 6, 28] (fun _ _ i wx => (i = .int .i64 0 ∧ ∃ q0 q1 q2, csI w wx y (.slice p1 L.length c1) s0 s1 s2 r0 r1 r2 q0 q1 q2 x0 x1 x2 L false false false) ∨ (i = .int .i64 1 ∧ ∃ q0 q1 q2, csI w wx y (.slice p1 L.length c1) s0 s1 s2 r0 r1 r2 q0 q1 q2 x0 x1 x2 L true false false) ∨ (i = .int .i64 2 ∧ ∃ q0 q1 q2, csI w wx y (.slice p1 L.length c1) s0 s1 s2 r0 r1 r2 q0 q1 q2 x0 x1 x2 L true true false) ∨ (i = .int .i64 3 ∧ ∃ q0 q1 q2, csI w wx y (.slice p1 L.length c1) s0 s1 s2 r0 r1 r2 q0 q1 q2 x0 x1 x2 L true true true)) (fun _ _ i _ => 3 - (intOf i).toNat)
      case atStart => exact .inl ⟨rfl, r0, r1, r2, HST.out⟩
      case round =>
        clear HST
        rcases hrel with ⟨rfl, q0, q1, q2, hI⟩ | ⟨rfl, q0, q1, q2, hI⟩ | ⟨rfl, q0, q1, q2, hI⟩ | ⟨rfl, q0, q1, q2, hI⟩
        · obtain ⟨Y, hY⟩ : ∃ Y, wr.heap.size = Y := ⟨_, rfl⟩
          have hV := HV0.out.below hI.2.2.2.2.2.2
          have y0 := Blk.newAt wr Y hY 39 (c := zRp.toArray) zRp rfl
          have y1 := y0.row r0 (by rw [hV.len]; rfl)
          have hbw : Below wr.heap.size wr ((wr.alloc (.cells zRp.toArray 39)).setRow Y r0.toArray) := below_setRow ((Below.refl _ _).alloc (Nat.le_refl _) _) (by omega) _
          have hIa := hI.keep hbw
          have hC := u_copyR x0 r0 _ (hV.below hbw) ⟨by have := HRS.out.1.1; omega, HRS.out.1.2.2.2⟩
          have Y0 := Lib.hid y0
          have Y1 := Lib.hid y1
          have IA := Lib.hid hIa
          have HC := Lib.hid hC
          have HYS := Lib.hid hY
          have HLN6 := Lib.hid hV.len
          have HON := Lib.hid (rep_oneV hV)
          clear hV y0 y1 hbw hIa hC hI hi1 hi2
          go_wp2_with (first | (refine wpList_alloc_n rfl 39 rfl Y HYS.out _ (alloc_rep _) ?_) | (refine wpList_store_blk rfl 39 _ _ rfl Y r0 rfl rfl Y0.out (by rw [size_rp, HLN6.out]) (by rw [HLN6.out]; rfl) HON.out ?_) | (refine wpList_load_blk rfl 39 _ rfl Y rfl Y1.out Try.underlying39 rfl (by rw [size_rp, HLN6.out]) ?_))
          (with_reducible refine HC.out.mono ?_)
          rintro e w5 ⟨r5, rfl, hr5, b5⟩
          obtain ⟨⟨rows5, d1, d2⟩, d3, d4, c5, c6, c7, d8⟩ := IA.out.keep b5
          have e0 : cellsS (.slice p1 L.length c1) s0 s1 s2 q0 q1 q2 = ([Value.slice p1 L.length c1, Value.int .u32 (s0 : Int), Value.int .u32 (s1 : Int), Value.int .u32 (s2 : Int)]) ++ (q0 ++ (q1 ++ q2)) := by simp [cellsS, List.append_assoc]
          have l0 := CpR.len c5 HV0.out
          have l1 := CpR.len c6 HV1.out
          have l2 := CpR.len c7 HV2.out
          have D3 := Lib.hid (d3.cast e0)
          have D3' := Lib.hid d3
          have D1 := Lib.hid d1
          have D2 := Lib.hid d2
          have D4 := Lib.hid d4
          have C5 := Lib.hid c5
          have C6 := Lib.hid c6
          have C7 := Lib.hid c7
          have D8 := Lib.hid d8
          have HR5 := Lib.hid hr5
          have L0 := Lib.hid l0
          have L1 := Lib.hid l1
          have L2 := Lib.hid l2
          have HX : Hid (4 = (([Value.slice p1 L.length c1, Value.int .u32 (s0 : Int), Value.int .u32 (s1 : Int), Value.int .u32 (s2 : Int)])).length) := Lib.hid (by simp [])
          have HL5 := Lib.hid hr5.len
          have HO5 := Lib.hid (rep_oneV hr5)
          clear hr5 b5 d1 d2 d3 d4 c5 c6 c7 d8 e0 l0 l1 l2
          go_wp2_with (refine wpList_store_part rfl 39 _ _ rfl y 4 rfl r5 rfl ([Value.slice p1 L.length c1, Value.int .u32 (s0 : Int), Value.int .u32 (s1 : Int), Value.int .u32 (s2 : Int)]) q0 (q1 ++ q2) D3.out HX.out (by rw [HL5.out, L0.out]) (by rw [size_rp, HL5.out]) HO5.out ?_; intro w8 hB8 hb8 hw8; have HG8 : Hid (w5.grownBy w8 (some y)) := Lib.hid (by rw [hw8]; exact grown_setCells y r5 4 w5); clear hw8)
          have hg8 := HG8.out
          have hl8 : Lf w5 w8 := Lf.grown hg8 fun b e _ => by
            cases e
            exact ⟨_, _, D3.out, by decide⟩
          have hs8 := ew_lf hl8
          have V8 : CpR w8 true r5 r0 x0 := RepOkV.sub HR5.out hs8
          have c5 := C5.out
          have c6 := C6.out
          have c7 := C7.out
          have hOy : ∀ b, (Value.slice p1 L.length c1).ownBlock = some b → some b ≠ some y := fun b e e' => by
            cases e'
            exact D1.out.ne D3.out (by decide) y e rfl
          have h8 : csI w w8 y (.slice p1 L.length c1) s0 s1 s2 r0 r1 r2 r5 q1 q2 x0 x1 x2 L true false false := ⟨⟨rows5, D1.out.grownO hg8 hOy, D2.out.sub hs8⟩, by
            have := hB8.cast (show ([Value.slice p1 L.length c1, Value.int .u32 (s0 : Int), Value.int .u32 (s1 : Int), Value.int .u32 (s2 : Int)]) ++ (r5 ++ (q1 ++ q2)) = cellsS (.slice p1 L.length c1) s0 s1 s2 r5 q1 q2 by simp [cellsS, List.append_assoc])
            exact this, D4.out.grownP hg8 (fun e => by have := Option.some.inj e; omega), V8, c6.sub hs8, c7.sub hs8, D8.out.grown hg8 (by exact D8.out.size) (fun b e => by cases e; rw [hy]; exact Nat.le_refl _)⟩
          have H8 := Lib.hid h8
          clear hg8 hl8 hs8 V8 c5 c6 c7 hOy h8 hB8 hb8
          go_wp2
          go_roundw
          case rel => exact .inr (.inl ⟨rfl, _, _, _, H8.out⟩)
          case measure => simp [intOf]
        · obtain ⟨Y, hY⟩ : ∃ Y, wr.heap.size = Y := ⟨_, rfl⟩
          have hV := HV1.out.below hI.2.2.2.2.2.2
          have y0 := Blk.newAt wr Y hY 39 (c := zRp.toArray) zRp rfl
          have y1 := y0.row r1 (by rw [hV.len]; rfl)
          have hbw : Below wr.heap.size wr ((wr.alloc (.cells zRp.toArray 39)).setRow Y r1.toArray) := below_setRow ((Below.refl _ _).alloc (Nat.le_refl _) _) (by omega) _
          have hIa := hI.keep hbw
          have hC := u_copyR x1 r1 _ (hV.below hbw) ⟨by have := HRS.out.2.1.1; omega, HRS.out.2.1.2.2.2⟩
          have Y0 := Lib.hid y0
          have Y1 := Lib.hid y1
          have IA := Lib.hid hIa
          have HC := Lib.hid hC
          have HYS := Lib.hid hY
          have HLN6 := Lib.hid hV.len
          have HON := Lib.hid (rep_oneV hV)
          clear hV y0 y1 hbw hIa hC hI hi2 hi0
          go_wp2_with (first | (refine wpList_alloc_n rfl 39 rfl Y HYS.out _ (alloc_rep _) ?_) | (refine wpList_store_blk rfl 39 _ _ rfl Y r1 rfl rfl Y0.out (by rw [size_rp, HLN6.out]) (by rw [HLN6.out]; rfl) HON.out ?_) | (refine wpList_load_blk rfl 39 _ rfl Y rfl Y1.out Try.underlying39 rfl (by rw [size_rp, HLN6.out]) ?_))
          (with_reducible refine HC.out.mono ?_)
          rintro e w5 ⟨r5, rfl, hr5, b5⟩
          obtain ⟨⟨rows5, d1, d2⟩, d3, d4, c5, c6, c7, d8⟩ := IA.out.keep b5
          have e0 : cellsS (.slice p1 L.length c1) s0 s1 s2 q0 q1 q2 = ([Value.slice p1 L.length c1, Value.int .u32 (s0 : Int), Value.int .u32 (s1 : Int), Value.int .u32 (s2 : Int)] ++ q0) ++ (q1 ++ (q2)) := by simp [cellsS, List.append_assoc]
          have l0 := CpR.len c5 HV0.out
          have l1 := CpR.len c6 HV1.out
          have l2 := CpR.len c7 HV2.out
          have D3 := Lib.hid (d3.cast e0)
          have D3' := Lib.hid d3
          have D1 := Lib.hid d1
          have D2 := Lib.hid d2
          have D4 := Lib.hid d4
          have C5 := Lib.hid c5
          have C6 := Lib.hid c6
          have C7 := Lib.hid c7
          have D8 := Lib.hid d8
          have HR5 := Lib.hid hr5
          have L0 := Lib.hid l0
          have L1 := Lib.hid l1
          have L2 := Lib.hid l2
          have HX : Hid (10 = (([Value.slice p1 L.length c1, Value.int .u32 (s0 : Int), Value.int .u32 (s1 : Int), Value.int .u32 (s2 : Int)] ++ q0)).length) := Lib.hid (by simp [l0])
          have HL5 := Lib.hid hr5.len
          have HO5 := Lib.hid (rep_oneV hr5)
          clear hr5 b5 d1 d2 d3 d4 c5 c6 c7 d8 e0 l0 l1 l2
          go_wp2_with (refine wpList_store_part rfl 39 _ _ rfl y 10 rfl r5 rfl ([Value.slice p1 L.length c1, Value.int .u32 (s0 : Int), Value.int .u32 (s1 : Int), Value.int .u32 (s2 : Int)] ++ q0) q1 (q2) D3.out HX.out (by rw [HL5.out, L1.out]) (by rw [size_rp, HL5.out]) HO5.out ?_; intro w8 hB8 hb8 hw8; have HG8 : Hid (w5.grownBy w8 (some y)) := Lib.hid (by rw [hw8]; exact grown_setCells y r5 10 w5); clear hw8)
          have hg8 := HG8.out
          have hl8 : Lf w5 w8 := Lf.grown hg8 fun b e _ => by
            cases e
            exact ⟨_, _, D3.out, by decide⟩
          have hs8 := ew_lf hl8
          have V8 : CpR w8 true r5 r1 x1 := RepOkV.sub HR5.out hs8
          have c5 := C5.out
          have c6 := C6.out
          have c7 := C7.out
          have hOy : ∀ b, (Value.slice p1 L.length c1).ownBlock = some b → some b ≠ some y := fun b e e' => by
            cases e'
            exact D1.out.ne D3.out (by decide) y e rfl
          have h8 : csI w w8 y (.slice p1 L.length c1) s0 s1 s2 r0 r1 r2 q0 r5 q2 x0 x1 x2 L true true false := ⟨⟨rows5, D1.out.grownO hg8 hOy, D2.out.sub hs8⟩, by
            have := hB8.cast (show ([Value.slice p1 L.length c1, Value.int .u32 (s0 : Int), Value.int .u32 (s1 : Int), Value.int .u32 (s2 : Int)] ++ q0) ++ (r5 ++ (q2)) = cellsS (.slice p1 L.length c1) s0 s1 s2 q0 r5 q2 by simp [cellsS, List.append_assoc])
            exact this, D4.out.grownP hg8 (fun e => by have := Option.some.inj e; omega), c5.sub hs8, V8, c7.sub hs8, D8.out.grown hg8 (by exact D8.out.size) (fun b e => by cases e; rw [hy]; exact Nat.le_refl _)⟩
          have H8 := Lib.hid h8
          clear hg8 hl8 hs8 V8 c5 c6 c7 hOy h8 hB8 hb8
          go_wp2
          go_roundw
          case rel => exact .inr (.inr (.inl ⟨rfl, _, _, _, H8.out⟩))
          case measure => simp [intOf]
        · obtain ⟨Y, hY⟩ : ∃ Y, wr.heap.size = Y := ⟨_, rfl⟩
          have hV := HV2.out.below hI.2.2.2.2.2.2
          have y0 := Blk.newAt wr Y hY 39 (c := zRp.toArray) zRp rfl
          have y1 := y0.row r2 (by rw [hV.len]; rfl)
          have hbw : Below wr.heap.size wr ((wr.alloc (.cells zRp.toArray 39)).setRow Y r2.toArray) := below_setRow ((Below.refl _ _).alloc (Nat.le_refl _) _) (by omega) _
          have hIa := hI.keep hbw
          have hC := u_copyR x2 r2 _ (hV.below hbw) ⟨by have := HRS.out.2.2.1; omega, HRS.out.2.2.2.2.2⟩
          have Y0 := Lib.hid y0
          have Y1 := Lib.hid y1
          have IA := Lib.hid hIa
          have HC := Lib.hid hC
          have HYS := Lib.hid hY
          have HLN6 := Lib.hid hV.len
          have HON := Lib.hid (rep_oneV hV)
          clear hV y0 y1 hbw hIa hC hI hi0 hi1
          go_wp2_with (first | (refine wpList_alloc_n rfl 39 rfl Y HYS.out _ (alloc_rep _) ?_) | (refine wpList_store_blk rfl 39 _ _ rfl Y r2 rfl rfl Y0.out (by rw [size_rp, HLN6.out]) (by rw [HLN6.out]; rfl) HON.out ?_) | (refine wpList_load_blk rfl 39 _ rfl Y rfl Y1.out Try.underlying39 rfl (by rw [size_rp, HLN6.out]) ?_))
          (with_reducible refine HC.out.mono ?_)
          rintro e w5 ⟨r5, rfl, hr5, b5⟩
          obtain ⟨⟨rows5, d1, d2⟩, d3, d4, c5, c6, c7, d8⟩ := IA.out.keep b5
          have e0 : cellsS (.slice p1 L.length c1) s0 s1 s2 q0 q1 q2 = ([Value.slice p1 L.length c1, Value.int .u32 (s0 : Int), Value.int .u32 (s1 : Int), Value.int .u32 (s2 : Int)] ++ q0 ++ q1) ++ (q2 ++ ([] : List Value)) := by simp [cellsS, List.append_assoc]
          have l0 := CpR.len c5 HV0.out
          have l1 := CpR.len c6 HV1.out
          have l2 := CpR.len c7 HV2.out
          have D3 := Lib.hid (d3.cast e0)
          have D3' := Lib.hid d3
          have D1 := Lib.hid d1
          have D2 := Lib.hid d2
          have D4 := Lib.hid d4
          have C5 := Lib.hid c5
          have C6 := Lib.hid c6
          have C7 := Lib.hid c7
          have D8 := Lib.hid d8
          have HR5 := Lib.hid hr5
          have L0 := Lib.hid l0
          have L1 := Lib.hid l1
          have L2 := Lib.hid l2
          have HX : Hid (16 = (([Value.slice p1 L.length c1, Value.int .u32 (s0 : Int), Value.int .u32 (s1 : Int), Value.int .u32 (s2 : Int)] ++ q0 ++ q1)).length) := Lib.hid (by simp [l0, l1])
          have HL5 := Lib.hid hr5.len
          have HO5 := Lib.hid (rep_oneV hr5)
          clear hr5 b5 d1 d2 d3 d4 c5 c6 c7 d8 e0 l0 l1 l2
          go_wp2_with (refine wpList_store_part rfl 39 _ _ rfl y 16 rfl r5 rfl ([Value.slice p1 L.length c1, Value.int .u32 (s0 : Int), Value.int .u32 (s1 : Int), Value.int .u32 (s2 : Int)] ++ q0 ++ q1) q2 ([] : List Value) D3.out HX.out (by rw [HL5.out, L2.out]) (by rw [size_rp, HL5.out]) HO5.out ?_; intro w8 hB8 hb8 hw8; have HG8 : Hid (w5.grownBy w8 (some y)) := Lib.hid (by rw [hw8]; exact grown_setCells y r5 16 w5); clear hw8)
          have hg8 := HG8.out
          have hl8 : Lf w5 w8 := Lf.grown hg8 fun b e _ => by
            cases e
            exact ⟨_, _, D3.out, by decide⟩
          have hs8 := ew_lf hl8
          have V8 : CpR w8 true r5 r2 x2 := RepOkV.sub HR5.out hs8
          have c5 := C5.out
          have c6 := C6.out
          have c7 := C7.out
          have hOy : ∀ b, (Value.slice p1 L.length c1).ownBlock = some b → some b ≠ some y := fun b e e' => by
            cases e'
            exact D1.out.ne D3.out (by decide) y e rfl
          have h8 : csI w w8 y (.slice p1 L.length c1) s0 s1 s2 r0 r1 r2 q0 q1 r5 x0 x1 x2 L true true true := ⟨⟨rows5, D1.out.grownO hg8 hOy, D2.out.sub hs8⟩, by
            have := hB8.cast (show ([Value.slice p1 L.length c1, Value.int .u32 (s0 : Int), Value.int .u32 (s1 : Int), Value.int .u32 (s2 : Int)] ++ q0 ++ q1) ++ (r5 ++ ([] : List Value)) = cellsS (.slice p1 L.length c1) s0 s1 s2 q0 q1 r5 by simp [cellsS, List.append_assoc])
            exact this, D4.out.grownP hg8 (fun e => by have := Option.some.inj e; omega), c5.sub hs8, c6.sub hs8, V8, D8.out.grown hg8 (by exact D8.out.size) (fun b e => by cases e; rw [hy]; exact Nat.le_refl _)⟩
          have H8 := Lib.hid h8
          clear hg8 hl8 hs8 V8 c5 c6 c7 hOy h8 hB8 hb8
          go_wp2
          go_roundw
          case rel => exact .inr (.inr (.inr ⟨rfl, _, _, _, H8.out⟩))
          case measure => simp [intOf]
        · obtain ⟨⟨rows5, d1, d2⟩, d3, d4, c5, c6, c7, d8⟩ := hI
          have hone := cellsS_one (vv := .slice p1 L.length c1) (s0 := s0) (s1 := s1) (s2 := s2) ⟨_, _, _, rfl⟩ c5 c6 c7
          obtain ⟨S9, hS9⟩ : ∃ S9, cellsS (.slice p1 L.length c1) s0 s1 s2 q0 q1 q2 = S9 := ⟨_, rfl⟩
          rw [hS9] at d3 hone
          have hs9 := ew_lf (Lf.row d4 (by decide) S9.toArray)
          have o9 := d1.rowApart (y + 1) S9.toArray (d1.ne d4 (by decide))
          have D9 := Lib.hid (d4.row S9 (by rw [hone.2]; rfl))
          have HN : Hid (StN (wr.setRow (y + 1) S9.toArray) w.heap.size S9 (.slice p1 L.length c1) s) := Lib.hid ⟨rows5, s0, s1, s2, q0, q1, q2, x0, x1, x2, hS9.symm, o9, by rw [HLL.out]; exact d2.sub hs9, HQ.out, HL.out, HBD.out, RepOkV.sub c5 hs9, RepOkV.sub c6 hs9, RepOkV.sub c7 hs9⟩
          have HB9 := Lib.hid (below_setRow d8 (show w.heap.size ≤ y + 1 by omega) S9.toArray)
          have D3 := Lib.hid d3
          have D4 := Lib.hid d4
          have HON := Lib.hid hone.1
          have HLN9 := Lib.hid hone.2
          clear d1 d2 d3 d4 c5 c6 c7 d8 hone hS9 hs9 o9 hi0 hi1 hi2
          go_wp2_with (first | (refine wpList_load_blk rfl 42 _ rfl y rfl D3.out Try.underlying42 rfl (by rw [size_sv, HLN9.out]) ?_) | (refine wpList_store_blk rfl 42 _ _ rfl (y + 1) S9 rfl rfl D4.out (by rw [size_sv, HLN9.out]) (by rw [HLN9.out]; rfl) HON.out ?_))
          refine bodyPost_ret (v := .agg S9.toArray) (results_cell_blk rfl _ _ (y + 1) rfl D9.out Try.underlying42 rfl (by rw [size_sv, HLN9.out])) rfl ?_
          exact ⟨S9, _, rfl, HN.out, HB9.out⟩
end Go.Proofs.Ytogonbgelaehhaa
