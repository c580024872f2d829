/- Walk of squeeze's Freq. -/
import Derived.Test.YtpjihjbgihionaaQB
import Derived.Test.YtpjihjbgihionaaPC
import Derived.Test.YtpjihjbgihionaaPF
import Derived.Test.YtpjihjbgihionaaPD
import Derived.Test.YtpjihjbgihionaaJ1
import Derived.Test.YtpjihjbgihionaaWA
namespace Go.Proofs.Ytpjihjbgihionaa
open Go.RowKit
set_option linter.unusedVariables false

/-- a new row of integers -/
def IntsNew (n : Nat) (l : List Nat) (w : World) (e : Ending) (w' : World) : Prop := ∃ g, e = .returned (.slice (some ⟨g, 0, none⟩) n n) ∧ Blk w' g 3 (ints .i64 (nn l)) ∧ w.heap.size ≤ g ∧ Below w.heap.size w w'
theorem cntA_step (t : Nat × Int × Int) (l : List (Nat × Int × Int)) (F : List Nat) : cntA (t :: l) F = cntA l (if (symS t).2 = true then incF F (symS t).1 else F) := by
  rw [cntA]
  unfold symS
  by_cases h1 : t.2.1 = 0
  · rw [if_pos h1, if_pos h1, if_pos rfl]
  · rw [if_neg h1, if_neg h1]
    by_cases h2 : 3 ≤ t.2.1 ∧ t.2.1 ≤ 34
    · rw [if_pos h2, if_pos h2, if_pos rfl]
    · rw [if_neg h2, if_neg h2, if_neg (by simp)]
theorem symS_lt {t : Nat × Int × Int} (h : t.1 < 256) : (symS t).1 < 288 := by
  unfold symS
  split
  · show t.1 < 288; omega
  · split
    · show 253 + t.2.1.toNat < 288; omega
    · show 0 < 288; omega
set_option maxRecDepth 100000 in
set_option maxHeartbeats 4000000 in
theorem q_Freq (T : List (Nat × Int × Int)) (p : Option Addr) (cap : Nat) (w : World) (hl : T.length ≤ 1000000) (hc : ∀ t ∈ T, t.1 < 256) (hS : Sl w 3 (.slice p T.length cap) (rowsTk T)) :
    Calls Try.prog 13 #[.slice p T.length cap] w (IntsNew 289 (freqA T) w) := by
  have hmk : ∀ w : World, (Instr.makeSlice 35 (.int .i64 289) (.int .i64 289)).run Try.prog w = .ok (.slice (some ⟨w.heap.size, 0, none⟩) 289 289) (w.alloc (.cells (ints .i64 (nn (zerN 289))).toArray 3)) := make_ints 289 (by decide)
  have hzl : (zerN 289).length = 289 := zerN_len 289
  have hz0 : ∀ i, (zerN 289).getD i 0 ≤ 0 := fun i => by rw [zerN_at]; omega
  have hfr : freqA T = (cntA T (zerN 289)).set 288 1 := rfl
  generalize zerN 289 = Z at *
  obtain ⟨w1, hw1⟩ : ∃ w1, w.alloc (.cells (ints .i64 (nn Z)).toArray 3) = w1 := ⟨_, rfl⟩
  have G1 : Blk w1 w.heap.size 3 (ints .i64 (nn Z)) := by rw [← hw1]; exact Blk.new' w _ _ rfl
  have hb1 : Below w.heap.size w w1 := by rw [← hw1]; exact (Below.refl _ _).alloc (Nat.le_refl _) _
  obtain ⟨CT, hCT⟩ : ∃ r, cntA T Z = r := ⟨_, rfl⟩
  rw [hCT] at hfr
  have HFR := Lib.hid hfr
  have HCT := Lib.hid hCT
  have HS := Lib.hid hS
  have HC := Lib.hid hc
  have HW1 := Lib.hid hw1
  have HG1 := Lib.hid G1
  have HB1 := Lib.hid hb1
  have HZ := Lib.hid hz0
  clear hfr hCT hS hc hw1 G1 hb1 hz0
  go_enter Try.func13, Try.ntmps13
  go_wp2_with fail
  rw [HW1.out]
  go_loopw [11] (fun i wr => ∃ (j : Nat) (F : List Nat), j ≤ T.length ∧ i = .int .i64 (j : Int) ∧ F.length = 289 ∧ (∀ i, F.getD i 0 ≤ j) ∧ cntA (T.drop j) F = CT ∧ Blk wr w.heap.size 3 (ints .i64 (nn F)) ∧ Below w.heap.size w wr) (fun i _ => T.length - (intOf i).toNat)
  case atStart => exact ⟨0, Z, by omega, rfl, hzl, HZ.out, HCT.out, HG1.out, HB1.out⟩
  case round =>
    obtain ⟨j, F, hj, rfl, hFl, hFj, gC, gG, gb⟩ := hrel
    clear HG1 HB1 HZ HCT HW1
    by_cases hlt : j < T.length
    · have d1 : (j : Int) < (T.length : Int) := by omega
      obtain ⟨a, rfl, hcl⟩ := (HS.out.below gb).row (rowsTk_at hlt)
      have hdr : T.drop j = T[j] :: T.drop (j + 1) := List.drop_eq_getElem_cons hlt
      rw [hdr, cntA_step] at gC
      have hct := HC.out _ (List.getElem_mem hlt)
      obtain ⟨⟨c, n, k⟩, ht⟩ : ∃ t, T[j] = t := ⟨_, rfl⟩
      rw [ht] at gC hcl hct
      simp only at hct
      have K4 := Blk.new' wr 34 (c := #[.int .u8 0, .int .i64 0, .int .i64 0]) [.int .u8 0, .int .i64 0, .int .i64 0] rfl
      have K5 := K4.row (rowT (c, n, k)) rfl
      obtain ⟨w5, hw5⟩ : ∃ w5, (wr.alloc (.cells #[.int .u8 0, .int .i64 0, .int .i64 0] 34)).setRow wr.heap.size (rowT (c, n, k)).toArray = w5 := ⟨_, rfl⟩
      have hb5 : Below wr.heap.size wr w5 := by rw [← hw5]; exact below_setRow ((Below.refl _ _).alloc (Nat.le_refl _) _) (Nat.le_refl _) _
      rw [hw5] at K5
      have hSy := q_symbolOf c hct n k w5
      have hsl := symS_lt (t := (c, n, k)) hct
      obtain ⟨⟨sy, is⟩, hsy⟩ : ∃ r, symS (c, n, k) = r := ⟨_, rfl⟩
      rw [hsy] at hSy hsl gC
      simp only at hSy hsl gC
      have g5 := gG.below hb5 gG.lt
      have gb5 := gb.trans (hb5.mono gb.size)
      have HCL := Lib.hid hcl
      have KK4 := Lib.hid K4
      have KK5 := Lib.hid K5
      have HW5 := Lib.hid hw5
      have HSY := Lib.hid hSy
      have G5 := Lib.hid g5
      have GB5 := Lib.hid gb5
      have GC := Lib.hid gC
      have HFJ := Lib.hid hFj
      clear hcl K4 K5 hw5 hSy g5 gb5 gC hFj gG gb hb5 hsy ht hdr hct
      go_wp2_with (first | (refine wpList_load_addr rfl 34 _ rfl _ rfl (rowT (c, n, k)) HCL.out Try.underlying34 rfl size_tk ?_) | (refine wpList_store_blk rfl 34 _ _ rfl wr.heap.size (rowT (c, n, k)) rfl rfl KK4.out size_tk rfl (rowT_one _) ?_; rw [HW5.out]) | (refine wpList_load_blk rfl 34 _ rfl wr.heap.size rfl KK5.out Try.underlying34 rfl size_tk ?_; rw [rowT_arr]))
      (with_reducible refine HSY.out.mono ?_)
      rintro e w6 ⟨rfl, hb6⟩
      have g6 := G5.out.below hb6 G5.out.lt
      have gb6 := GB5.out.trans (hb6.mono GB5.out.size)
      clear HSY G5 GB5 hb6
      cases is with
      | true =>
        have hfj := HFJ.out sy
        have c6 := g6.nat (j := sy) (by omega)
        have f6 := g6.free sy
        have hin := fun i => incF_getD (F := F) (k := sy) (by omega) i
        obtain ⟨x, hx⟩ : ∃ x, F.getD sy 0 = x := ⟨_, rfl⟩
        rw [hx] at hfj c6
        have i1 : (sy : Int) < 289 := by omega
        have i2 : (x : Int) ≤ 1000000 := by omega
        have T6 := g6.setNat sy (x + 1)
        have hinc : F.set sy (x + 1) = incF F sy := by unfold incF; rw [hx]
        rw [hinc] at T6
        have ec : ((x + 1 : Nat) : Int) = (x : Int) + 1 := by simp
        rw [ec] at T6
        have HT6 := Lib.hid T6
        have HB6 := Lib.hid (gb6.setCell (p := ⟨w.heap.size, sy, none⟩) (Nat.le_refl _) (.int .i64 ((x : Int) + 1)))
        have HIN := Lib.hid hin
        clear T6 hinc hx ec gb6 g6 hin hfj
        go_wp2
        go_roundw
        case rel => exact ⟨j + 1, incF F sy, by omega, by go_num, by rw [incF_len]; exact hFl, (fun i => by rw [HIN.out i]; have := HFJ.out i; split <;> omega), GC.out, HT6.out, HB6.out⟩
        case measure => (simp [intOf]; try omega)
      | false =>
        have HG6 := Lib.hid g6
        have HB6 := Lib.hid gb6
        clear g6 gb6
        go_wp2
        go_roundw
        case rel => exact ⟨j + 1, F, by omega, by go_num, hFl, (fun i => by have := HFJ.out i; omega), GC.out, HG6.out, HB6.out⟩
        case measure => (simp [intOf]; try omega)
    · obtain rfl : j = T.length := by omega
      rw [List.drop_length] at gC
      have gC : F = CT := gC
      subst gC
      have c6 := gG.nat (j := 288) (by omega)
      have f6 := gG.free 288
      obtain ⟨x, hx⟩ : ∃ x, F.getD 288 0 = x := ⟨_, rfl⟩
      rw [hx] at c6
      have T6 := gG.setNat 288 1
      rw [← HFR.out] at T6
      have HT6 : Hid (Blk (wr.setCell ⟨w.heap.size, 288, none⟩ (.int .i64 1)) w.heap.size 3 (ints .i64 (nn (freqA T)))) := Lib.hid T6
      have HB6 := Lib.hid (gb.setCell (p := ⟨w.heap.size, 288, none⟩) (Nat.le_refl _) (.int .i64 1))
      clear T6 hx gG gb hFj
      go_wp2
      go_ret
      exact ⟨_, rfl, HT6.out, Nat.le_refl _, HB6.out⟩
end Go.Proofs.Ytpjihjbgihionaa
namespace Go.Proofs.Ytpjihjbgihionaa
open Go.RowKit
set_option linter.unusedVariables false

/-- block M is the variable of the pieces made so far, all made behind w2 -/
structure PU (w2 w : World) (M : Nat) (mv : Value) (l : List (Nat × Int)) : Prop where
  blk : Blk w M 45 [mv]
  own : OwnR w w2.heap.size 70 2 mv (rowsP l)
  below : Below w2.heap.size w2 w
  hM : w2.heap.size ≤ M
theorem PU.keep {w2 w w' : World} {M : Nat} {mv : Value} {l : List (Nat × Int)} (h : PU w2 w M mv l) (hb : Below w.heap.size w w') : PU w2 w' M mv l := ⟨h.blk.below hb h.blk.lt, h.own.keep hb, h.below.trans (hb.mono h.below.size), h.hM⟩
/-- what a put leaves -/
def PutR (w2 w : World) (M : Nat) (mv : Value) (l : List (Nat × Int)) (e : Ending) (w' : World) : Prop :=
  e = .returned (.tuple #[]) ∧ (∀ k, k < w.heap.size → k ≠ M → mv.ownBlock ≠ some k → w'.heap[k]? = w.heap[k]?) ∧ ∃ mv', PU w2 w' M mv' l
theorem rowsP_snocQ (l : List (Nat × Int)) (q : Nat × Int) : rowsP (l ++ [q]) = rowsP l ++ [rowP q] := by simp [rowsP]
theorem build_pc (n x : Int) (w : World) : (Instr.build 70 #[(0, .int .u32 n), (1, .int .i64 x)]).run Try.prog w = .ok (.agg #[.int .u32 n, .int .i64 x]) w := by kernel_rfl
set_option maxRecDepth 100000 in
set_option maxHeartbeats 1000000 in
theorem q_putNumber {w2 w : World} {M : Nat} {mv : Value} {l : List (Nat × Int)} (h : PU w2 w M mv l) (hl : l.length ≤ 1000000) (n : Nat) (x : Int) (hn : n < 4294967296) :
    Calls Try.prog 34 #[.int .i64 (n : Int), .int .i64 x, .pointer (some ⟨M, 0, none⟩)] w (PutR w2 w M mv (l ++ [(n, x)])) := by
  obtain ⟨i0, hi0, hz0, hz1, hz2⟩ := info_parts2 info_piece
  have hbp := build_pc
  have c0 := h.blk.cell 0
  simp only [List.getElem?_cons_zero] at c0
  have hw32 : IntKind.u32.wrap (n : Int) = (n : Int) := wrapsJ_u32 _ (by omega) (by omega)
  have k6 := Blk.new' w 70 (c := #[.int .u32 (n : Int), .int .i64 x]) (rowP (n, x)) rfl
  have hb6 := (Below.refl w.heap.size w).alloc (Nat.le_refl _) (.cells #[.int .u32 (n : Int), .int .i64 x] 70)
  have h6 := h.keep hb6
  have hnews := sl_one k6
  have hne := h6.own.ne h6.blk (by decide)
  have hlo := h6.own.lt
  have hlo0 := h.own.lt
  have hone : ∀ r ∈ [rowP (n, x)], ∀ u ∈ r, u.oneCell' = true := by simp [rowP, Value.oneCell']
  have hlen : (rowsP l).length + [rowP (n, x)].length ≤ maxLen := by rw [rowsP_len, List.length_singleton]; unfold maxLen; omega
  have hby : ((rowsP l).length + [rowP (n, x)].length) * 16 ≤ 140737488355328 := by rw [rowsP_len, List.length_singleton]; omega
  obtain ⟨pa, ca, hv⟩ := h.own.isSlice
  obtain ⟨N, hN⟩ : ∃ N, (rowsP l).length = N := ⟨_, rfl⟩
  rw [hN] at hv
  have H6 := Lib.hid h6
  have HNW := Lib.hid hnews
  have HNE := Lib.hid hne
  have HLO := Lib.hid hlo
  have HB6 := Lib.hid hb6
  have HONE := Lib.hid hone
  have HLEN := Lib.hid hlen
  have HBY := Lib.hid hby
  have HBA := Lib.hid h6.below.size
  have HMM := Lib.hid h.hM
  clear h k6 hb6 h6 hnews hne hlo hlo0 hone hlen hby hN
  subst hv
  go_enter Try.func34, Try.ntmps34
  go_wp2_with (refine wpList_append_rows rfl _ _ 45 rfl w2.heap.size 70 i0 (.agg #[.int .u32 0, .int .i64 0]) 2 16 Try.underlying45 hi0 hz0 hz1 hz2 rfl (by decide) _ (rowsP l) rfl H6.out.own (.slice (some ⟨w.heap.size, 0, none⟩) 1 1) [rowP (n, x)] rfl HNW.out HONE.out HLEN.out HBY.out HBA.out (.inr ⟨_, _, _, rfl⟩) ?_; intro v7 w7 ho7 hg7 hv7; have hb7 := H6.out.blk.grownO hg7 HNE.out; have c7 := hb7.cell 0; have f7 := hb7.free 0; simp only [List.getElem?_cons_zero] at c7; obtain ⟨pa7, ca7, he7⟩ := ho7.isSlice; obtain ⟨n7, hn7⟩ : ∃ n7, (rowsP l ++ [rowP (n, x)]).length = n7 := ⟨_, rfl⟩; rw [hn7] at he7; have HO7 := Lib.hid ho7; have HB7 := Lib.hid hb7; have HG7 := Lib.hid hg7; clear ho7 hb7 hg7 hv7 hn7; subst he7)
  go_end0
  have hz7 := HG7.out.size
  have hz6 := HB6.out.size
  have hbel := (H6.out.below.grown HG7.out HBA.out (fun i e => (HLO.out i e).1)).setCell (p := ⟨M, 0, none⟩) HMM.out (.slice pa7 n7 ca7)
  refine ⟨rfl, fun k hk h1 h2 => ?_, _, HB7.out.set 0 _, ?_, hbel, HMM.out⟩
  · rw [(grown_setCell w7 ⟨M, 0, none⟩ _).block k (by omega) (fun e => h1 (Option.some.inj e)), HG7.out.block k (by omega) (fun e => h2 e.symm), HB6.out.block k hk]
  · rw [rowsP_snocQ]
    exact HO7.out.cellOther HB7.out (by decide) 0 _
/-- what holds of the world while a word's append goes on -/
def pyC (w2 w : World) (M : Nat) (mv : Value) (l : List (Nat × Int)) (b : Bool) (W : World) : Prop :=
  Blk W M 45 [mv] ∧ w.grownBy W mv.ownBlock ∧ Below w2.heap.size w2 W ∧ (b = false → OwnR W w2.heap.size 70 2 mv (rowsP l))
theorem pyC_new {w2 w : World} {M : Nat} {mv : Value} {l : List (Nat × Int)} {b : Bool} {W W' : World} (h : pyC w2 w M mv l b W) (hb : Below W.heap.size W W') : pyC w2 w M mv l b W' :=
  ⟨h.1.below hb h.1.lt, h.2.1.trans ((grown_below hb).but _), h.2.2.1.trans (hb.mono h.2.2.1.size), fun e => (h.2.2.2 e).keep hb⟩
/-- what the operations come to -/
def pyS (w2 w : World) (M g N sym : Nat) (q : Nat × Int) (mv : Value) (l : List (Nat × Int)) (i : Nat) (v : Value) (W : World) : Prop :=
  match i with
  | 0 => v = mv
  | 1 => v = .slice (some ⟨g, 0, none⟩) N N
  | 2 => v = .int .i64 (sym : Int)
  | 3 => v = .pointer (some ⟨g, sym * 2, none⟩)
  | 4 => v = .agg (rowP q).toArray
  | 5 => ∃ y, w.heap.size ≤ y ∧ v = .slice (some ⟨y, 0, none⟩) 1 1 ∧ Blk W y 70 (rowP q)
  | 6 => OwnR W w2.heap.size 70 2 v (rowsP l ++ [rowP q])
  | _ => True
theorem pyS_mono {w2 w : World} {M g N sym : Nat} {q : Nat × Int} {mv : Value} {l : List (Nat × Int)} (hlo : ∀ b, mv.ownBlock = some b → b < w.heap.size) (b : Bool) (i : Nat) (v : Value) (W W' : World) (hb : i = 6 → b = true) (h : pyS w2 w M g N sym q mv l i v W) (hk : adK mv b W W') : pyS w2 w M g N sym q mv l i v W' := by
  match i with
  | 0 | 1 | 2 | 3 | 4 => exact h
  | 5 =>
    obtain ⟨y, h1, h2, h3⟩ := h
    refine ⟨y, h1, h2, h3.grownO hk fun i hi e => ?_⟩
    subst e
    cases b
    · have := hlo i hi
      omega
    · cases hi
  | 6 =>
    obtain rfl := hb rfl
    exact OwnR.grownO h hk (fun _ _ e => by cases e)
  | _ + 7 => trivial
theorem rowP_agg (q : Nat × Int) : Value.agg (rowP q).toArray = .agg #[.int .u32 (q.1 : Int), .int .i64 q.2] := rfl
theorem size_pc : (Try.prog.info? 70).map (·.size) = some 2 := by kernel_rfl
set_option maxRecDepth 100000 in
set_option maxHeartbeats 2000000 in
theorem q_putSymbol {w2 w : World} {M : Nat} {mv : Value} {l : List (Nat × Int)} (h : PU w2 w M mv l) (hl : l.length ≤ 1000000) (Wd g : Nat) (L : List Nat) (sym : Nat) (hs : sym < L.length) (hLl : L.length ≤ 300) (hW : Blk w2 Wd 45 [.slice (some ⟨g, 0, none⟩) L.length L.length]) (hG : Sl w2 2 (.slice (some ⟨g, 0, none⟩) L.length L.length) (rowsP (pcW L))) :
    Calls Try.prog 35 #[.int .i64 (sym : Int), .pointer (some ⟨M, 0, none⟩), .pointer (some ⟨Wd, 0, none⟩)] w (PutR w2 w M mv (l ++ [pieceW L sym])) := by
  obtain ⟨i0, hi0, hz0, hz1, hz2⟩ := info_parts2 info_piece
  obtain ⟨q, hq⟩ : ∃ q, pieceW L sym = q := ⟨_, rfl⟩
  have hcell : ∀ W, Below w2.heap.size w2 W → ∀ j v, (rowP q)[j]? = some v → W.cell? ((⟨g, sym * 2, none⟩ : Addr).add j) = some v := fun W hb j v hv => by
    obtain ⟨c0, c1⟩ := pcW_cells (hG.below hb) hs
    rw [← hq] at hv
    rw [Addr.add_mid]
    match j, hv with
    | 0, hv =>
      cases hv
      exact c0
    | 1, hv =>
      cases hv
      exact c1
    | _ + 2, hv => simp [rowP] at hv
  rw [hq]
  obtain ⟨N, hN⟩ : ∃ N, L.length = N := ⟨_, rfl⟩
  rw [hN] at hW hs hLl
  have hlo := h.own.lt
  have hML := h.blk.lt
  obtain ⟨pa, ca, hv⟩ := h.own.isSlice
  obtain ⟨N0, hN0⟩ : ∃ N0, (rowsP l).length = N0 := ⟨_, rfl⟩
  rw [hN0] at hv
  have HH := Lib.hid h
  have HW := Lib.hid hW
  have HCE := Lib.hid hcell
  have HLO := Lib.hid hlo
  have HV := Lib.hid hv
  have HNL := Lib.hid (rowsP_len l)
  clear h hW hG hcell hlo hv hN hN0 hq
  go_enter Try.func35, Try.ntmps35
  go_wp2_with fail
  refine region_mix 6 7 (by decide) mixed (by kernel_rfl) (by kernel_rfl) (fun u => #[_, _, _, _, u 0, u 1, u 2, u 3, u 4, u 5, u 6]) [] (fun i => undef) rfl
    (pyC w2 w M mv l) ⟨HH.out.blk, (grown_below (Below.refl w.heap.size w).drew).but _, HH.out.below.drew, fun _ => HH.out.own⟩ (adK mv) (pyS w2 w M g N sym q mv l) ?mono ?step ?one ?last
  case mono => exact pyS_mono (fun b e => (HLO.out b e).2)
  case step =>
    intro bb u W i o hi hik _ ho hC hd
    have hr : adK mv bb W W := by cases bb <;> exact ⟨rfl, rfl, rfl, Nat.le_refl _, fun _ _ _ => rfl⟩
    rcases i with _ | _ | _ | _ | _ | _ | _ | i
    all_goals try (simp only [List.getElem?_cons_zero, List.getElem?_cons_succ, Option.some.injEq] at ho; subst ho)
    · have c2 := hC.1.cell 0
      simp only [List.getElem?_cons_zero] at c2
      rw [HV.out] at c2
      go_wp2_with fail
      exact ⟨_, rfl, HV.out.symm, hC, hr⟩
    · have c2 := (HW.out.below hC.2.2.1 HW.out.lt).cell 0
      simp only [List.getElem?_cons_zero] at c2
      go_wp2_with fail
      exact ⟨_, rfl, rfl, hC, hr⟩
    · go_wp2_with fail
      exact ⟨_, rfl, rfl, hC, hr⟩
    · have h1 : u 1 = .slice (some ⟨g, 0, none⟩) N N := hd ⟨1, .data⟩ (by simp) rfl
      have h2 : u 2 = .int .i64 (sym : Int) := hd ⟨2, .data⟩ (by simp) rfl
      have i1 : (sym : Int) < (N : Int) := by omega
      rw [h1, h2]
      go_wp2_with fail
      exact ⟨_, by simp [upd, h1, h2], rfl, hC, hr⟩
    · have h1 : u 3 = .pointer (some ⟨g, sym * 2, none⟩) := hd ⟨3, .data⟩ (by simp) rfl
      have HCW := Lib.hid (HCE.out W hC.2.2.1)
      rw [h1]
      go_wp2_with (refine wpList_load_addr rfl 70 _ rfl _ rfl (rowP q) HCW.out Try.underlying70 rfl size_pc ?_)
      exact ⟨_, by simp [upd, h1], rfl, hC, hr⟩
    · have h1 : u 4 = .agg (rowP q).toArray := hd ⟨4, .data⟩ (by simp) rfl
      have hz := hC.2.1.size
      have hb := (Below.refl W.heap.size W).alloc (Nat.le_refl _) (.cells #[.int .u32 (q.1 : Int), .int .i64 q.2] 70)
      have HC := Lib.hid (pyC_new hC hb)
      have HK : Hid (adK mv bb W (W.alloc (.cells #[.int .u32 (q.1 : Int), .int .i64 q.2] 70))) := Lib.hid (adK_new hb)
      clear hC hb
      rw [h1, rowP_agg]
      go_wp2_with fail
      exact ⟨_, by first | (simp [upd, h1, rowP_agg]; done) | (simp [upd, h1, rowP_agg]; rfl), ⟨W.heap.size, hz, rfl, Blk.new' W _ _ rfl⟩, HC.out, HK.out⟩
    · omega
    · omega
  case one =>
    intro u W o ho hC hd
    simp only [List.getElem?_cons_zero, List.getElem?_cons_succ, Option.some.injEq] at ho
    subst ho
    have h4 : u 0 = mv := hd ⟨0, .data⟩ (by simp) rfl
    obtain ⟨y, hy, h8, hY⟩ : ∃ y, w.heap.size ≤ y ∧ u 5 = .slice (some ⟨y, 0, none⟩) 1 1 ∧ Blk W y 70 (rowP q) := hd ⟨5, .data⟩ (by simp) rfl
    have hO := hC.2.2.2 rfl
    have hnw := sl_one hY
    have hone : ∀ r ∈ [rowP q], ∀ z ∈ r, z.oneCell' = true := by simp [rowP, Value.oneCell']
    have hlen : (rowsP l).length + [rowP q].length ≤ maxLen := by rw [HNL.out, List.length_singleton]; unfold maxLen; omega
    have hby : ((rowsP l).length + [rowP q].length) * 16 ≤ 140737488355328 := by rw [HNL.out, List.length_singleton]; omega
    have hbase : w2.heap.size ≤ W.heap.size := hC.2.2.1.size
    have hfin : ∀ v' w5, OwnR w5 w2.heap.size 70 2 v' (rowsP l ++ [rowP q]) → W.grownBy w5 mv.ownBlock → (pyC w2 w M mv l true w5 ∧ adK mv false W w5) := fun v' w5 q1 q2 =>
      ⟨⟨hC.1.grownO q2 (hO.ne hC.1 (by decide)), hC.2.1.trans q2, hC.2.2.1.grown q2 hbase (fun i e => (hO.lt i e).1), fun e => by cases e⟩, q2⟩
    have HFIN := Lib.hid hfin
    have HO := Lib.hid hO
    have HNW := Lib.hid hnw
    have HONE := Lib.hid hone
    have HLEN := Lib.hid hlen
    have HBY := Lib.hid hby
    have HBA := Lib.hid hbase
    clear hO hnw hone hlen hby hbase hY hC hd hfin
    rw [h4, h8]
    go_wp2_with (first | (refine wpList_append_rows rfl _ _ 45 rfl w2.heap.size 70 i0 (.agg #[.int .u32 0, .int .i64 0]) 2 16 Try.underlying45 hi0 hz0 hz1 hz2 rfl (by decide) mv (rowsP l) rfl HO.out (.slice (some ⟨y, 0, none⟩) 1 1) [rowP q] rfl HNW.out HONE.out HLEN.out HBY.out HBA.out (.inr ⟨_, _, _, rfl⟩) ?_; intro v' w5 ho5 hg5 hv5))
    obtain ⟨q1, q2⟩ := HFIN.out v' w5 ho5 hg5
    exact ⟨v', by simp [upd, h4, h8]; rfl, ho5, q1, q2⟩
  case last =>
    intro u W o ho hC hS
    simp only [List.getElem?_cons_zero, List.getElem?_cons_succ, Option.some.injEq] at ho
    subst ho
    have h9 : OwnR W w2.heap.size 70 2 (u 6) (rowsP l ++ [rowP q]) := hS 6 (by decide)
    clear hS
    obtain ⟨v5, hv5⟩ : ∃ v5, u 6 = v5 := ⟨_, rfl⟩
    rw [hv5] at h9 ⊢
    obtain ⟨A5, cap5, he5⟩ := h9.isSlice
    obtain ⟨n5, hn5⟩ : ∃ n, (rowsP l ++ [rowP q]).length = n := ⟨_, rfl⟩
    rw [hn5] at he5
    have c2 := hC.1.cell 0
    have f2 := hC.1.free 0
    simp only [List.getElem?_cons_zero] at c2
    have HCC := Lib.hid hC
    have H9 := Lib.hid h9
    clear hC h9 hn5
    subst he5
    go_wp2_with fail
    go_end0
    have hC := HCC.out
    refine ⟨rfl, fun k hk h1 h2 => ?_, _, hC.1.set 0 _, ?_, hC.2.2.1.setCell (p := ⟨M, 0, none⟩) HH.out.hM _, HH.out.hM⟩
    · have hz := hC.2.1.size
      rw [(grown_setCell W ⟨M, 0, none⟩ _).block k (by omega) (fun e => h1 (Option.some.inj e)), hC.2.1.block k hk (fun e => h2 e.symm)]
    · rw [rowsP_snocQ]
      exact H9.out.cellOther hC.1 (by decide) 0 _
end Go.Proofs.Ytpjihjbgihionaa
namespace Go.Proofs.Ytpjihjbgihionaa
open Go.RowKit
set_option linter.unusedVariables false

/-- what a piece of writing leaves -/
def WrR (w2 : World) (M : Nat) (l : List (Nat × Int)) (e : Ending) (w' : World) : Prop := e = .returned (.tuple #[]) ∧ ∃ mv', PU w2 w' M mv' l
theorem entN_nz {L : List Nat} (hL : L.length = 289) : entN L 289 0 = nzN L := by
  have := ent_drop L L (fun i _ => Iff.rfl) hL 289 0 rfl
  rwa [List.drop_zero] at this
set_option maxRecDepth 100000 in
set_option maxHeartbeats 2000000 in
theorem q_writeLengths {w2 w : World} {M : Nat} {mv : Value} {l : List (Nat × Int)} (h : PU w2 w M mv l) (hl : l.length ≤ 100000) (L : List Nat) (p : Option Addr) (cap : Nat) (hL : L.length = 289) (h15 : ∀ i, L.getD i 0 ≤ 15) (hS : Sl w2 1 (.slice p 289 cap) (rowsN L)) :
    Calls Try.prog 36 #[.slice p 289 cap, .func (.func 34) #[] #[.pointer (some ⟨M, 0, none⟩)]] w (WrR w2 M (l ++ ((entN L 289 0, 9) :: entP L 289 0))) := by
  have hU := q_used L p cap w (by omega) (by rw [hL]; exact hS.below h.below)
  rw [hL, ← entN_nz hL] at hU
  have hen := entN_le L 289 0
  obtain ⟨en, hE⟩ : ∃ en, entN L 289 0 = en := ⟨_, rfl⟩
  rw [hE] at hU hen ⊢
  have hP := q_putNumber h (by omega) en 9 (by omega)
  have HS := Lib.hid hS
  have HU := Lib.hid hU
  have HP := Lib.hid hP
  have H15 := Lib.hid h15
  clear hS hU hP h hE h15
  go_enter Try.func36, Try.ntmps36
  go_wp2_with fail
  (with_reducible refine HU.out.mono ?_)
  rintro e w3 ⟨rfl, rfl⟩
  go_wp2_with fail
  refine HP.out.mono ?_
  rintro e w4 ⟨rfl, _, mv4, h4⟩
  have H4 := Lib.hid h4
  clear h4 HP HU
  go_wp2_with fail
  go_loopw [12] (fun i wr => ∃ (j : Nat) (cur : List (Nat × Int)) (mv : Value), j ≤ 289 ∧ i = .int .i64 (j : Int) ∧ PU w2 wr M mv cur ∧ cur ++ entP L (289 - j) j = l ++ ((en, 9) :: entP L 289 0) ∧ cur.length ≤ l.length + 1 + 2 * j) (fun i _ => 289 - (intOf i).toNat)
  case atStart => exact ⟨0, l ++ [(en, 9)], mv4, by omega, rfl, H4.out, by rw [List.append_assoc]; rfl, by simp⟩
  case round =>
    obtain ⟨j, cur, mv, hj, rfl, gP, gE, gl⟩ := hrel
    clear H4
    by_cases hlt : j < 289
    · have d1 : (j : Int) < 289 := by omega
      have hlt' : j < L.length := by omega
      obtain ⟨a, rfl, hc⟩ := SlN.cell (HS.out.below gP.below) hlt'
      obtain ⟨d, hd⟩ : ∃ d, 289 - j = d + 1 := ⟨288 - j, by omega⟩
      rw [hd, entP] at gE
      have hx15 := H15.out j
      obtain ⟨x, hx⟩ : ∃ x, L.getD j 0 = x := ⟨_, rfl⟩
      rw [hx] at hc gE hx15
      clear hx
      by_cases h0 : x = 0
      · rw [if_pos h0] at gE
        subst h0
        have GP := Lib.hid gP
        have GE := Lib.hid gE
        clear gP gE
        go_wp2
        go_roundw
        case rel => exact ⟨j + 1, cur, mv, by omega, by go_num, GP.out, by rw [show 289 - (j + 1) = d by omega]; exact GE.out, by omega⟩
        case measure => (simp [intOf]; try omega)
      · rw [if_neg h0] at gE
        have g0 : (0 : Int) < (x : Int) := by omega
        have hP1 := q_putNumber gP (by omega) j 9 (by omega)
        have hP2 := fun w5 mv5 (h : PU w2 w5 M mv5 (cur ++ [(j, 9)])) => q_putNumber h (by simp; omega) x 4 (by omega)
        have HP1 := Lib.hid hP1
        have HP2 := Lib.hid hP2
        have GE := Lib.hid gE
        have HC := Lib.hid hc
        clear hP1 hP2 gE gP h0 hc
        have hc := HC.out
        go_wp2_with fail
        refine HP1.out.mono ?_
        rintro e w5 ⟨rfl, _, mv5, h5⟩
        have hP2 := Lib.hid (HP2.out w5 mv5 h5)
        clear h5 HP1 HP2
        go_wp2_with fail
        refine hP2.out.mono ?_
        rintro e w6 ⟨rfl, _, mv6, h6⟩
        have H6 := Lib.hid h6
        clear h6 hP2
        go_wp2_with fail
        go_roundw
        case rel => exact ⟨j + 1, cur ++ [(j, 9)] ++ [(x, 4)], mv6, by omega, by go_num, H6.out, by rw [show 289 - (j + 1) = d by omega, ← GE.out, List.append_assoc, List.append_assoc]; rfl, by simp; omega⟩
        case measure => (simp [intOf]; try omega)
    · obtain rfl : j = 289 := by omega
      rw [Nat.sub_self, entP, List.append_nil] at gE
      subst gE
      have GP := Lib.hid gP
      clear gP gl
      go_wp2
      go_end0
      exact ⟨rfl, _, GP.out⟩
theorem symS_ok {t : Nat × Int × Int} (h : okT t) : symS t = (symT t, true) := by
  unfold symS symT
  rcases h with ⟨h1, h2, h3⟩ | ⟨h1, h2, h3, h4, h5⟩
  · rw [if_pos h1, if_pos h1]
  · rw [if_neg (show ¬ t.2.1 = 0 by omega), if_pos ⟨h2, h3⟩, if_neg (show ¬ t.2.1 = 0 by omega)]
theorem okT_c {t : Nat × Int × Int} (h : okT t) : t.1 < 256 := by
  rcases h with ⟨h1, h2, h3⟩ | ⟨h1, h2, h3, h4, h5⟩
  · exact h3
  · omega
set_option maxRecDepth 100000 in
set_option maxHeartbeats 4000000 in
theorem q_writeTokens {w2 w : World} {M : Nat} {mv : Value} {l : List (Nat × Int)} (h : PU w2 w M mv l) (hl : l.length ≤ 100000) (L : List Nat) (Wd g : Nat) (hL : L.length = 289) (hW : Blk w2 Wd 45 [.slice (some ⟨g, 0, none⟩) L.length L.length]) (hG : Sl w2 2 (.slice (some ⟨g, 0, none⟩) L.length L.length) (rowsP (pcW L))) (T : List (Nat × Int × Int)) (p : Option Addr) (cap : Nat) (hT : T.length ≤ 100000) (hok : ∀ t ∈ T, okT t) (hS : Sl w2 3 (.slice p T.length cap) (rowsTk T)) :
    Calls Try.prog 37 #[.slice p T.length cap, .func (.func 35) #[] #[.pointer (some ⟨M, 0, none⟩), .pointer (some ⟨Wd, 0, none⟩)], .func (.func 34) #[] #[.pointer (some ⟨M, 0, none⟩)]] w (WrR w2 M (l ++ T.flatMap (tokP L))) := by
  have hPS := fun w5 mv5 l5 sym (h : PU w2 w5 M mv5 l5) (h5 : l5.length ≤ 1000000) (hs : sym < 289) => q_putSymbol h h5 Wd g L sym (by omega) (by omega) hW hG
  have HPS := Lib.hid hPS
  have HS := Lib.hid hS
  have HOK := Lib.hid hok
  have HH := Lib.hid h
  clear hPS hS hok h hW hG
  go_enter Try.func37, Try.ntmps37
  go_wp2_with fail
  go_loopw [12] (fun i wr => ∃ (j : Nat) (cur : List (Nat × Int)) (mv : Value), j ≤ T.length ∧ i = .int .i64 (j : Int) ∧ PU w2 wr M mv cur ∧ cur ++ (T.drop j).flatMap (tokP L) = l ++ T.flatMap (tokP L) ∧ cur.length ≤ l.length + 2 * j) (fun i _ => T.length - (intOf i).toNat)
  case atStart => exact ⟨0, l, mv, by omega, rfl, HH.out, rfl, by simp⟩
  case round =>
    obtain ⟨j, cur, mv, hj, rfl, gP, gE, gl⟩ := hrel
    clear HH
    by_cases hlt : j < T.length
    · have d1 : (j : Int) < (T.length : Int) := by omega
      obtain ⟨a, rfl, hcl⟩ := (HS.out.below gP.below).row (rowsTk_at hlt)
      have hdr : T.drop j = T[j] :: T.drop (j + 1) := List.drop_eq_getElem_cons hlt
      rw [hdr, List.flatMap_cons] at gE
      have hot := HOK.out _ (List.getElem_mem hlt)
      obtain ⟨⟨c, n, k⟩, ht⟩ : ∃ t, T[j] = t := ⟨_, rfl⟩
      rw [ht] at gE hcl hot
      have hct := okT_c hot
      have hsy := symS_ok hot
      have hsl := symT_lt hot
      simp only at hct
      have K4 := Blk.new' wr 34 (c := #[.int .u8 0, .int .i64 0, .int .i64 0]) [.int .u8 0, .int .i64 0, .int .i64 0] rfl
      have K5 := K4.row (rowT (c, n, k)) rfl
      obtain ⟨w5, hw5⟩ : ∃ w5, (wr.alloc (.cells #[.int .u8 0, .int .i64 0, .int .i64 0] 34)).setRow wr.heap.size (rowT (c, n, k)).toArray = w5 := ⟨_, rfl⟩
      have hb5 : Below wr.heap.size wr w5 := by rw [← hw5]; exact below_setRow ((Below.refl _ _).alloc (Nat.le_refl _) _) (Nat.le_refl _) _
      rw [hw5] at K5
      obtain ⟨X, hX⟩ : ∃ X, wr.heap.size = X := ⟨_, rfl⟩
      have hSy := q_symbolOf c hct n k w5
      rw [hsy] at hSy
      simp only at hSy
      obtain ⟨sy, hsym⟩ : ∃ sy, symT (c, n, k) = sy := ⟨_, rfl⟩
      rw [hsym] at hSy hsl
      have g5 := gP.keep hb5
      have hcur : cur.length ≤ 1000000 := by omega
      have HX := Lib.hid hX
      have HCL := Lib.hid hcl
      have KK4 := Lib.hid K4
      have KK5 := Lib.hid K5
      have HW5 := Lib.hid hw5
      have HSY := Lib.hid hSy
      have G5 := Lib.hid g5
      have GE := Lib.hid gE
      have HSM := Lib.hid hsym
      clear hcl K4 K5 hw5 hSy g5 gE gP hb5 hsy ht hdr hct hsym hX
      go_wp2_with (first | (refine wpList_load_addr rfl 34 _ rfl _ rfl (rowT (c, n, k)) HCL.out Try.underlying34 rfl size_tk ?_) | (refine wpList_store_blk rfl 34 _ _ rfl wr.heap.size (rowT (c, n, k)) rfl rfl KK4.out size_tk rfl (rowT_one _) ?_; rw [HW5.out]) | (refine wpList_load_blk rfl 34 _ rfl wr.heap.size rfl KK5.out Try.underlying34 rfl size_tk ?_; rw [rowT_arr]))
      rw [HX.out] at KK4 KK5 ⊢
      (with_reducible refine HSY.out.mono ?_)
      rintro e w6 ⟨rfl, hb6⟩
      have g6 := G5.out.keep hb6
      have K6 := KK5.out.below hb6 KK5.out.lt
      have hP := HPS.out w6 mv cur sy g6 hcur (by omega)
      have HP := Lib.hid hP
      have HK6 := Lib.hid K6
      have HXM := Lib.hid (K6.neT g6.blk (by decide))
      have HXO := Lib.hid (fun (e : mv.ownBlock = some X) => g6.own.ne K6 (by decide) X e rfl)
      clear hP g6 K6 hb6 HSY G5 KK4 KK5 HW5 HCL
      go_wp2_with fail
      refine HP.out.mono ?_
      rintro e w7 ⟨rfl, hfr, mv7, h7⟩
      have K7 : Blk w7 X 34 (rowT (c, n, k)) := (hfr X HK6.out.lt HXM.out HXO.out).trans HK6.out
      have c1 := K7.cell 1
      have c2 := K7.cell 2
      simp only [rowT, List.getElem?_cons_zero, List.getElem?_cons_succ] at c1 c2
      have H7 := Lib.hid h7
      clear h7 hfr K7 HP HK6 HXM HXO
      rcases hot with ⟨h1, h2, h3⟩ | ⟨h1, h2, h3, h4, h5⟩
      · simp only at h1 h2 h3
        subst h1 h2
        have htp : tokP L (c, 0, 0) = [pieceW L sy] := by
          rw [← HSM.out]
          rfl
        rw [htp] at GE
        clear htp
        go_wp2
        go_roundw
        case rel => exact ⟨j + 1, cur ++ [pieceW L sy], mv7, by omega, by go_num, H7.out, by rw [← GE.out, List.append_assoc], by simp; omega⟩
        case measure => (simp [intOf]; try omega)
      · simp only at h1 h2 h3 h4 h5
        obtain ⟨k', rfl⟩ : ∃ k' : Nat, k = ((k' + 1 : Nat) : Int) := ⟨(k - 1).toNat, by omega⟩
        have htp : tokP L (c, n, ((k' + 1 : Nat) : Int)) = [pieceW L sy, (k', 9)] := by
          rw [← HSM.out]
          unfold tokP symT
          simp only
          rw [if_neg (by omega), if_neg (by omega), show (((k' + 1 : Nat) : Int) - 1).toNat = k' by omega]
        rw [htp] at GE
        have g1 : (0 : Int) < n := by omega
        have e1 : ((k' + 1 : Nat) : Int) - 1 = (k' : Int) := by omega
        have i1 : ((k' + 1 : Nat) : Int) ≤ 512 := by omega
        obtain ⟨kk, hkk⟩ : ∃ kk : Int, ((k' + 1 : Nat) : Int) = kk := ⟨_, rfl⟩
        rw [hkk] at c2 e1 i1
        have i2 : 1 ≤ kk := by omega
        have hP2 := q_putNumber H7.out (by simp; omega) k' 9 (by omega)
        have HP2 := Lib.hid hP2
        clear htp hP2 hkk h1 h2 h3 h4 h5
        go_wp2_with fail
        refine HP2.out.mono ?_
        rintro e w8 ⟨rfl, _, mv8, h8⟩
        have H8 := Lib.hid h8
        clear h8 HP2 H7
        go_wp2_with fail
        go_roundw
        case rel => exact ⟨j + 1, cur ++ [pieceW L sy] ++ [(k', 9)], mv8, by omega, by go_num, H8.out, by rw [← GE.out, List.append_assoc, List.append_assoc]; rfl, by simp; omega⟩
        case measure => (simp [intOf]; try omega)
    · obtain rfl : j = T.length := by omega
      rw [List.drop_length, List.flatMap_nil, List.append_nil] at gE
      subst gE
      have GP := Lib.hid gP
      clear gP gl
      go_wp2
      go_end0
      exact ⟨rfl, _, GP.out⟩
end Go.Proofs.Ytpjihjbgihionaa
namespace Go.Proofs.Ytpjihjbgihionaa
open Go.RowKit
set_option linter.unusedVariables false

theorem mayC_freq {T : List (Nat × Int × Int)} (hok : ∀ t ∈ T, okT t) (hl : T.length ≤ 4096) : MayC (nn (freqT T)) 15 := by
  have hlen := freqT_len T
  refine ⟨by rw [nn_length, hlen]; omega, fun x hx => ?_, ?_⟩
  · simp only [nn, List.mem_map] at hx
    obtain ⟨y, hy, rfl⟩ := hx
    obtain ⟨j, hj, rfl⟩ := List.getElem_of_mem hy
    have h1 : (freqT T).getD j 0 = (freqT T)[j] := by simp [hj]
    have h2 := freqT_getD T j
    have h3 := (cntQ_ge T (zerN 289) (zerN_len _) hok j).2
    rw [zerN_at] at h3
    unfold Comes
    rw [← h1, h2]
    split <;> omega
  · have := usedI_le (nn (freqT T))
    rw [nn_length, hlen] at this
    omega
set_option maxRecDepth 100000 in
set_option maxHeartbeats 4000000 in
theorem q_written (T : List (Nat × Int × Int)) (p : Option Addr) (cap : Nat) (w : World) (hl : T.length ≤ 4096) (hok : ∀ t ∈ T, okT t) (hS : Sl w 3 (.slice p T.length cap) (rowsTk T)) :
    Calls Try.prog 17 #[.slice p T.length cap] w (OwnRetR 70 2 (rowsP (piecesT T)) w) := by
  have hmf := mkf
  have hF := q_Freq T p cap w (by omega) (fun t ht => okT_c (hok t ht)) hS
  rw [freqA_ok hok] at hF
  have hM := mayC_freq hok hl
  obtain ⟨hr, hL, hpos⟩ := lenT_right hok hl
  have h15 := getD_le hr.1
  have hRN := (rightW_N hL h15).1 hr
  have hfl := freqT_len T
  have hLe : ∀ (g : Nat) (w1 : World), Blk w1 g 3 (ints .i64 (nn (freqT T))) → Calls Try.prog 32 #[.slice (some ⟨g, 0, none⟩) 289 289, .int .i64 15] w1 (fun e w' => ∃ g, e = .returned (.tuple #[.slice (some ⟨g, 0, none⟩) 289 289, .int .i64 0]) ∧ Blk w' g 3 (ints .i64 (nn (lenT T))) ∧ w1.heap.size ≤ g ∧ Below w1.heap.size w1 w') := fun g w1 hb => by
    have h1 := hb.slN 289
    rw [hfl] at h1
    have h2 := p_Lengths_yes (freqT T) 15 (.slice (some ⟨g, 0, none⟩) 289 289) w1 (by omega) (by omega) hM h1 (.inr ⟨_, _, _, rfl⟩)
    unfold IntsRet2 at h2
    have e : (lensF 15 20 (freqT T)).length = 289 := hL
    rw [e] at h2
    exact h2
  have hCo : ∀ (g : Nat) (w1 : World), Blk w1 g 3 (ints .i64 (nn (lenT T))) → Calls Try.prog 33 #[.slice (some ⟨g, 0, none⟩) 289 289] w1 (fun e w' => ∃ g, e = .returned (.tuple #[.slice (some ⟨g, 0, none⟩) 289 289, .int .i64 0]) ∧ Blk w' g 70 (rowsP (pcW (lenT T))).flatten ∧ w1.heap.size ≤ g ∧ Below w1.heap.size w1 w') := fun g w1 hb => by
    have h1 := hb.slN 289
    have h2 := p_Codes_yes (lenT T) (some ⟨g, 0, none⟩) 289 w1 hRN h1
    unfold PcRet at h2
    rw [hL] at h2
    exact h2
  have hpc : piecesT T = [] ++ ((entN (lenT T) 289 0, 9) :: entP (lenT T) 289 0) ++ T.flatMap (tokP (lenT T)) ++ [pieceW (lenT T) 288] := by
    unfold piecesT
    simp
  have hpl : ([] ++ ((entN (lenT T) 289 0, 9) :: entP (lenT T) 289 0)).length ≤ 100000 ∧ ([] ++ ((entN (lenT T) 289 0, 9) :: entP (lenT T) 289 0) ++ T.flatMap (tokP (lenT T))).length ≤ 1000000 := by
    have h1 : ∀ (L : List Nat) d i, (entP L d i).length ≤ 2 * d := fun L d => by
      induction d with
      | zero => intro i; simp [entP]
      | succ d ih =>
        intro i
        unfold entP
        have := ih (i + 1)
        split
        · omega
        · simp only [List.length_cons]; omega
    have h2 : ∀ (L : List Nat) (T : List (Nat × Int × Int)), (T.flatMap (tokP L)).length ≤ 2 * T.length := fun L T => by
      induction T with
      | nil => simp
      | cons t T ih =>
        rw [List.flatMap_cons, List.length_append, List.length_cons]
        have : (tokP L t).length ≤ 2 := by unfold tokP; split <;> simp
        omega
    have h3 := h1 (lenT T) 289 0
    have h4 := h2 (lenT T) T
    constructor
    · rw [List.nil_append, List.length_cons]; omega
    · rw [List.length_append, List.nil_append, List.length_cons]; omega
  generalize lenT T = L at *
  have HF := Lib.hid hF
  have HLE := Lib.hid hLe
  have HCO := Lib.hid hCo
  have HPC := Lib.hid hpc
  have HPL := Lib.hid hpl
  have HS := Lib.hid hS
  have HOK := Lib.hid hok
  have H15 := Lib.hid h15
  have HL := Lib.hid hL
  clear hF hLe hCo hpc hpl hS hok h15 hM hr hpos hRN hfl hL
  go_enter Try.func17, Try.ntmps17
  go_wp2_with fail
  refine HF.out.mono ?_
  rintro e w1 ⟨g1, rfl, hb1, hg1, hw1⟩
  have hLe := Lib.hid (HLE.out g1 w1 hb1)
  have HW1 := Lib.hid hw1
  clear hb1 hg1 hw1 HLE HF
  go_wp2_with fail
  refine hLe.out.mono ?_
  rintro e w2 ⟨g2, rfl, hb2, hg2, hw2⟩
  have hCo := Lib.hid (HCO.out g2 w2 hb2)
  have HW2 := Lib.hid (HW1.out.trans (hw2.mono HW1.out.size))
  have HB2 := Lib.hid hb2
  clear hb2 hg2 hw2 hLe HCO HW1
  go_wp2_with fail
  refine hCo.out.mono ?_
  rintro e w3 ⟨g3, rfl, hb3, hg3, hw3⟩
  have HW3 := Lib.hid (HW2.out.trans (hw3.mono HW2.out.size))
  have HB2' := Lib.hid (HB2.out.below hw3 HB2.out.lt)
  have HB3 := Lib.hid hb3
  clear hb3 hg3 hw3 hCo HW2 HB2
  obtain ⟨w4, hw4⟩ : ∃ w4, w3.alloc (.cells #[.slice (some ⟨g3, 0, none⟩) 289 289] 45) = w4 := ⟨_, rfl⟩
  obtain ⟨w5, hw5⟩ : ∃ w5, w4.alloc (.cells #[.slice none 0 0] 45) = w5 := ⟨_, rfl⟩
  have hz4 : w4.heap.size = w3.heap.size + 1 := by rw [← hw4]; simp
  obtain ⟨M, hMM⟩ : ∃ M, w3.heap.size + 1 = M := ⟨_, rfl⟩
  obtain ⟨Wd, hWd⟩ : ∃ Wd, w3.heap.size = Wd := ⟨_, rfl⟩
  have hb34 : Below w3.heap.size w3 w4 := by rw [← hw4]; exact (Below.refl _ _).alloc (Nat.le_refl _) _
  have hWb : Blk w4 Wd 45 [.slice (some ⟨g3, 0, none⟩) 289 289] := by rw [← hw4, ← hWd]; exact Blk.new' w3 _ _ rfl
  have hG4 := sl_pcW 289 (HB3.out.below hb34 HB3.out.lt)
  rw [HL.out] at hG4
  have hL4 := (HB2'.out.below hb34 HB2'.out.lt).slN 289
  rw [HL.out] at hL4
  have hPU : PU w4 w5 M (.slice none 0 0) [] := ⟨by rw [← hw5, ← hMM, ← hz4]; exact Blk.new' w4 _ _ rfl, OwnR.nil _ _ _ _, by rw [← hw5]; exact (Below.refl _ _).alloc (Nat.le_refl _) _, by omega⟩
  have hB4 := HW3.out.trans (hb34.mono HW3.out.size)
  have hS4 := HS.out.below hB4
  have hWL := q_writeLengths hPU (by simp) L (some ⟨g2, 0, none⟩) 289 HL.out H15.out hL4
  have hWT := fun w6 mv6 (h : PU w4 w6 M mv6 ([] ++ ((entN L 289 0, 9) :: entP L 289 0))) => q_writeTokens h HPL.out.1 L Wd g3 HL.out (by rw [HL.out]; exact hWb) (by rw [HL.out]; exact hG4) T p cap (by omega) HOK.out hS4
  have hPS := fun w7 mv7 (h : PU w4 w7 M mv7 ([] ++ ((entN L 289 0, 9) :: entP L 289 0) ++ T.flatMap (tokP L))) => q_putSymbol h HPL.out.2 Wd g3 L 288 (by rw [HL.out]; omega) (by rw [HL.out]; omega) (by rw [HL.out]; exact hWb) (by rw [HL.out]; exact hG4)
  have HW4 := Lib.hid hw4
  have HW5 := Lib.hid hw5
  have HMM := Lib.hid hMM
  have HWD := Lib.hid hWd
  have HWL := Lib.hid hWL
  have HWT := Lib.hid hWT
  have HPS := Lib.hid hPS
  have HB4 := Lib.hid hB4
  clear hw4 hw5 hz4 hMM hWd hb34 hWb hG4 hL4 hPU hB4 hS4 hWL hWT hPS
  go_wp2_with fail
  rw [HW4.out, HW5.out, HMM.out, HWD.out]
  refine HWL.out.mono ?_
  rintro e w6 ⟨rfl, mv6, h6⟩
  have hT6 := Lib.hid (HWT.out w6 mv6 h6)
  clear h6 HWL HWT
  go_wp2_with fail
  refine hT6.out.mono ?_
  rintro e w7 ⟨rfl, mv7, h7⟩
  have hP7 := Lib.hid (HPS.out w7 mv7 h7)
  clear h7 HPS hT6
  go_wp2_with fail
  refine hP7.out.mono ?_
  rintro e w8 ⟨rfl, _, mv8, h8⟩
  have c8 := h8.blk.cell 0
  simp only [List.getElem?_cons_zero] at c8
  obtain ⟨pa8, ca8, hv8⟩ := h8.own.isSlice
  have HPC8 : Hid (OwnR w8 w.heap.size 70 2 mv8 (rowsP (piecesT T))) := Lib.hid (by rw [HPC.out]; exact h8.own.mono HB4.out.size)
  have HB8 : Hid (Below w.heap.size w w8) := Lib.hid (HB4.out.trans (h8.below.mono HB4.out.size))
  obtain ⟨N8, hN8⟩ : ∃ N8, (rowsP ([] ++ ((entN L 289 0, 9) :: entP L 289 0) ++ T.flatMap (tokP L) ++ [pieceW L 288])).length = N8 := ⟨_, rfl⟩
  rw [hN8] at hv8
  clear h8 hP7 hN8
  subst hv8
  go_wp2
  go_ret
  exact ⟨_, rfl, HPC8.out, HB8.out⟩
/-- what a text is squeezed to -/
def sqzW (s : List Nat) : List Nat := bytesB (bitsP (piecesT (splitW s s.length 0)))
theorem split_ok {s : List Nat} (h : Bys s) : ∀ t ∈ splitW s s.length 0, okT t := fun t ht => splitW_tok h s.length 0 t ht
theorem pieces_u32 {T : List (Nat × Int × Int)} (hok : ∀ t ∈ T, okT t) (hl : T.length ≤ 4096) : ∀ q ∈ piecesT T, q.1 < 4294967296 := fun q hq => by
  obtain ⟨h1, h2, h3⟩ := piecesT_may hok hl q hq
  have : 2 ^ q.2.toNat ≤ 2 ^ 24 := Nat.pow_le_pow_right (by decide) (by omega)
  omega
set_option maxRecDepth 100000 in
set_option maxHeartbeats 1000000 in
theorem q_Squeeze (s : ByteArray) (w : World) (hs : s.size ≤ 4096) :
    Calls Try.prog 10 #[.string s] w fun e w' => e = .returned (.tuple #[.string (tx (sqzW (sl s))), .int .i64 0]) ∧ Below w.heap.size w w' := by
  have hok := split_ok (sl_bys s)
  have hSp := p_Split s w (by omega)
  have hTl := splitW_len (sl s) s.size 0
  have hsq : sqzW (sl s) = bytesB (bitsP (piecesT (splitW (sl s) s.size 0))) := by unfold sqzW; rw [sl_len]
  rw [sl_len] at hok hTl
  rw [hsq]
  obtain ⟨T, hT⟩ : ∃ T, splitW (sl s) s.size 0 = T := ⟨_, rfl⟩
  rw [hT] at hok hSp hTl ⊢
  have hTl' : T.length ≤ 4096 := by omega
  have hm := piecesT_may hok hTl'
  have hu := pieces_u32 hok hTl'
  have hz := pieces_size hok hTl'
  have hWr := fun p cap w1 (h : Sl w1 3 (.slice p T.length cap) (rowsTk T)) => q_written T p cap w1 hTl' hok h
  have hPk := fun p cap w2 (h : Sl w2 2 (.slice p (piecesT T).length cap) (rowsP (piecesT T))) (hl : (piecesT T).length ≤ 1000000) => i_Pack (piecesT T) p cap w2 hl hu h (tx (bytesB (bitsP (piecesT T)))) 0 (.inl ⟨hm, rfl, rfl⟩)
  have hpl : (piecesT T).length ≤ 1000000 := by
    have h1 : ∀ (L : List Nat) d i, (entP L d i).length ≤ 2 * d := fun L d => by
      induction d with
      | zero => intro i; simp [entP]
      | succ d ih =>
        intro i
        unfold entP
        have := ih (i + 1)
        split
        · omega
        · simp only [List.length_cons]; omega
    have h2 : ∀ (L : List Nat) (T : List (Nat × Int × Int)), (T.flatMap (tokP L)).length ≤ 2 * T.length := fun L T => by
      induction T with
      | nil => simp
      | cons t T ih =>
        rw [List.flatMap_cons, List.length_append, List.length_cons]
        have : (tokP L t).length ≤ 2 := by unfold tokP; split <;> simp
        omega
    have h3 := h1 (lenT T) 289 0
    have h4 := h2 (lenT T) T
    unfold piecesT
    rw [List.length_cons, List.length_append, List.length_append, List.length_singleton]
    omega
  obtain ⟨N, hN⟩ : ∃ N, T.length = N := ⟨_, rfl⟩
  obtain ⟨K, hK⟩ : ∃ K, (piecesT T).length = K := ⟨_, rfl⟩
  obtain ⟨z, hzz⟩ : ∃ z, tx (bytesB (bitsP (piecesT T))) = z := ⟨_, rfl⟩
  rw [hN] at hWr
  rw [hK] at hPk hpl
  rw [hzz] at hPk ⊢
  have g1 : ¬ (4096 : Int) < (s.size : Int) := by omega
  have HSP := Lib.hid hSp
  have HWR := Lib.hid hWr
  have HPK := Lib.hid hPk
  have HN := Lib.hid hN
  have HK := Lib.hid hK
  clear hok hSp hTl hsq hT hm hu hz hWr hPk hN hK hzz
  go_enter Try.func10, Try.ntmps10
  go_wp2_with fail
  refine HSP.out.mono ?_
  rintro e w1 ⟨v1, rfl, ho1, hb1⟩
  obtain ⟨p1, c1, hv1⟩ := ho1.isSlice
  rw [rowsTk_len, HN.out] at hv1
  have hs1 := ho1.sl
  rw [hv1] at hs1
  have hW := Lib.hid (HWR.out p1 c1 w1 hs1)
  have HB1 := Lib.hid hb1
  clear ho1 hs1 hb1 HWR HSP
  subst hv1
  go_wp2_with fail
  refine hW.out.mono ?_
  rintro e w2 ⟨v2, rfl, ho2, hb2⟩
  obtain ⟨p2, c2, hv2⟩ := ho2.isSlice
  rw [rowsP_len, HK.out] at hv2
  have hs2 := ho2.sl
  rw [hv2] at hs2
  have hP := Lib.hid (HPK.out p2 c2 w2 hs2 hpl)
  have HB2 := Lib.hid (HB1.out.trans (hb2.mono HB1.out.size))
  clear ho2 hs2 hb2 HPK hW HB1
  subst hv2
  go_wp2_with fail
  refine hP.out.mono ?_
  rintro e w3 ⟨rfl, hb3⟩
  have HB3 := Lib.hid (HB2.out.trans (hb3.mono HB2.out.size))
  clear hb3 hP
  go_wp2
  go_ret2
  exact ⟨rfl, HB3.out⟩
theorem q_Squeeze_cap (s : ByteArray) (w : World) (hs : 4096 < s.size) (h1 : s.size ≤ maxLen) :
    Calls Try.prog 10 #[.string s] w fun e w' => e = .returned (.tuple #[.string ⟨#[]⟩, .int .i64 90]) ∧ Below w.heap.size w w' := by
  have g1 : (4096 : Int) < (s.size : Int) := by omega
  go_enter Try.func10, Try.ntmps10
  go_wp2
  go_ret2
  exact ⟨rfl, Below.refl _ _⟩
end Go.Proofs.Ytpjihjbgihionaa
namespace Go.Proofs.Ytpjihjbgihionaa
open Go.RowKit
set_option linter.unusedVariables false

theorem nat_u16 (x : Int) (h : (Lit.int .u16 x).wf = true) : ∃ n : Nat, x = (n : Int) ∧ n < 65536 := by
  have := bounds_u16 h
  exact ⟨x.toNat, by omega, by omega⟩
theorem sqz_bys (s : List Nat) : Bys (sqzW s) := bytesB_bys (bitsP_01 _)
theorem sqz_len {s : List Nat} (hb : Bys s) (hl : s.length ≤ 4096) : 1 ≤ (sqzW s).length ∧ (sqzW s).length ≤ 20000 := by
  have hok := split_ok hb
  have hTl := splitW_len s s.length 0
  have hm := piecesT_may hok (by omega)
  have h1 := size_pack hm
  have h2 := pieces_bytes hok (by omega)
  unfold sqzW
  refine ⟨?_, by omega⟩
  rw [h1]
  have h3 : 9 ≤ sizeP (piecesT (splitW s s.length 0)) := by
    unfold piecesT
    rw [sizeP_cons (hm _ (by unfold piecesT; exact List.mem_cons_self ..))]
    show 9 ≤ 9 + _
    omega
  omega
theorem sqz_back {s : List Nat} (hb : Bys s) (hl : s.length ≤ 4096) {most : Int} (hm : (s.length : Int) ≤ most) : expandP (sqzW s) most = (s, 0) := by
  have hTl := splitW_len s s.length 0
  unfold sqzW
  rw [expand_pack (split_ok hb) (by omega) most]
  exact join_split hm s.length 0 (Nat.zero_le _) (by omega)
theorem sqz_over {s : List Nat} (hb : Bys s) (hl : s.length ≤ 4096) (h0 : 0 < s.length) : expandP (sqzW s) ((s.length : Int) - 1) = ([], 90) := by
  have hTl := splitW_len s s.length 0
  unfold sqzW
  rw [expand_pack (split_ok hb) (by omega)]
  exact join_over (by omega) s.length 0 h0 (by omega)
theorem sqz_cut {s : List Nat} (hb : Bys s) (hl : s.length ≤ 4096) {k : Nat} (hk : k < (sqzW s).length) : expandP ((sqzW s).take k) (s.length : Int) = ([], 40) := by
  have hTl := splitW_len s s.length 0
  have hj := join_split (s := s) (most := (s.length : Int)) (Int.le_refl _) s.length 0 (Nat.zero_le _) (by omega)
  unfold sqzW at hk ⊢
  exact expand_cut (split_ok hb) (by omega) (by rw [show ([] : List Nat) = s.take 0 from rfl, hj]) hk
theorem sqz_more {s x : List Nat} (hb : Bys s) (hl : s.length ≤ 4096) (hx : 1 ≤ x.length) : expandP (sqzW s ++ x) (s.length : Int) = ([], 42) := by
  have hTl := splitW_len s s.length 0
  have hj := join_split (s := s) (most := (s.length : Int)) (Int.le_refl _) s.length 0 (Nat.zero_le _) (by omega)
  unfold sqzW
  exact expand_more hx (split_ok hb) (by omega) (by rw [show ([] : List Nat) = s.take 0 from rfl, hj])
/-- the text that is squeezed is expanded -/
theorem q_back (s : ByteArray) (most : Int) (w : World) (hs : s.size ≤ 4096) (hm : (s.size : Int) ≤ most) (hm2 : most ≤ 8192) :
    Calls Try.prog 12 #[.string (tx (sqzW (sl s))), .int .i64 most] w fun e w' => e = .returned (.tuple #[.string s, .int .i64 0]) ∧ Below w.heap.size w w' := by
  have hl := sqz_len (sl_bys s) (by rw [sl_len]; exact hs)
  have h := q_Expand (tx (sqzW (sl s))) most w (by rw [tx_size]; omega) (by omega) hm2 (sl s) 0 (by rw [sl_tx (sqz_bys _)]; exact sqz_back (sl_bys s) (by rw [sl_len]; exact hs) (by rw [sl_len]; exact hm))
  refine h.mono ?_
  rintro e w' ⟨rfl, hb⟩
  exact ⟨by rw [tx_sl]; rfl, hb⟩
set_option maxRecDepth 100000 in
set_option maxHeartbeats 1000000 in
theorem l9_shown (w : World) :
    Calls Try.prog 9 #[] w fun e w' => e = .returned (.bool true) ∧ Below w.heap.size w w' := by
  have hA := fun w => q_Squeeze ⟨#[97, 98, 99, 97, 98, 99, 97, 98, 99]⟩ w (by decide)
  have hB := fun w => q_back ⟨#[97, 98, 99, 97, 98, 99, 97, 98, 99]⟩ 9 w (by decide) (by decide) (by decide)
  generalize tx (sqzW (sl ⟨#[97, 98, 99, 97, 98, 99, 97, 98, 99]⟩)) = Z at *
  have HA := Lib.hid hA
  have HB := Lib.hid hB
  clear hA hB
  go_enter Try.func9, Try.ntmps9
  go_wp2_with (first | (go_at_call 10; (with_reducible refine (HA.out _).mono ?_); rintro e w3 ⟨rfl, hb3⟩) | (go_at_call 12; (with_reducible refine (HB.out _).mono ?_); rintro e w4 ⟨rfl, hb4⟩))
  go_ret
  exact ⟨rfl, hb3.trans (hb4.mono hb3.size)⟩
end Go.Proofs.Ytpjihjbgihionaa
