/- Walk of the reference's Next. -/
import Derived.Test.YtleofmeejjikmaaC3
import Derived.Test.YtleofmeejjikmaaS1
import Derived.Test.YtleofmeejjikmaaG1
import Derived.Maps.AppendAt
namespace Go.Proofs.Ytleofmeejjikmaa
open Go.RowKit
set_option linter.unusedVariables false

set_option maxHeartbeats 2000000 in
set_option maxRecDepth 100000 in
theorem r_Next (c : List Nat) (N : Nat) (w : World) (hc : c.length = 16) (hcb : Bys c) (hN : N < 2 ^ 64) :
    Calls Try.prog 36 #[.agg (ints .u8 (nn c)).toArray, .int .u64 (N : Int)] w fun e w' => e = .returned (.agg (ints .u8 (nn (nextL c N))).toArray) ∧ Below w.heap.size w w' := by
  obtain ⟨L, hL⟩ : ∃ L, nextL c N = L := ⟨_, rfl⟩
  have hLL : L.length = 16 := by rw [← hL]; exact nextL_len _ _
  have hall := nxP_all c N
  rw [hL] at hall ⊢
  have HL := Lib.hid hall
  have HLL := Lib.hid hLL
  have hz := nxP_zero hc N
  have HZ := Lib.hid hz
  clear hall hLL hc hL hz
  have k0 : Blk ((w.alloc (.cells (ints .u8 (nn c)).toArray 34)).alloc (.cells (ints .u8 (nn (zerN 16))).toArray 34)) w.heap.size 34 (ints .u8 (nn (nxP c N 0))) := by
    rw [HZ.out]; exact (Blk.new _ _ _).alloc _
  have k1 : Blk ((w.alloc (.cells (ints .u8 (nn c)).toArray 34)).alloc (.cells (ints .u8 (nn (zerN 16))).toArray 34)) (w.heap.size + 1) 34 (ints .u8 (nn (zerN 16))) := Blk.new2 _ _ _ _ rfl
  have kb : Below w.heap.size w ((w.alloc (.cells (ints .u8 (nn c)).toArray 34)).alloc (.cells (ints .u8 (nn (zerN 16))).toArray 34)) := ((Below.refl _ _).alloc (Nat.le_refl _) _).alloc (by simp) _
  go_enter Try.func36, Try.ntmps36
  go_wp2_with (refine wpList_alloc_at rfl 34 rfl _ _ (alloc_r16 _) ?_)
  generalize World.alloc (World.alloc w _) _ = w2 at *
  have n0 : N / 256 ^ 0 = N := by simp
  have c0 := cry_zero (num c) N
  go_loopw [1, 5, 6] (fun nv cv i wr => ∃ t : Nat, t ≤ 16 ∧ nv = .int .u64 ((N / 256 ^ t : Nat) : Int) ∧ cv = .int .u64 ((cry (num c) N t : Nat) : Int) ∧ i = .int .i64 (15 - (t : Int)) ∧ Blk wr w.heap.size 34 (ints .u8 (nn (nxP c N t))) ∧ Blk wr (w.heap.size + 1) 34 (ints .u8 (nn (zerN 16))) ∧ Below w.heap.size w wr) (fun _ _ i _ => (intOf i + 1).toNat)
  case atStart => exact ⟨0, by omega, by rw [n0], by rw [c0]; rfl, rfl, k0, k1, kb⟩
  case round =>
    obtain ⟨t, ht, rfl, rfl, rfl, g0, g1, gb⟩ := hrel
    clear k0 k1 kb n0 c0
    by_cases hlt : t < 16
    · have hs := nxP_succ hcb N t hlt
      have hcr := sumN_cry hcb N t hlt
      have hdv := div256 N t
      have hnv : N / 256 ^ t < 2 ^ 64 := Nat.lt_of_le_of_lt (Nat.div_le_self _ _) hN
      have hcl := cry_le (num c) N t
      have hsd : sumN c N t = c.getD (15 - t) 0 + N / 256 ^ t % 256 + cry (num c) N t := rfl
      have hcv := hcb (15 - t)
      have c1 := g0.nat (j := 15 - t) (by rw [nxP_len]; omega)
      rw [nxP_at c N t hlt] at c1
      have hfr := g0.free (15 - t)
      have Hs := Lib.hid hs
      have Hcr := Lib.hid hcr
      have Hdv := Lib.hid hdv
      clear hs hcr hdv
      generalize sumN c N t = S at *
      generalize N / 256 ^ t = nv at *
      generalize c.getD (15 - t) 0 = cv at *
      generalize cry (num c) N t = cr at *
      generalize nxP c N t = l at *
      have hnv1 : (nv : Int) < 18446744073709551616 := by omega
      have hnv2 : (0 : Int) ≤ (nv : Int) := by omega
      have f0 : IntKind.u64.wrap (cv : Int) = (cv : Int) := wraps_u64 _ (by omega) (by omega)
      have f1 := and255_64 nv hnv
      have f2 : IntKind.u64.wrap ((cv : Int) + ((nv % 256 : Nat) : Int)) = ((cv + nv % 256 : Nat) : Int) := wraps_u64 _ (by omega) (by omega)
      have f3 : IntKind.u64.wrap (((cv + nv % 256 : Nat) : Int) + (cr : Int)) = (S : Int) := by rw [wraps_u64 _ (by omega) (by omega)]; omega
      have f4 : IntKind.u8.wrap (S : Int) = ((S % 256 : Nat) : Int) := by rw [IntKind.wrap_u8]; rfl
      have e0 : (0 : Int) ≤ 15 - (t : Int) := by omega
      have e1 : (15 - (t : Int)).toNat = 15 - t := by omega
      have e2 : (15 : Int) - (t : Int) < 16 := by omega
      have e3 : (t : Int) ≤ 15 := by omega
      have e4 : IntKind.i64.wrap (15 - (t : Int) - 1) = 15 - ((t : Int) + 1) := by rw [IntWalk.i64_in _ (by omega)]; omega
      have hS := hsd
      clear hsd
      go_wp2
      go_roundw
      case rel =>
        refine ⟨t + 1, by omega, ?_, ?_, ?_, ?_, ?_, ?_⟩
        · rw [← Hdv.out]; go_num
        · rw [← Hcr.out]; go_num
        · go_num
        · rw [Hs.out]
          have q := g0.setNat (15 - t) (S % 256)
          rw [show ((S % 256 : Nat) : Int) = ((cv : Int) + (nv : Int) % 256 + (cr : Int)) % 256 by omega] at q
          exact q
        · exact g1.other (by simp <;> omega) _
        · exact gb.setCell (by simp <;> omega) _
      case measure => simp [intOf]; omega
    · obtain rfl : t = 16 := by omega
      have hE : Blk wr w.heap.size 34 (ints .u8 (nn L)) := by rw [← HL.out]; exact g0
      clear g0
      go_wp2_with (first | (refine wpList_load_blk rfl 34 _ rfl _ rfl hE Try.underlying34 rfl (by rw [size_r16, ints_length, nn_length, HLL.out]) ?_) | (refine wpList_store_blk rfl 34 _ _ rfl _ _ rfl rfl g1 (by rw [size_r16, ints_length, nn_length, HLL.out]) (by rw [ints_length, ints_length, nn_length, nn_length, HLL.out, zerN_len]) (ints_one _ _) ?_))
      refine bodyPost_ret (v := .agg (ints .u8 (nn L)).toArray) (results_cell_blk rfl _ _ _ rfl (g1.row (ints .u8 (nn L)) (by rw [ints_length, ints_length, nn_length, nn_length, HLL.out, zerN_len])) Try.underlying34 rfl (by rw [size_r16, ints_length, nn_length, HLL.out])) rfl ⟨rfl, below_setRow gb (by omega) _⟩
end Go.Proofs.Ytleofmeejjikmaa
namespace Go.Proofs.Ytleofmeejjikmaa
open Go.RowKit
set_option linter.unusedVariables false

theorem padL_snoc (key nc : List Nat) (k j : Nat) (hj : j < 16) : padL key nc (16 * k + j + 1) = padL key nc (16 * k + j) ++ [(padB key nc k).getD j 0] := by
  unfold padL
  rw [List.range_succ, List.map_append, List.map_singleton]
  unfold padF
  rw [show (16 * k + j) / 16 = k by omega, show (16 * k + j) % 16 = j by omega]
theorem OwnB.rowOther {w : World} {base : Nat} {e : TypeId} {v : Value} {l : List Int} (h : OwnB w base e v l) {b : Nat} (hb : ∀ i, v.ownBlock = some i → i ≠ b) (cs : Array Value) : OwnB (w.setRow b cs) base e v l := by
  obtain ⟨h1, h2⟩ := h
  refine ⟨h1, ?_⟩
  rcases h2 with h2 | ⟨g, cap, cur, hv, hg, hh, r⟩
  · exact .inl h2
  · refine .inr ⟨g, cap, cur, hv, hg, ?_, r⟩
    rw [setRow_other w b g cs (hb g (by rw [hv]; rfl))]
    exact hh
def lenOf : Value → Nat
  | .slice _ n _ => n
  | _ => 0
set_option maxRecDepth 100000 in
def R6 (w : World) (key nc E NX PB PM : List Nat) (N k m B7 : Nat) (p : Option Addr) (cap : Nat) (u11 u20 u21 u28 u29 u30 u31 u32 u33 u34 u35 u36 u37 u38 u39 u40 u41 u42 u43 u44 : Value) (x0 x1 x2 x3 x4 x5 x6 x7 : Bool) (a : Act) (W : World) : Prop :=
  ∃ u22 u23 u24 u25 u26 u27 u10 : Value, a = ⟨((Value.agg (ints .u8 (nn key)).toArray) :: (Value.agg (ints .u8 (nn nc)).toArray) :: (Value.int .i64 (N : Int)) :: (Value.pointer (some ⟨w.heap.size, 0, none⟩)) :: (Value.pointer (some ⟨w.heap.size + 1, 0, none⟩)) :: undef :: (Value.string ⟨#[]⟩) :: (Value.pointer (some ⟨B7, 0, none⟩)) :: (Value.slice p m cap) :: (Value.int .i64 (k : Int)) :: u10 :: u11 :: (Value.agg (ints .u8 (nn key)).toArray) :: (Value.agg (ints .u32 (nn E)).toArray) :: (Value.slice (some ⟨B7 + 1, 0, none⟩) 0 0) :: (Value.slice p m cap) :: (Value.int .i64 (m : Int)) :: (Value.int .i64 (N : Int)) :: (Value.int .i64 (N : Int)) :: (Value.bool true) :: u20 :: u21 :: u22 :: u23 :: u24 :: u25 :: u26 :: u27 :: u28 :: u29 :: u30 :: u31 :: u32 :: u33 :: u34 :: u35 :: u36 :: u37 :: u38 :: u39 :: u40 :: u41 :: u42 :: u43 :: u44 :: undef :: undef :: []).toArray, []⟩ ∧ Below w.heap.size w W ∧ Blk W (w.heap.size + 1) 34 (ints .u8 (nn nc)) ∧ Blk W (B7) 65 (ints .u32 (nn E)) ∧ OwnB W (B7 + 1) 5 (.slice p m cap) (nn PM) ∧ (x0 = true → u22 = .agg (ints .u32 (nn E)).toArray) ∧ (x1 = true → u23 = .agg (ints .u8 (nn nc)).toArray) ∧ (x2 = true → u24 = .int .i64 (k : Int)) ∧ (x3 = true → u25 = .int .u64 (k : Int)) ∧ (x4 = true → u26 = .agg (ints .u8 (nn NX)).toArray) ∧ (x5 = true → u27 = .agg (ints .u8 (nn PB)).toArray) ∧ (x7 = true → x6 = true) ∧ (x6 = true → ∃ b, (w.heap.size + 1 < b ∧ B7 < b ∧ (∀ i, (Value.slice p m cap).ownBlock = some i → i < b)) ∧ u10 = .pointer (some ⟨b, 0, none⟩) ∧ Blk W b 34 (if x7 = true then (ints .u8 (nn PB)) else (ints .u8 (nn (zerN 16)))))

set_option maxRecDepth 100000 in
set_option maxHeartbeats 1500000 in
theorem r_Pad (key nc : List Nat) (N : Nat) (w : World) (hk : key.length = 32) (hkb : Bys key) (hn : nc.length = 16) (hnb : Bys nc) (hN : N ≤ 65536) :
    Calls Try.prog 27 #[.agg (ints .u8 (nn key)).toArray, .agg (ints .u8 (nn nc)).toArray, .int .i64 (N : Int)] w fun e w' => e = .returned (.string (bs (nn (padL key nc N)))) ∧ Below w.heap.size w w' := by
  obtain ⟨PL, hPL⟩ : ∃ L, padL key nc N = L := ⟨_, rfl⟩
  rw [hPL]
  have HPL := Lib.hid hPL
  have lE : (expandL key).length = 60 := expandL_len _
  have wE : Words (expandL key) := ksN_words hkb 52 (by omega)
  have hX := fun w => r_Expand key w hk hkb
  have hNx := fun (i : Nat) w (hi : i < 2 ^ 64) => r_Next nc i w hn hnb hi
  have hEn := fun (i : Nat) w => r_Encrypt (expandL key) (nextL nc i) w lE wE (nextL_len _ _) (nextL_bys _ _)
  have hpb : ∀ i, encL (expandL key) (nextL nc i) = padB key nc i := fun _ => rfl
  have HPB := Lib.hid hpb
  have HX := Lib.hid hX
  have HNx := Lib.hid hNx
  have HEn := Lib.hid hEn
  have HK := Lib.hid hk
  have HN := Lib.hid hn
  have HE := Lib.hid lE
  obtain ⟨i0, hi0, hz0, hz1, hz2⟩ := info_parts info_u8
  clear hPL hX hNx hEn lE hk hn hpb wE
  generalize expandL key = E at *
  have n2 : (N : Int) ≤ 65536 := by omega
  have k0 : Blk ((w.alloc (.cells (ints .u8 (nn key)).toArray 29)).alloc (.cells (ints .u8 (nn nc)).toArray 34)) w.heap.size 29 (ints .u8 (nn key)) := (Blk.new _ _ _).alloc _
  have k1 : Blk ((w.alloc (.cells (ints .u8 (nn key)).toArray 29)).alloc (.cells (ints .u8 (nn nc)).toArray 34)) (w.heap.size + 1) 34 (ints .u8 (nn nc)) := Blk.new2 _ _ _ _ rfl
  have kb : Below w.heap.size w ((w.alloc (.cells (ints .u8 (nn key)).toArray 29)).alloc (.cells (ints .u8 (nn nc)).toArray 34)) := ((Below.refl _ _).alloc (Nat.le_refl _) _).alloc (by simp) _
  go_enter Try.func27, Try.ntmps27
  go_wp2_with (refine wpList_load_blk rfl 29 _ rfl _ rfl k0 Try.underlying29 rfl (by rw [size_hash, ints_length, nn_length, HK.out]) ?_)
  refine (HX.out _).mono ?_
  rintro e w1 ⟨rfl, hb1⟩
  have hlz : (ints .u32 (nn E)).length = (ints .u32 (nn (zerN 60))).length := by rw [ints_length, ints_length, nn_length, nn_length, HE.out, zerN_len]
  go_wp2_with (first | (refine wpList_alloc_at rfl 65 rfl _ _ (alloc_r60 w1) ?_) | (refine wpList_store_blk rfl 65 _ _ rfl w1.heap.size (ints .u32 (nn E)) rfl rfl (Blk.new' w1 65 (ints .u32 (nn (zerN 60))) rfl) (by rw [size_r60, ints_length, nn_length, HE.out]) hlz.symm (ints_one _ _) ?_))
  have W3s : ((w1.alloc (.cells (ints .u32 (nn (zerN 60))).toArray 65)).setRow w1.heap.size (ints .u32 (nn E)).toArray).heap.size = w1.heap.size + 1 := by simp
  have q1 := (((k1.below hb1 k1.lt).alloc (.cells (ints .u32 (nn (zerN 60))).toArray 65)).rowOther (show w.heap.size + 1 ≠ w1.heap.size by have := k1.lt; have := hb1.size; omega) (ints .u32 (nn E)).toArray).alloc (.cells #[] 5)
  have q7 := ((Blk.new' w1 65 (ints .u32 (nn (zerN 60))) rfl).row (ints .u32 (nn E)) hlz).alloc (.cells #[] 5)
  have qe := Blk.new' ((w1.alloc (.cells (ints .u32 (nn (zerN 60))).toArray 65)).setRow w1.heap.size (ints .u32 (nn E)).toArray) 5 (c := #[]) (ints .u8 (nn [] ++ [])) rfl
  rw [W3s] at qe
  have qo := OwnB.ofBlk (base := w1.heap.size + 1) (cap := 0) [] qe (Nat.le_refl _) rfl (Nat.zero_le _)
  have qs := hb1.size
  have qk := kb.size
  have qb := (below_setRow ((kb.trans (hb1.mono kb.size)).alloc (by omega) (.cells (ints .u32 (nn (zerN 60))).toArray 65)) (show w.heap.size ≤ w1.heap.size by omega) (ints .u32 (nn E)).toArray).alloc (by simp; omega) (.cells #[] 5)
  have hw1 : w.heap.size + 1 < w1.heap.size := by have := k1.lt; omega
  clear k0 k1 kb hb1 hlz qe W3s qs qk HX
  generalize World.alloc _ (.cells #[] 5) = w3 at *
  generalize w1.heap.size = B7 at *
  go_loopw [8, 9] (fun v i wr => ∃ (k m : Nat) (p : Option Addr) (cap : Nat), i = .int .i64 (k : Int) ∧ v = .slice p m cap ∧ OwnB wr (B7 + 1) 5 (.slice p m cap) (nn (padL key nc m)) ∧ m ≤ N ∧ (m = 16 * k ∨ m = N) ∧ k ≤ 4096 ∧ Blk wr (w.heap.size + 1) 34 (ints .u8 (nn nc)) ∧ Blk wr B7 65 (ints .u32 (nn E)) ∧ Below w.heap.size w wr) (fun v _ _ => N - lenOf v)
  case atStart => exact ⟨0, 0, _, 0, rfl, rfl, qo, by omega, by omega, by omega, q1, q7, qb⟩
  case round =>
    obtain ⟨k, m, p, cap, rfl, rfl, jo, hm, hkm, hk, j0, j1, jb⟩ := hrel
    clear qo q1 q7 qb
    by_cases hlt : m < N
    · have hk16 : m = 16 * k := by omega
      have d1 : (m : Int) < (N : Int) := by omega
      have d2 : (0 : Int) ≤ (k : Int) := by omega
      have d3 : (k : Int) < 65536 := by omega
      have hN1 := fun w => HNx.out k w (by omega)
      have hE1 := fun w => HEn.out k w
      rw [HPB.out] at hE1
      have hpl := padB_len key nc k
      have HPBL := Lib.hid hpl
      have HN1 := Lib.hid hN1
      have HE1 := Lib.hid hE1
      have HKM := Lib.hid hkm
      clear hN1 hE1 hpl hkm
      have hsn := fun j hj => padL_snoc key nc k j hj
      have HSN := Lib.hid hsn
      clear hsn
      obtain ⟨PM, hPM⟩ : ∃ L, padL key nc m = L := ⟨_, rfl⟩
      rw [hPM] at jo
      obtain ⟨PB, hPB⟩ : ∃ L, padB key nc k = L := ⟨_, rfl⟩
      rw [hPB] at HPBL HE1
      obtain ⟨NX, hNX⟩ : ∃ L, nextL nc k = L := ⟨_, rfl⟩
      rw [hNX] at HN1 HE1
      have HPM := Lib.hid hPM
      have HPBe := Lib.hid hPB
      have HK16 := Lib.hid hk16
      clear hPM hPB hNX hk16
      go_wp2_with fail
      refine region_inv mixedO (by kernel_rfl) (fun L a W => R6 w key nc E NX PB PM N k m B7 p cap u11 u20 u21 u28 u29 u30 u31 u32 u33 u34 u35 u36 u37 u38 u39 u40 u41 u42 u43 u44 (L 0) (L 1) (L 2) (L 3) (L 4) (L 5) (L 6) (L 7) a W) ?start ?ext ?step ?end_
      case start =>
        exact ⟨_, _, _, _, _, _, _, rfl, jb.drew, j0.drew, j1.drew, jo.drew, (fun h => by cases h), (fun h => by cases h), (fun h => by cases h), (fun h => by cases h), (fun h => by cases h), (fun h => by cases h), (fun h => by cases h), (fun h => by cases h)⟩
      case ext =>
        intro L L' a W hE hI
        have e0 := hE 0 (by decide)
        have e1 := hE 1 (by decide)
        have e2 := hE 2 (by decide)
        have e3 := hE 3 (by decide)
        have e4 := hE 4 (by decide)
        have e5 := hE 5 (by decide)
        have e6 := hE 6 (by decide)
        have e7 := hE 7 (by decide)
        rw [e0, e1, e2, e3, e4, e5, e6, e7] at hI
        exact hI
      case step =>
        intro L a W i o hI ho hL hdep
        obtain ⟨u22, u23, u24, u25, u26, u27, u10, rfl, hb, g0, g1, ge0, h0, h1, h2, h3, h4, h5, hsa, hal⟩ := hI
        rcases i with _ | _ | _ | _ | _ | _ | _ | _ | i
        · simp only [List.getElem?_cons_zero, Option.some.injEq] at ho
          subst ho
          refine wpList_load_blk rfl 65 _ rfl _ rfl g1 Try.underlying65 rfl (by rw [size_r60, ints_length, nn_length, HE.out]) ?_
          refine wpList_nil ?_
          refine ⟨_, _, _, _, _, _, _, rfl, hb, g0, g1, ge0, fun _ => rfl, fun h => h1 (by simpa using h), fun h => h2 (by simpa using h), fun h => h3 (by simpa using h), fun h => h4 (by simpa using h), fun h => h5 (by simpa using h), fun h => by simpa using hsa (by simpa using h), ?_⟩
          intro h
          have hx := hal (by simpa using h)
          simpa using hx
        · simp only [List.getElem?_cons_zero, List.getElem?_cons_succ, Option.some.injEq] at ho
          subst ho
          refine wpList_load_blk rfl 34 _ rfl _ rfl g0 Try.underlying34 rfl (by rw [size_r16, ints_length, nn_length, HN.out]) ?_
          refine wpList_nil ?_
          refine ⟨_, _, _, _, _, _, _, rfl, hb, g0, g1, ge0, fun h => h0 (by simpa using h), fun _ => rfl, fun h => h2 (by simpa using h), fun h => h3 (by simpa using h), fun h => h4 (by simpa using h), fun h => h5 (by simpa using h), fun h => by simpa using hsa (by simpa using h), ?_⟩
          intro h
          have hx := hal (by simpa using h)
          simpa using hx
        · simp only [List.getElem?_cons_zero, List.getElem?_cons_succ, Option.some.injEq] at ho
          subst ho
          go_wp2_with fail
          refine ⟨_, _, _, _, _, _, _, rfl, hb, g0, g1, ge0, fun h => h0 (by simpa using h), fun h => h1 (by simpa using h), fun _ => rfl, fun h => h3 (by simpa using h), fun h => h4 (by simpa using h), fun h => h5 (by simpa using h), fun h => by simpa using hsa (by simpa using h), ?_⟩
          intro h
          have hx := hal (by simpa using h)
          simpa using hx
        · simp only [List.getElem?_cons_zero, List.getElem?_cons_succ, Option.some.injEq] at ho
          subst ho
          have dp2 := hdep ⟨2, .data⟩ (by simp) rfl
          obtain rfl := h2 dp2
          go_wp2_with fail
          refine ⟨_, _, _, _, _, _, _, rfl, hb, g0, g1, ge0, fun h => h0 (by simpa using h), fun h => h1 (by simpa using h), fun _ => rfl, fun _ => rfl, fun h => h4 (by simpa using h), fun h => h5 (by simpa using h), fun h => by simpa using hsa (by simpa using h), ?_⟩
          intro h
          have hx := hal (by simpa using h)
          simpa using hx
        · simp only [List.getElem?_cons_zero, List.getElem?_cons_succ, Option.some.injEq] at ho
          subst ho
          have dp1 := hdep ⟨1, .data⟩ (by simp) rfl
          obtain rfl := h1 dp1
          have dp3 := hdep ⟨3, .data⟩ (by simp) rfl
          obtain rfl := h3 dp3
          go_wp2_with (go_at_call 36; (with_reducible refine (HN1.out _).mono ?_); rintro e W' ⟨rfl, hb'⟩)
          refine ⟨_, _, _, _, _, _, _, rfl, hb.trans (hb'.mono hb.size), g0.below hb' g0.lt, g1.below hb' g1.lt, ge0.keep hb', fun h => h0 (by simpa using h), fun _ => rfl, fun h => h2 (by simpa using h), fun _ => rfl, fun _ => rfl, fun h => h5 (by simpa using h), fun h => by simpa using hsa (by simpa using h), ?_⟩
          intro h
          obtain ⟨b, q1, q2, q3⟩ := hal (by simpa using h)
          exact ⟨b, q1, q2, by simpa using q3.below hb' q3.lt⟩
        · simp only [List.getElem?_cons_zero, List.getElem?_cons_succ, Option.some.injEq] at ho
          subst ho
          have dp0 := hdep ⟨0, .data⟩ (by simp) rfl
          obtain rfl := h0 dp0
          have dp4 := hdep ⟨4, .data⟩ (by simp) rfl
          obtain rfl := h4 dp4
          go_wp2_with (go_at_call 35; (with_reducible refine (HE1.out _).mono ?_); rintro e W' ⟨rfl, hb'⟩)
          refine ⟨_, _, _, _, _, _, _, rfl, hb.trans (hb'.mono hb.size), g0.below hb' g0.lt, g1.below hb' g1.lt, ge0.keep hb', fun _ => rfl, fun h => h1 (by simpa using h), fun h => h2 (by simpa using h), fun h => h3 (by simpa using h), fun _ => rfl, fun _ => rfl, fun h => by simpa using hsa (by simpa using h), ?_⟩
          intro h
          obtain ⟨b, q1, q2, q3⟩ := hal (by simpa using h)
          exact ⟨b, q1, q2, by simpa using q3.below hb' q3.lt⟩
        · simp only [List.getElem?_cons_zero, List.getElem?_cons_succ, Option.some.injEq] at ho
          subst ho
          refine wpList_alloc_at rfl 34 rfl _ _ (alloc_r16 _) ?_
          refine wpList_nil ?_
          have hsf : L 7 = false := by cases hh : L 7 with | false => rfl | true => exact absurd (hsa hh) (by rw [hL]; decide)
          have hbs := hb.size
          have hlt0 := g0.lt
          have hlt1 := g1.lt
          refine ⟨_, _, _, _, _, _, _, rfl, hb.alloc hb.size _, g0.alloc _, g1.alloc _, ge0.alloc _, fun h => h0 (by simpa using h), fun h => h1 (by simpa using h), fun h => h2 (by simpa using h), fun h => h3 (by simpa using h), fun h => h4 (by simpa using h), fun h => h5 (by simpa using h), fun _ => by simp, ?_⟩
          intro h
          refine ⟨W.heap.size, ⟨by omega, by omega, fun i hi => (ge0.lt i hi).2⟩, rfl, ?_⟩
          have hz := Blk.new' W 34 (ints .u8 (nn (zerN 16))) rfl
          simpa [hsf] using hz
        · simp only [List.getElem?_cons_zero, List.getElem?_cons_succ, Option.some.injEq] at ho
          subst ho
          have dp5 := hdep ⟨5, .data⟩ (by simp) rfl
          obtain rfl := h5 dp5
          have hdA := hdep ⟨6, .data⟩ (by simp) rfl
          obtain ⟨b, q1, rfl, q3⟩ := hal hdA
          rw [if_neg (by rw [hL]; decide)] at q3
          refine wpList_store_blk rfl 34 _ _ rfl b (ints .u8 (nn PB)) rfl rfl q3 (by rw [size_r16, ints_length, nn_length, HPBL.out]) (by rw [ints_length, ints_length, nn_length, nn_length, HPBL.out, zerN_len]) (ints_one _ _) ?_
          refine wpList_nil ?_
          refine ⟨_, _, _, _, _, _, _, rfl, below_setRow hb (by omega) _, g0.rowOther (by omega) _, g1.rowOther (by omega) _, OwnB.rowOther ge0 (fun i hi => Nat.ne_of_lt (q1.2.2 i hi)) _, fun h => h0 (by simpa using h), fun h => h1 (by simpa using h), fun h => h2 (by simpa using h), fun h => h3 (by simpa using h), fun h => h4 (by simpa using h), fun h => h5 (by simpa using h), fun _ => by simpa using hdA, ?_⟩
          intro h
          refine ⟨b, q1, rfl, ?_⟩
          have hz := q3.row (ints .u8 (nn PB)) (by rw [ints_length, ints_length, nn_length, nn_length, HPBL.out, zerN_len])
          simpa using hz
        · simp at ho
      case end_ =>
        rintro a W ⟨u22, u23, u24, u25, u26, u27, u10, rfl, hb, g0, g1, ge0, h0, h1, h2, h3, h4, h5, hsa, hal⟩
        obtain rfl := h0 rfl
        obtain rfl := h1 rfl
        obtain rfl := h2 rfl
        obtain rfl := h3 rfl
        obtain rfl := h4 rfl
        obtain rfl := h5 rfl
        obtain ⟨bB, hbA, rfl, hBA⟩ := hal rfl
        rw [if_pos rfl] at hBA
        clear hsa hal
        obtain ⟨hs1, hs7, hsv⟩ := hbA
        have hPJ := HPM.out
        change wpList Try.prog #[] (Exit.then _ _) [] _ _
        go_wp2_with fail
        have f1 := fun i hi => Nat.ne_of_lt (hsv i hi)
        clear j0 j1 jo jb hsv
        rw [← hPJ] at ge0
        clear hPJ
        obtain ⟨wo, hwo⟩ : ∃ wo : World, wo = W := ⟨_, rfl⟩
        clear hwo
        go_loopw [8, 11] (fun v jv wr => ∃ (j : Nat) (p : Option Addr) (cap : Nat), jv = .int .i64 (j : Int) ∧ v = .slice p (m + j) cap ∧ OwnB wr (B7 + 1) 5 (.slice p (m + j) cap) (nn (padL key nc (m + j))) ∧ j ≤ 16 ∧ m + j ≤ N ∧ (∀ i, (Value.slice p (m + j) cap).ownBlock = some i → i ≠ bB) ∧ Blk wr (w.heap.size + 1) 34 (ints .u8 (nn nc)) ∧ Blk wr B7 65 (ints .u32 (nn E)) ∧ Blk wr bB 34 (ints .u8 (nn PB)) ∧ Below w.heap.size w wr) (fun _ jv _ => 16 - (intOf jv).toNat)
        case atStart => exact ⟨0, p, cap, rfl, rfl, ge0, by omega, hm, f1, g0, g1, hBA, hb⟩
        case round =>
          obtain ⟨j, p, cap, rfl, rfl, go, hj, hmj, hne, t1, t7, tb, gb⟩ := hrel
          clear ge0 f1 g0 g1 hBA hb
          have hbs := gb.size
          have hgl := fun i hi => (go.lt i hi).1
          by_cases hcont : j < 16 ∧ m + j < N
          · obtain ⟨c16, cN⟩ := hcont
            have hpl := HPBL.out
            have cb := tb.nat (j := j) (by rw [hpl]; exact c16)
            have hsn := HSN.out j c16
            rw [← HK16.out, HPBe.out] at hsn
            have hll : (nn (padL key nc (m + j))).length = m + j := by rw [nn_length, padL_len]
            have HSn := Lib.hid hsn
            clear hsn hpl
            generalize PB.getD j 0 = y at *
            obtain ⟨LJ, hLJ⟩ : ∃ L, padL key nc (m + j) = L := ⟨_, rfl⟩
            obtain ⟨LN, hLN⟩ : ∃ L, padL key nc (m + j + 1) = L := ⟨_, rfl⟩
            rw [hLJ] at go hll HSn
            rw [hLN] at HSn
            have HLN := Lib.hid hLN
            clear hLJ hLN
            have hrow : (wr.alloc (.cells #[.int .u8 (y : Int)] 5)).ownsRow (B7 + 1) 5 1 (.slice p (m + j) cap) (m + j) (ints .u8 (nn LJ)) := by
              have := go.alloc (.cells #[.int .u8 (y : Int)] 5)
              unfold OwnB at this
              rw [hll] at this
              exact this
            have hnew : ∀ jj u, [Value.int .u8 (y : Int)][jj]? = some u → (wr.alloc (.cells #[.int .u8 (y : Int)] 5)).cell? ((⟨wr.heap.size, 0, none⟩ : Addr).add jj) = some u := fun jj u h => by
              rw [Addr.add_mid]
              exact (Blk.new' wr 5 [Value.int .u8 (y : Int)] rfl).whole jj u h
            have hone : ∀ u ∈ [Value.int .u8 (y : Int)], u.oneCell' = true := by simp [Value.oneCell']
            have h63 : m + j + 1 ≤ maxLen := by simp [maxLen]; omega
            have hbyy : (m + j + 1) * 1 ≤ 140737488355328 := by omega
            have hbase : B7 + 1 ≤ (wr.alloc (.cells #[.int .u8 (y : Int)] 5)).heap.size := by have := tb.lt; simp; omega
            have k1 := t1.alloc (.cells #[.int .u8 (y : Int)] 5)
            have k7 := t7.alloc (.cells #[.int .u8 (y : Int)] 5)
            have kbb := tb.alloc (.cells #[.int .u8 (y : Int)] 5)
            have kw := gb.alloc hbs (.cells #[.int .u8 (y : Int)] 5)
            have hbl := tb.lt
            have e1 : (j : Int) < 16 := by omega
            have e2 : (m : Int) + (j : Int) < (N : Int) := by omega
            have HRow := Lib.hid hrow
            have HNew := Lib.hid hnew
            have HOne := Lib.hid hone
            have H63 := Lib.hid h63
            have HBY := Lib.hid hbyy
            have HBS := Lib.hid hbase
            have HLL := Lib.hid hll
            have Hcn := Lib.hid cN
            have HJ := Lib.hid (show j + 1 ≤ 16 ∧ m + (j + 1) ≤ N by omega)
            have Hgl := Lib.hid hgl
            have Hne := Lib.hid hne
            clear hrow hnew hone h63 hbyy hbase hll t1 t7 tb gb cN hgl hne
            go_wp2_with (at_builtin; refine wpList_append_own_at _ rfl _ _ 53 rfl (B7 + 1) 5 i0 (.int .u8 0) 1 1 Try.underlying53 hi0 hz0 hz1 hz2 rfl (by decide) _ (m + j) _ rfl HRow.out ⟨wr.heap.size, 0, none⟩ 1 1 [.int .u8 (y : Int)] rfl rfl HNew.out HOne.out H63.out HBY.out HBS.out ?_; intro v5 w5 hown5 hg5 hnil5 hat5; obtain ⟨p5, cap5, rfl⟩ := own_slice hown5)
            go_roundw
            case rel =>
              have o5 : OwnB w5 (B7 + 1) 5 (.slice p5 (m + (j + 1)) cap5) (nn (padL key nc (m + (j + 1)))) := by
                rw [show m + (j + 1) = m + j + 1 by omega, HLN.out, HSn.out]
                unfold OwnB
                rw [show nn (LJ ++ [y]) = nn LJ ++ [(y : Int)] by simp [nn], List.length_append, HLL.out, ints_app]
                exact hown5
              refine ⟨j + 1, p5, cap5, by go_num, by rw [show m + (j + 1) = m + j + 1 by omega], o5, HJ.out.1, HJ.out.2, ?_, k1.grownO hg5 (fun i hi => ?_), k7.grownO hg5 (fun i hi => ?_), kbb.grownO hg5 (fun i hi => Hne.out i hi), kw.grown hg5 kw.size (fun i hi => ?_)⟩
              · intro i hi
                rw [show m + (j + 1) = m + j + 1 by omega] at hi
                rcases hat5 with h5 | h5
                · rw [h5] at hi; exact Hne.out i hi
                · rw [h5] at hi
                  cases hi
                  simp
                  omega
              · have := Hgl.out i hi; omega
              · have := Hgl.out i hi; omega
              · have := Hgl.out i hi; omega
            case measure => simp [intOf]; omega
          · have hge : 1 ≤ j := by omega
            have hkk : m + j = 16 * (k + 1) ∨ m + j = N := by have := HK16.out; omega
            have hk1 : k + 1 ≤ 4096 := by have := HK16.out; omega
            have hms : N - (m + j) < N - m := by omega
            by_cases c16 : j < 16
            · have cN : m + j = N := by omega
              have e1 : (j : Int) < 16 := by omega
              have e2 : ¬ ((m : Int) + (j : Int) < (N : Int)) := by omega
              have HH := Lib.hid (And.intro hkk (And.intro hk1 hms))
              have HC := Lib.hid cN
              clear hkk hk1 hms cN hmj
              go_wp2
              go_roundw
              case rel => exact ⟨k + 1, m + j, p, cap, by go_num, rfl, go, by have := HC.out; omega, HH.out.1, HH.out.2.1, t1, t7, gb⟩
              case measure => simpa [lenOf] using HH.out.2.2
            · obtain rfl : j = 16 := by omega
              have HH := Lib.hid (And.intro hkk (And.intro hk1 hms))
              have HC := Lib.hid hmj
              clear hkk hk1 hms hmj
              go_wp2
              go_roundw
              case rel => exact ⟨k + 1, m + 16, p, cap, by go_num, rfl, go, HC.out, HH.out.1, HH.out.2.1, t1, t7, gb⟩
              case measure => simpa [lenOf] using HH.out.2.2
    · obtain rfl : m = N := by omega
      have hE := HPL.out
      rw [hE] at jo
      clear j0 j1
      go_wp2_with (refine wpList_string_own rfl 53 9 5 _ rfl (B7 + 1) _ _ rfl Try.underlying53 Try.underlying5 Try.underlying9 jo ?_)
      go_ret
      exact ⟨rfl, jb⟩
end Go.Proofs.Ytleofmeejjikmaa
namespace Go.Proofs.Ytleofmeejjikmaa
open Go.RowKit
set_option linter.unusedVariables false

theorem padL_bysR (key nc : List Nat) (n : Nat) : Bys (padL key nc n) := by
  intro j
  by_cases h : j < n
  · unfold padL; rw [map_range_getD _ _ _ h]; exact padF_lt _ _ _
  · rw [List.getD_eq_getElem?_getD, List.getElem?_eq_none (by rw [padL_len]; omega)]; decide
set_option maxRecDepth 100000 in
set_option maxHeartbeats 2000000 in
theorem r_Apply (key nc : List Nat) (s : ByteArray) (w : World) (hk : key.length = 32) (hkb : Bys key) (hn : nc.length = 16) (hnb : Bys nc) (hs : s.size ≤ 65536) :
    Calls Try.prog 18 #[.agg (ints .u8 (nn key)).toArray, .agg (ints .u8 (nn nc)).toArray, .string s] w fun e w' => e = .returned (.string (bs (nn (xrL (sl s) (padF key nc))))) ∧ Below w.heap.size w w' := by
  have hP := fun w => r_Pad key nc s.size w hk hkb hn hnb hs
  have hps : (bs (nn (padL key nc s.size))).size = s.size := by rw [bs_size, nn_length, padL_len]
  have hpg : ∀ j, j < s.size → (sl (bs (nn (padL key nc s.size)))).getD j 0 = padF key nc j := fun j hj => by
    rw [sl_bs (padL_bysR _ _ _)]
    unfold padL
    exact map_range_getD _ _ _ hj
  have hpf := padF_lt key nc
  have hxl := xrL_len (sl s) (padF key nc)
  rw [sl_len] at hxl
  have hxg : ∀ j, j < s.size → (xrL (sl s) (padF key nc)).getD j 0 = (sl s).getD j 0 ^^^ padF key nc j := fun j hj => xrL_getD _ _ _ (by rw [sl_len]; exact hj)
  obtain ⟨R, hR⟩ : ∃ R, xrL (sl s) (padF key nc) = R := ⟨_, rfl⟩
  rw [hR] at hxl hxg ⊢
  generalize bs (nn (padL key nc s.size)) = P at *
  generalize padF key nc = pf at *
  obtain ⟨i0, hi0, hz0, hz1, hz2⟩ := info_parts info_u8
  have HP := Lib.hid hP
  have HPG := Lib.hid hpg
  have HPF := Lib.hid hpf
  have HXL := Lib.hid hxl
  have HXG := Lib.hid hxg
  have HK := Lib.hid hk
  have HN := Lib.hid hn
  have HSB := Lib.hid (sl_bys s)
  have HSZ := Lib.hid hs
  have HPS := Lib.hid hps
  clear hR hP hpg hpf hxl hxg hk hn
  have k0 : Blk ((w.alloc (.cells (ints .u8 (nn key)).toArray 29)).alloc (.cells (ints .u8 (nn nc)).toArray 34)) w.heap.size 29 (ints .u8 (nn key)) := (Blk.new _ _ _).alloc _
  have k1 : Blk ((w.alloc (.cells (ints .u8 (nn key)).toArray 29)).alloc (.cells (ints .u8 (nn nc)).toArray 34)) (w.heap.size + 1) 34 (ints .u8 (nn nc)) := Blk.new2 _ _ _ _ rfl
  have kb : Below w.heap.size w ((w.alloc (.cells (ints .u8 (nn key)).toArray 29)).alloc (.cells (ints .u8 (nn nc)).toArray 34)) := ((Below.refl _ _).alloc (Nat.le_refl _) _).alloc (by simp) _
  go_enter Try.func18, Try.ntmps18
  go_wp2_with (first | (refine wpList_load_blk rfl 29 _ rfl _ rfl k0 Try.underlying29 rfl (by rw [size_hash, ints_length, nn_length, HK.out]) ?_) | (refine wpList_load_blk rfl 34 _ rfl _ rfl k1 Try.underlying34 rfl (by rw [size_r16, ints_length, nn_length, HN.out]) ?_))
  refine (HP.out _).mono ?_
  rintro e w1 ⟨rfl, hb1⟩
  have jb := kb.trans (hb1.mono kb.size)
  clear k0 k1 kb hb1 HP
  go_wp2_with fail
  have qe := Blk.new' w1 5 (c := #[]) (ints .u8 (nn [] ++ [])) rfl
  have qo := OwnB.ofBlk (base := w.heap.size) (cap := 0) [] qe jb.size rfl (Nat.zero_le _)
  have qb := jb.alloc jb.size (.cells #[] 5)
  clear jb qe
  generalize World.alloc w1 (.cells #[] 5) = w3 at *
  generalize w1.heap.size = B8 at *
  obtain ⟨n, hn⟩ : ∃ n, s.size = n := ⟨_, rfl⟩
  have Hn := Lib.hid hn
  rw [hn] at hps ⊢
  have hn6 : n ≤ 65536 := hn ▸ hs
  clear hs
  go_loopw [8, 9] (fun v i wr => ∃ (j : Nat) (p : Option Addr) (cap : Nat), i = .int .i64 (j : Int) ∧ v = .slice p j cap ∧ OwnB wr w.heap.size 5 (.slice p j cap) (nn (R.take j)) ∧ j ≤ n ∧ Below w.heap.size w wr) (fun _ i _ => n - (intOf i).toNat)
  case atStart => exact ⟨0, _, 0, rfl, rfl, qo, by omega, qb⟩
  case round =>
    obtain ⟨j, p, cap, rfl, rfl, go, hj, gb⟩ := hrel
    clear qo qb
    by_cases hlt : j < n
    · have hjs : j < s.size := by rw [hn]; exact hlt
      have hjp : j < P.size := by rw [hps]; exact hlt
      have x1 := fun w => index_sl s .i64 j hjs w
      have x2 := fun w => index_sl P .i64 j hjp w
      rw [HPG.out j hjs] at x2
      have y1 := xor_byte ((sl s).getD j 0) (pf j) (HSB.out j) (HPF.out j)
      have hsn := take_snoc R j (by rw [HXL.out, hn]; exact hlt)
      rw [HXG.out j hjs] at hsn
      have hll : (nn (R.take j)).length = j := by rw [nn_length, List.length_take, HXL.out, hn]; omega
      have HSn := Lib.hid hsn
      clear hsn
      generalize (sl s).getD j 0 ^^^ pf j = y at *
      generalize (sl s).getD j 0 = xv at *
      generalize pf j = pv at *
      obtain ⟨LJ, hLJ⟩ : ∃ L, R.take j = L := ⟨_, rfl⟩
      rw [hLJ] at go hll HSn
      clear hLJ
      have hrow : (wr.alloc (.cells #[.int .u8 (y : Int)] 5)).ownsRow w.heap.size 5 1 (.slice p j cap) j (ints .u8 (nn LJ)) := by
        have := go.alloc (.cells #[.int .u8 (y : Int)] 5)
        unfold OwnB at this
        rw [hll] at this
        exact this
      have hnew : ∀ jj u, [Value.int .u8 (y : Int)][jj]? = some u → (wr.alloc (.cells #[.int .u8 (y : Int)] 5)).cell? ((⟨wr.heap.size, 0, none⟩ : Addr).add jj) = some u := fun jj u h => by
        rw [Addr.add_mid]
        exact (Blk.new' wr 5 [Value.int .u8 (y : Int)] rfl).whole jj u h
      have hone : ∀ u ∈ [Value.int .u8 (y : Int)], u.oneCell' = true := by simp [Value.oneCell']
      have h63 : j + 1 ≤ maxLen := by simp [maxLen]; omega
      have hbyy : (j + 1) * 1 ≤ 140737488355328 := by omega
      have hbs := gb.size
      have hbase : w.heap.size ≤ (wr.alloc (.cells #[.int .u8 (y : Int)] 5)).heap.size := by simp; omega
      have hgl := fun i hi => (go.lt i hi).1
      have kw := gb.alloc hbs (.cells #[.int .u8 (y : Int)] 5)
      have e1 : (j : Int) < (n : Int) := by omega
      have e2 : (j : Int) < 65536 := by omega
      have HRow := Lib.hid hrow
      have HNew := Lib.hid hnew
      have HOne := Lib.hid hone
      have H63 := Lib.hid h63
      have HBY := Lib.hid hbyy
      have HBS := Lib.hid hbase
      have HLL := Lib.hid hll
      have Hgl := Lib.hid hgl
      clear hrow hnew hone h63 hbyy hbase hll gb hgl
      go_wp2_with (at_builtin; refine wpList_append_own_at _ rfl _ _ 53 rfl w.heap.size 5 i0 (.int .u8 0) 1 1 Try.underlying53 hi0 hz0 hz1 hz2 rfl (by decide) _ j _ rfl HRow.out ⟨wr.heap.size, 0, none⟩ 1 1 [.int .u8 (y : Int)] rfl rfl HNew.out HOne.out H63.out HBY.out HBS.out ?_; intro v5 w5 hown5 hg5 hnil5 hat5; obtain ⟨p5, cap5, rfl⟩ := own_slice hown5)
      go_roundw
      case rel =>
        have o5 : OwnB w5 w.heap.size 5 (.slice p5 (j + 1) cap5) (nn (R.take (j + 1))) := by
          rw [HSn.out]
          unfold OwnB
          rw [show nn (LJ ++ [y]) = nn LJ ++ [(y : Int)] by simp [nn], List.length_append, HLL.out, ints_app]
          exact hown5
        exact ⟨j + 1, p5, cap5, by go_num, rfl, o5, by omega, kw.grown hg5 kw.size (fun i hi => Hgl.out i hi)⟩
      case measure => simp [intOf]; omega
    · obtain rfl : j = n := by omega
      have hE : R.take j = R := List.take_of_length_le (by rw [HXL.out, hn]; exact Nat.le_refl _)
      rw [hE] at go
      go_wp2_with (refine wpList_string_own rfl 53 9 5 _ rfl w.heap.size _ _ rfl Try.underlying53 Try.underlying5 Try.underlying9 go ?_)
      go_ret
      exact ⟨rfl, gb⟩
end Go.Proofs.Ytleofmeejjikmaa
