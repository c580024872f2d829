/- Walk of the reference's Pad. -/
import Derived.Test.YtgagafefhmofjaaCipQ
import Derived.Test.YtgagafefhmofjaaSRNext
import Derived.Test.YtgagafefhmofjaaSStr
import Derived.Test.YtgagafefhmofjaaInv
import Derived.Maps.AppendAt
namespace Go.Proofs.Ytgagafefhmofjaa
open Go.RowKit
set_option linter.unusedVariables false

theorem padL_snoc (key nc : List Nat) (k j : Nat) (hj : j < 16) : padL key nc (16 * k + j + 1) = padL key nc (16 * k + j) ++ [(padB key nc k).getD j 0] := by
  unfold padL
  rw [List.range_succ, List.map_append, List.map_singleton]
  unfold padF
  rw [show (16 * k + j) / 16 = k by omega, show (16 * k + j) % 16 = j by omega]
theorem own_slice {w : World} {base : Nat} {e : TypeId} {v : Value} {n : Nat} {xs : List Value} (h : w.ownsRow base e 1 v n xs) : ∃ p cap, v = .slice p n cap := by
  rcases h.2 with ⟨hv, h0⟩ | ⟨g, cap, cur, hv, r⟩
  · exact ⟨none, 0, by rw [hv, h0]⟩
  · exact ⟨_, _, hv⟩
theorem OwnB.rowOther {w : World} {base : Nat} {e : TypeId} {v : Value} {l : List Int} (h : OwnB w base e v l) {b : Nat} (hb : ∀ i, v.ownBlock = some i → i ≠ b) (cs : Array Value) : OwnB (w.setRow b cs) base e v l := by
  obtain ⟨h1, h2⟩ := h
  refine ⟨h1, ?_⟩
  rcases h2 with h2 | ⟨g, cap, cur, hv, hg, hh, r⟩
  · exact .inl h2
  · refine .inr ⟨g, cap, cur, hv, hg, ?_, r⟩
    rw [setRow_other w b g cs (hb g (by rw [hv]; rfl))]
    exact hh
theorem Blk.grownO {W W' : World} {b : Nat} {t : TypeId} {vs : List Value} {row : Option Nat} (h : Blk W b t vs) (hg : W.grownBy W' row) (hne : ∀ i, row = some i → i ≠ b) : Blk W' b t vs := by
  have h' := h
  unfold Blk at h' ⊢
  rw [hg.block b h.lt (fun e => hne b e.symm rfl)]
  exact h'
def lenOf : Value → Nat
  | .slice _ n _ => n
  | _ => 0
set_option maxRecDepth 100000 in
def R6 (w : World) (key nc E NX PB PM : List Nat) (N k m B7 : Nat) (p : Option Addr) (cap : Nat) (u11 u20 u21 u28 u29 u30 u31 u32 u33 u34 u35 u36 u37 u38 u39 u40 u41 u42 u43 u44 : Value) (x0 x1 x2 x3 x4 x5 x6 x7 : Bool) (a : Act) (W : World) : Prop :=
  ∃ u22 u23 u24 u25 u26 u27 u10 : Value, a = ⟨((Value.agg (ints .u8 (nn key)).toArray) :: (Value.agg (ints .u8 (nn nc)).toArray) :: (Value.int .i64 (N : Int)) :: (Value.pointer (some ⟨w.heap.size, 0, none⟩)) :: (Value.pointer (some ⟨w.heap.size + 1, 0, none⟩)) :: undef :: (Value.string ⟨#[]⟩) :: (Value.pointer (some ⟨B7, 0, none⟩)) :: (Value.slice p m cap) :: (Value.int .i64 (k : Int)) :: u10 :: u11 :: (Value.agg (ints .u8 (nn key)).toArray) :: (Value.agg (ints .u32 (nn E)).toArray) :: (Value.slice (some ⟨B7 + 1, 0, none⟩) 0 0) :: (Value.slice p m cap) :: (Value.int .i64 (m : Int)) :: (Value.int .i64 (N : Int)) :: (Value.int .i64 (N : Int)) :: (Value.bool true) :: u20 :: u21 :: u22 :: u23 :: u24 :: u25 :: u26 :: u27 :: u28 :: u29 :: u30 :: u31 :: u32 :: u33 :: u34 :: u35 :: u36 :: u37 :: u38 :: u39 :: u40 :: u41 :: u42 :: u43 :: u44 :: undef :: undef :: []).toArray, []⟩ ∧ Below w.heap.size w W ∧ Blk W (w.heap.size + 1) 33 (ints .u8 (nn nc)) ∧ Blk W (B7) 30 (ints .u32 (nn E)) ∧ OwnB W (B7 + 1) 5 (.slice p m cap) (nn PM) ∧ (x0 = true → u22 = .agg (ints .u32 (nn E)).toArray) ∧ (x1 = true → u23 = .agg (ints .u8 (nn nc)).toArray) ∧ (x2 = true → u24 = .int .i64 (k : Int)) ∧ (x3 = true → u25 = .int .u64 (k : Int)) ∧ (x4 = true → u26 = .agg (ints .u8 (nn NX)).toArray) ∧ (x5 = true → u27 = .agg (ints .u8 (nn PB)).toArray) ∧ (x7 = true → x6 = true) ∧ (x6 = true → ∃ b, (w.heap.size + 1 < b ∧ B7 < b ∧ (∀ i, (Value.slice p m cap).ownBlock = some i → i < b)) ∧ u10 = .pointer (some ⟨b, 0, none⟩) ∧ Blk W b 33 (if x7 = true then (ints .u8 (nn PB)) else (ints .u8 (nn (zerN 16)))))

set_option maxRecDepth 100000 in
set_option maxHeartbeats 1500000 in
theorem r_Pad (key nc : List Nat) (N : Nat) (w : World) (hk : key.length = 32) (hkb : Bys key) (hn : nc.length = 16) (hnb : Bys nc) (hN : N ≤ 65536) :
    Calls Try.prog 23 #[.agg (ints .u8 (nn key)).toArray, .agg (ints .u8 (nn nc)).toArray, .int .i64 (N : Int)] w fun e w' => e = .returned (.string (bs (nn (padL key nc N)))) ∧ Below w.heap.size w w' := by
  obtain ⟨PL, hPL⟩ : ∃ L, padL key nc N = L := ⟨_, rfl⟩
  rw [hPL]
  have HPL := Lib.hid hPL
  have lE : (expandL key).length = 60 := expandL_len _
  have wE : Words (expandL key) := ksN_words hkb 52 (by omega)
  have hX := fun w => r_Expand key w hk hkb
  have hNx := fun (i : Nat) w (hi : i < 2 ^ 64) => r_Next nc i w hn hnb hi
  have hEn := fun (i : Nat) w => r_Encrypt (expandL key) (nextL nc i) w lE wE (nextL_len _ _) (nextL_bys _ _)
  have hpb : ∀ i, encL (expandL key) (nextL nc i) = padB key nc i := fun _ => rfl
  have HPB := Lib.hid hpb
  have HX := Lib.hid hX
  have HNx := Lib.hid hNx
  have HEn := Lib.hid hEn
  have HK := Lib.hid hk
  have HN := Lib.hid hn
  have HE := Lib.hid lE
  obtain ⟨i0, hi0, hz0, hz1, hz2⟩ := info_parts info_u8
  clear hPL hX hNx hEn lE hk hn hpb wE
  generalize expandL key = E at *
  have n2 : (N : Int) ≤ 65536 := by omega
  have k0 : Blk ((w.alloc (.cells (ints .u8 (nn key)).toArray 23)).alloc (.cells (ints .u8 (nn nc)).toArray 33)) w.heap.size 23 (ints .u8 (nn key)) := (Blk.new _ _ _).alloc _
  have k1 : Blk ((w.alloc (.cells (ints .u8 (nn key)).toArray 23)).alloc (.cells (ints .u8 (nn nc)).toArray 33)) (w.heap.size + 1) 33 (ints .u8 (nn nc)) := Blk.new2 _ _ _ _ rfl
  have kb : Below w.heap.size w ((w.alloc (.cells (ints .u8 (nn key)).toArray 23)).alloc (.cells (ints .u8 (nn nc)).toArray 33)) := ((Below.refl _ _).alloc (Nat.le_refl _) _).alloc (by simp) _
  go_enter Try.func23, Try.ntmps23
  go_wp2_with (refine wpList_load_blk rfl 23 _ rfl _ rfl k0 Try.underlying23 rfl (by rw [size_hash, ints_length, nn_length, HK.out]) ?_)
  refine (HX.out _).mono ?_
  rintro e w1 ⟨rfl, hb1⟩
  have hlz : (ints .u32 (nn E)).length = (ints .u32 (nn (zerN 60))).length := by rw [ints_length, ints_length, nn_length, nn_length, HE.out, zerN_len]
  go_wp2_with (first | (refine wpList_alloc_at rfl 30 rfl _ _ (alloc_r60 w1) ?_) | (refine wpList_store_blk rfl 30 _ _ rfl w1.heap.size (ints .u32 (nn E)) rfl rfl (Blk.new' w1 30 (ints .u32 (nn (zerN 60))) rfl) (by rw [size_r60, ints_length, nn_length, HE.out]) hlz.symm (ints_one _ _) ?_))
  have W3s : ((w1.alloc (.cells (ints .u32 (nn (zerN 60))).toArray 30)).setRow w1.heap.size (ints .u32 (nn E)).toArray).heap.size = w1.heap.size + 1 := by simp
  have q1 := (((k1.below hb1 k1.lt).alloc (.cells (ints .u32 (nn (zerN 60))).toArray 30)).rowOther (show w.heap.size + 1 ≠ w1.heap.size by have := k1.lt; have := hb1.size; omega) (ints .u32 (nn E)).toArray).alloc (.cells #[] 5)
  have q7 := ((Blk.new' w1 30 (ints .u32 (nn (zerN 60))) rfl).row (ints .u32 (nn E)) hlz).alloc (.cells #[] 5)
  have qe := Blk.new' ((w1.alloc (.cells (ints .u32 (nn (zerN 60))).toArray 30)).setRow w1.heap.size (ints .u32 (nn E)).toArray) 5 (c := #[]) (ints .u8 (nn [] ++ [])) rfl
  rw [W3s] at qe
  have qo := OwnB.ofBlk (base := w1.heap.size + 1) (cap := 0) [] qe (Nat.le_refl _) rfl (Nat.zero_le _)
  have qs := hb1.size
  have qk := kb.size
  have qb := (below_setRow ((kb.trans (hb1.mono kb.size)).alloc (by omega) (.cells (ints .u32 (nn (zerN 60))).toArray 30)) (show w.heap.size ≤ w1.heap.size by omega) (ints .u32 (nn E)).toArray).alloc (by simp; omega) (.cells #[] 5)
  have hw1 : w.heap.size + 1 < w1.heap.size := by have := k1.lt; omega
  clear k0 k1 kb hb1 hlz qe W3s qs qk HX
  generalize World.alloc _ (.cells #[] 5) = w3 at *
  generalize w1.heap.size = B7 at *
  go_loopw [8, 9] (fun v i wr => ∃ (k m : Nat) (p : Option Addr) (cap : Nat), i = .int .i64 (k : Int) ∧ v = .slice p m cap ∧ OwnB wr (B7 + 1) 5 (.slice p m cap) (nn (padL key nc m)) ∧ m ≤ N ∧ (m = 16 * k ∨ m = N) ∧ k ≤ 4096 ∧ Blk wr (w.heap.size + 1) 33 (ints .u8 (nn nc)) ∧ Blk wr B7 30 (ints .u32 (nn E)) ∧ Below w.heap.size w wr) (fun v _ _ => N - lenOf v)
  case atStart => exact ⟨0, 0, _, 0, rfl, rfl, qo, by omega, by omega, by omega, q1, q7, qb⟩
  case round =>
    obtain ⟨k, m, p, cap, rfl, rfl, jo, hm, hkm, hk, j0, j1, jb⟩ := hrel
    clear qo q1 q7 qb
    by_cases hlt : m < N
    · have hk16 : m = 16 * k := by omega
      have d1 : (m : Int) < (N : Int) := by omega
      have d2 : (0 : Int) ≤ (k : Int) := by omega
      have d3 : (k : Int) < 65536 := by omega
      have hN1 := fun w => HNx.out k w (by omega)
      have hE1 := fun w => HEn.out k w
      rw [HPB.out] at hE1
      have hpl := padB_len key nc k
      have HPBL := Lib.hid hpl
      have HN1 := Lib.hid hN1
      have HE1 := Lib.hid hE1
      have HKM := Lib.hid hkm
      clear hN1 hE1 hpl hkm
      have hsn := fun j hj => padL_snoc key nc k j hj
      have HSN := Lib.hid hsn
      clear hsn
      obtain ⟨PM, hPM⟩ : ∃ L, padL key nc m = L := ⟨_, rfl⟩
      rw [hPM] at jo
      obtain ⟨PB, hPB⟩ : ∃ L, padB key nc k = L := ⟨_, rfl⟩
      rw [hPB] at HPBL HE1
      obtain ⟨NX, hNX⟩ : ∃ L, nextL nc k = L := ⟨_, rfl⟩
      rw [hNX] at HN1 HE1
      have HPM := Lib.hid hPM
      have HPBe := Lib.hid hPB
      have HK16 := Lib.hid hk16
      clear hPM hPB hNX hk16
      go_wp2_with fail
      refine region_inv mixedO (by kernel_rfl) (fun L a W => R6 w key nc E NX PB PM N k m B7 p cap u11 u20 u21 u28 u29 u30 u31 u32 u33 u34 u35 u36 u37 u38 u39 u40 u41 u42 u43 u44 (L 0) (L 1) (L 2) (L 3) (L 4) (L 5) (L 6) (L 7) a W) ?start ?ext ?step ?end_
      case start =>
        exact ⟨_, _, _, _, _, _, _, rfl, jb.drew, j0.drew, j1.drew, jo.drew, (fun h => by cases h), (fun h => by cases h), (fun h => by cases h), (fun h => by cases h), (fun h => by cases h), (fun h => by cases h), (fun h => by cases h), (fun h => by cases h)⟩
      case ext =>
        intro L L' a W hE hI
        have e0 := hE 0 (by decide)
        have e1 := hE 1 (by decide)
        have e2 := hE 2 (by decide)
        have e3 := hE 3 (by decide)
        have e4 := hE 4 (by decide)
        have e5 := hE 5 (by decide)
        have e6 := hE 6 (by decide)
        have e7 := hE 7 (by decide)
        rw [e0, e1, e2, e3, e4, e5, e6, e7] at hI
        exact hI
      case step =>
        intro L a W i o hI ho hL hdep
        obtain ⟨u22, u23, u24, u25, u26, u27, u10, rfl, hb, g0, g1, ge0, h0, h1, h2, h3, h4, h5, hsa, hal⟩ := hI
        rcases i with _ | _ | _ | _ | _ | _ | _ | _ | i
        · simp only [List.getElem?_cons_zero, Option.some.injEq] at ho
          subst ho
          refine wpList_load_blk rfl 30 _ rfl _ rfl g1 Try.underlying30 rfl (by rw [size_r60, ints_length, nn_length, HE.out]) ?_
          refine wpList_nil ?_
          refine ⟨_, _, _, _, _, _, _, rfl, hb, g0, g1, ge0, fun _ => rfl, fun h => h1 (by simpa using h), fun h => h2 (by simpa using h), fun h => h3 (by simpa using h), fun h => h4 (by simpa using h), fun h => h5 (by simpa using h), fun h => by simpa using hsa (by simpa using h), ?_⟩
          intro h
          have hx := hal (by simpa using h)
          simpa using hx
        · simp only [List.getElem?_cons_zero, List.getElem?_cons_succ, Option.some.injEq] at ho
          subst ho
          refine wpList_load_blk rfl 33 _ rfl _ rfl g0 Try.underlying33 rfl (by rw [size_r16, ints_length, nn_length, HN.out]) ?_
          refine wpList_nil ?_
          refine ⟨_, _, _, _, _, _, _, rfl, hb, g0, g1, ge0, fun h => h0 (by simpa using h), fun _ => rfl, fun h => h2 (by simpa using h), fun h => h3 (by simpa using h), fun h => h4 (by simpa using h), fun h => h5 (by simpa using h), fun h => by simpa using hsa (by simpa using h), ?_⟩
          intro h
          have hx := hal (by simpa using h)
          simpa using hx
        · simp only [List.getElem?_cons_zero, List.getElem?_cons_succ, Option.some.injEq] at ho
          subst ho
          go_wp2_with fail
          refine ⟨_, _, _, _, _, _, _, rfl, hb, g0, g1, ge0, fun h => h0 (by simpa using h), fun h => h1 (by simpa using h), fun _ => rfl, fun h => h3 (by simpa using h), fun h => h4 (by simpa using h), fun h => h5 (by simpa using h), fun h => by simpa using hsa (by simpa using h), ?_⟩
          intro h
          have hx := hal (by simpa using h)
          simpa using hx
        · simp only [List.getElem?_cons_zero, List.getElem?_cons_succ, Option.some.injEq] at ho
          subst ho
          have dp2 := hdep ⟨2, .data⟩ (by simp) rfl
          obtain rfl := h2 dp2
          go_wp2_with fail
          refine ⟨_, _, _, _, _, _, _, rfl, hb, g0, g1, ge0, fun h => h0 (by simpa using h), fun h => h1 (by simpa using h), fun _ => rfl, fun _ => rfl, fun h => h4 (by simpa using h), fun h => h5 (by simpa using h), fun h => by simpa using hsa (by simpa using h), ?_⟩
          intro h
          have hx := hal (by simpa using h)
          simpa using hx
        · simp only [List.getElem?_cons_zero, List.getElem?_cons_succ, Option.some.injEq] at ho
          subst ho
          have dp1 := hdep ⟨1, .data⟩ (by simp) rfl
          obtain rfl := h1 dp1
          have dp3 := hdep ⟨3, .data⟩ (by simp) rfl
          obtain rfl := h3 dp3
          go_wp2_with (go_at_call 19; (with_reducible refine (HN1.out _).mono ?_); rintro e W' ⟨rfl, hb'⟩)
          refine ⟨_, _, _, _, _, _, _, rfl, hb.trans (hb'.mono hb.size), g0.below hb' g0.lt, g1.below hb' g1.lt, ge0.keep hb', fun h => h0 (by simpa using h), fun _ => rfl, fun h => h2 (by simpa using h), fun _ => rfl, fun _ => rfl, fun h => h5 (by simpa using h), fun h => by simpa using hsa (by simpa using h), ?_⟩
          intro h
          obtain ⟨b, q1, q2, q3⟩ := hal (by simpa using h)
          exact ⟨b, q1, q2, by simpa using q3.below hb' q3.lt⟩
        · simp only [List.getElem?_cons_zero, List.getElem?_cons_succ, Option.some.injEq] at ho
          subst ho
          have dp0 := hdep ⟨0, .data⟩ (by simp) rfl
          obtain rfl := h0 dp0
          have dp4 := hdep ⟨4, .data⟩ (by simp) rfl
          obtain rfl := h4 dp4
          go_wp2_with (go_at_call 13; (with_reducible refine (HE1.out _).mono ?_); rintro e W' ⟨rfl, hb'⟩)
          refine ⟨_, _, _, _, _, _, _, rfl, hb.trans (hb'.mono hb.size), g0.below hb' g0.lt, g1.below hb' g1.lt, ge0.keep hb', fun _ => rfl, fun h => h1 (by simpa using h), fun h => h2 (by simpa using h), fun h => h3 (by simpa using h), fun _ => rfl, fun _ => rfl, fun h => by simpa using hsa (by simpa using h), ?_⟩
          intro h
          obtain ⟨b, q1, q2, q3⟩ := hal (by simpa using h)
          exact ⟨b, q1, q2, by simpa using q3.below hb' q3.lt⟩
        · simp only [List.getElem?_cons_zero, List.getElem?_cons_succ, Option.some.injEq] at ho
          subst ho
          refine wpList_alloc_at rfl 33 rfl _ _ (alloc_r16 _) ?_
          refine wpList_nil ?_
          have hsf : L 7 = false := by cases hh : L 7 with | false => rfl | true => exact absurd (hsa hh) (by rw [hL]; decide)
          have hbs := hb.size
          have hlt0 := g0.lt
          have hlt1 := g1.lt
          refine ⟨_, _, _, _, _, _, _, rfl, hb.alloc hb.size _, g0.alloc _, g1.alloc _, ge0.alloc _, fun h => h0 (by simpa using h), fun h => h1 (by simpa using h), fun h => h2 (by simpa using h), fun h => h3 (by simpa using h), fun h => h4 (by simpa using h), fun h => h5 (by simpa using h), fun _ => by simp, ?_⟩
          intro h
          refine ⟨W.heap.size, ⟨by omega, by omega, fun i hi => (ge0.lt i hi).2⟩, rfl, ?_⟩
          have hz := Blk.new' W 33 (ints .u8 (nn (zerN 16))) rfl
          simpa [hsf] using hz
        · simp only [List.getElem?_cons_zero, List.getElem?_cons_succ, Option.some.injEq] at ho
          subst ho
          have dp5 := hdep ⟨5, .data⟩ (by simp) rfl
          obtain rfl := h5 dp5
          have hdA := hdep ⟨6, .data⟩ (by simp) rfl
          obtain ⟨b, q1, rfl, q3⟩ := hal hdA
          rw [if_neg (by rw [hL]; decide)] at q3
          refine wpList_store_blk rfl 33 _ _ rfl b (ints .u8 (nn PB)) rfl rfl q3 (by rw [size_r16, ints_length, nn_length, HPBL.out]) (by rw [ints_length, ints_length, nn_length, nn_length, HPBL.out, zerN_len]) (ints_one _ _) ?_
          refine wpList_nil ?_
          refine ⟨_, _, _, _, _, _, _, rfl, below_setRow hb (by omega) _, g0.rowOther (by omega) _, g1.rowOther (by omega) _, OwnB.rowOther ge0 (fun i hi => Nat.ne_of_lt (q1.2.2 i hi)) _, fun h => h0 (by simpa using h), fun h => h1 (by simpa using h), fun h => h2 (by simpa using h), fun h => h3 (by simpa using h), fun h => h4 (by simpa using h), fun h => h5 (by simpa using h), fun _ => by simpa using hdA, ?_⟩
          intro h
          refine ⟨b, q1, rfl, ?_⟩
          have hz := q3.row (ints .u8 (nn PB)) (by rw [ints_length, ints_length, nn_length, nn_length, HPBL.out, zerN_len])
          simpa using hz
        · simp at ho
      case end_ =>
        rintro a W ⟨u22, u23, u24, u25, u26, u27, u10, rfl, hb, g0, g1, ge0, h0, h1, h2, h3, h4, h5, hsa, hal⟩
        obtain rfl := h0 rfl
        obtain rfl := h1 rfl
        obtain rfl := h2 rfl
        obtain rfl := h3 rfl
        obtain rfl := h4 rfl
        obtain rfl := h5 rfl
        obtain ⟨bB, hbA, rfl, hBA⟩ := hal rfl
        rw [if_pos rfl] at hBA
        clear hsa hal
        obtain ⟨hs1, hs7, hsv⟩ := hbA
        have hPJ := HPM.out
        change wpList Try.prog #[] (Exit.then _ _) [] _ _
        go_wp2_with fail
        have f1 := fun i hi => Nat.ne_of_lt (hsv i hi)
        clear j0 j1 jo jb hsv
        rw [← hPJ] at ge0
        clear hPJ
        obtain ⟨wo, hwo⟩ : ∃ wo : World, wo = W := ⟨_, rfl⟩
        clear hwo
        go_loopw [8, 11] (fun v jv wr => ∃ (j : Nat) (p : Option Addr) (cap : Nat), jv = .int .i64 (j : Int) ∧ v = .slice p (m + j) cap ∧ OwnB wr (B7 + 1) 5 (.slice p (m + j) cap) (nn (padL key nc (m + j))) ∧ j ≤ 16 ∧ m + j ≤ N ∧ (∀ i, (Value.slice p (m + j) cap).ownBlock = some i → i ≠ bB) ∧ Blk wr (w.heap.size + 1) 33 (ints .u8 (nn nc)) ∧ Blk wr B7 30 (ints .u32 (nn E)) ∧ Blk wr bB 33 (ints .u8 (nn PB)) ∧ Below w.heap.size w wr) (fun _ jv _ => 16 - (intOf jv).toNat)
        case atStart => exact ⟨0, p, cap, rfl, rfl, ge0, by omega, hm, f1, g0, g1, hBA, hb⟩
        case round =>
          obtain ⟨j, p, cap, rfl, rfl, go, hj, hmj, hne, t1, t7, tb, gb⟩ := hrel
          clear ge0 f1 g0 g1 hBA hb
          have hbs := gb.size
          have hgl := fun i hi => (go.lt i hi).1
          by_cases hcont : j < 16 ∧ m + j < N
          · obtain ⟨c16, cN⟩ := hcont
            have hpl := HPBL.out
            have cb := tb.nat (j := j) (by rw [hpl]; exact c16)
            have hsn := HSN.out j c16
            rw [← HK16.out, HPBe.out] at hsn
            have hll : (nn (padL key nc (m + j))).length = m + j := by rw [nn_length, padL_len]
            have HSn := Lib.hid hsn
            clear hsn hpl
            generalize PB.getD j 0 = y at *
            obtain ⟨LJ, hLJ⟩ : ∃ L, padL key nc (m + j) = L := ⟨_, rfl⟩
            obtain ⟨LN, hLN⟩ : ∃ L, padL key nc (m + j + 1) = L := ⟨_, rfl⟩
            rw [hLJ] at go hll HSn
            rw [hLN] at HSn
            have HLN := Lib.hid hLN
            clear hLJ hLN
            have hrow : (wr.alloc (.cells #[.int .u8 (y : Int)] 5)).ownsRow (B7 + 1) 5 1 (.slice p (m + j) cap) (m + j) (ints .u8 (nn LJ)) := by
              have := go.alloc (.cells #[.int .u8 (y : Int)] 5)
              unfold OwnB at this
              rw [hll] at this
              exact this
            have hnew : ∀ jj u, [Value.int .u8 (y : Int)][jj]? = some u → (wr.alloc (.cells #[.int .u8 (y : Int)] 5)).cell? ((⟨wr.heap.size, 0, none⟩ : Addr).add jj) = some u := fun jj u h => by
              rw [Addr.add_mid]
              exact (Blk.new' wr 5 [Value.int .u8 (y : Int)] rfl).whole jj u h
            have hone : ∀ u ∈ [Value.int .u8 (y : Int)], u.oneCell' = true := by simp [Value.oneCell']
            have h63 : m + j + 1 ≤ maxLen := by simp [maxLen]; omega
            have hbyy : (m + j + 1) * 1 ≤ 140737488355328 := by omega
            have hbase : B7 + 1 ≤ (wr.alloc (.cells #[.int .u8 (y : Int)] 5)).heap.size := by have := tb.lt; simp; omega
            have k1 := t1.alloc (.cells #[.int .u8 (y : Int)] 5)
            have k7 := t7.alloc (.cells #[.int .u8 (y : Int)] 5)
            have kbb := tb.alloc (.cells #[.int .u8 (y : Int)] 5)
            have kw := gb.alloc hbs (.cells #[.int .u8 (y : Int)] 5)
            have hbl := tb.lt
            have e1 : (j : Int) < 16 := by omega
            have e2 : (m : Int) + (j : Int) < (N : Int) := by omega
            have HRow := Lib.hid hrow
            have HNew := Lib.hid hnew
            have HOne := Lib.hid hone
            have H63 := Lib.hid h63
            have HBY := Lib.hid hbyy
            have HBS := Lib.hid hbase
            have HLL := Lib.hid hll
            have Hcn := Lib.hid cN
            have HJ := Lib.hid (show j + 1 ≤ 16 ∧ m + (j + 1) ≤ N by omega)
            have Hgl := Lib.hid hgl
            have Hne := Lib.hid hne
            clear hrow hnew hone h63 hbyy hbase hll t1 t7 tb gb cN hgl hne
            go_wp2_with (at_builtin; refine wpList_append_own_at _ rfl _ _ 52 rfl (B7 + 1) 5 i0 (.int .u8 0) 1 1 Try.underlying52 hi0 hz0 hz1 hz2 rfl (by decide) _ (m + j) _ rfl HRow.out ⟨wr.heap.size, 0, none⟩ 1 1 [.int .u8 (y : Int)] rfl rfl HNew.out HOne.out H63.out HBY.out HBS.out ?_; intro v5 w5 hown5 hg5 hnil5 hat5; obtain ⟨p5, cap5, rfl⟩ := own_slice hown5)
            go_roundw
            case rel =>
              have o5 : OwnB w5 (B7 + 1) 5 (.slice p5 (m + (j + 1)) cap5) (nn (padL key nc (m + (j + 1)))) := by
                rw [show m + (j + 1) = m + j + 1 by omega, HLN.out, HSn.out]
                unfold OwnB
                rw [show nn (LJ ++ [y]) = nn LJ ++ [(y : Int)] by simp [nn], List.length_append, HLL.out, ints_app]
                exact hown5
              refine ⟨j + 1, p5, cap5, by go_num, by rw [show m + (j + 1) = m + j + 1 by omega], o5, HJ.out.1, HJ.out.2, ?_, k1.grownO hg5 (fun i hi => ?_), k7.grownO hg5 (fun i hi => ?_), kbb.grownO hg5 (fun i hi => Hne.out i hi), kw.grown hg5 kw.size (fun i hi => ?_)⟩
              · intro i hi
                rw [show m + (j + 1) = m + j + 1 by omega] at hi
                rcases hat5 with h5 | h5
                · rw [h5] at hi; exact Hne.out i hi
                · rw [h5] at hi
                  cases hi
                  simp
                  omega
              · have := Hgl.out i hi; omega
              · have := Hgl.out i hi; omega
              · have := Hgl.out i hi; omega
            case measure => simp [intOf]; omega
          · have hge : 1 ≤ j := by omega
            have hkk : m + j = 16 * (k + 1) ∨ m + j = N := by have := HK16.out; omega
            have hk1 : k + 1 ≤ 4096 := by have := HK16.out; omega
            have hms : N - (m + j) < N - m := by omega
            by_cases c16 : j < 16
            · have cN : m + j = N := by omega
              have e1 : (j : Int) < 16 := by omega
              have e2 : ¬ ((m : Int) + (j : Int) < (N : Int)) := by omega
              have HH := Lib.hid (And.intro hkk (And.intro hk1 hms))
              have HC := Lib.hid cN
              clear hkk hk1 hms cN hmj
              go_wp2
              go_roundw
              case rel => exact ⟨k + 1, m + j, p, cap, by go_num, rfl, go, by have := HC.out; omega, HH.out.1, HH.out.2.1, t1, t7, gb⟩
              case measure => simpa [lenOf] using HH.out.2.2
            · obtain rfl : j = 16 := by omega
              have HH := Lib.hid (And.intro hkk (And.intro hk1 hms))
              have HC := Lib.hid hmj
              clear hkk hk1 hms hmj
              go_wp2
              go_roundw
              case rel => exact ⟨k + 1, m + 16, p, cap, by go_num, rfl, go, HC.out, HH.out.1, HH.out.2.1, t1, t7, gb⟩
              case measure => simpa [lenOf] using HH.out.2.2
    · obtain rfl : m = N := by omega
      have hE := HPL.out
      rw [hE] at jo
      clear j0 j1
      go_wp2_with (refine wpList_string_own rfl 52 9 5 _ rfl (B7 + 1) _ _ rfl Try.underlying52 Try.underlying5 Try.underlying9 jo ?_)
      go_ret
      exact ⟨rfl, jb⟩
end Go.Proofs.Ytgagafefhmofjaa
