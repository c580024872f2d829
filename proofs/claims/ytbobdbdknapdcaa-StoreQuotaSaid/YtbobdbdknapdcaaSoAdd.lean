/- The store's contents: a block is added. -/
import Derived.Test.YtbobdbdknapdcaaSoCo2
import Derived.Test.YtbobdbdknapdcaaJ1
namespace Go.Proofs.Ytbobdbdknapdcaa
open Go.RowKit
set_option linter.unusedVariables false

variable {w w' : World} {base B o : Nat} {ty : TypeId} {pre : List Value} {M k : Nat} {D : DataW Unit} {v : Value} {L : List (List Nat)} {e : Nat} {mk : Bool}
theorem info_hashS : (Try.prog.info? 30).map (fun i => (i.zero, i.size, i.bytes)) = some (some (.agg (ints .u8 (nn (zerN 32))).toArray), 32, 32) := by kernel_rfl
/-- the blocks that contents turn -/
def cfoot (B M : Nat) (v : Value) (i : Nat) : Prop := i = B ∨ i = M ∨ v.ownBlock = some i
set_option maxRecDepth 100000 in
theorem c_add_old (h : ConW w base B o ty pre M k D v L e mk) (l : List Int) (ho : Octets l) (h32 : l.length = 32) (hin : l ∈ L.map nmB) (s : ByteArray) :
    Calls Try.prog 22 #[.pointer (some ⟨B, o, none⟩), agN l, .string s] w fun x w' => x = .returned (.tuple #[]) ∧ Below w.heap.size w w' := by
  obtain ⟨R, hR⟩ : ∃ R, ints .u8 l = R := ⟨_, rfl⟩
  have hRl : R.length = 32 := by rw [← hR, ints_length, h32]
  obtain ⟨Y, hY⟩ : ∃ Y, w.heap.size = Y := ⟨_, rfl⟩
  obtain ⟨W0, hW0⟩ : ∃ W0, w.alloc (.cells R.toArray 30) = W0 := ⟨_, rfl⟩
  have kY : Blk W0 Y 30 R := by rw [← hW0]; exact Blk.newAt w Y hY _ R rfl
  have hb0 : Below w.heap.size w W0 := by rw [← hW0]; exact (Below.refl w.heap.size w).alloc (Nat.le_refl _) _
  have hh := c_has (h.below hb0) l ho h32 true (decide_eq_true hin)
  have hag : agN l = .agg R.toArray := by rw [← hR]; rfl
  rw [hag] at hh ⊢
  have HH := Lib.hid hh
  have HKY := Lib.hid kY
  have HB0 := Lib.hid hb0
  have HRL := Lib.hid hRl
  clear h hh kY hb0 hRl hag hR ho h32 hin
  go_enter Try.func22, Try.ntmps22
  go_wp2_with (refine wpList_load_blk rfl 30 _ rfl Y rfl HKY.out Try.underlying30 rfl (by rw [size_hashC, HRL.out]) ?_)
  (with_reducible refine HH.out.mono ?_)
  rintro x w1 ⟨rfl, hb1⟩
  have HB1 := Lib.hid (HB0.out.trans (hb1.mono HB0.out.size))
  clear hb1
  go_wp2
  first | (go_end0; exact ⟨rfl, HB1.out⟩) | exact bodyPost_ret (results_none rfl _ _ _) rfl ⟨rfl, HB1.out⟩
/-! ### a new one -/
def addC (w2 : World) (base : Nat) (v : Value) (rows : List (List Value)) (b : Bool) (W : World) : Prop :=
  w2.grownBy W v.ownBlock ∧ (b = false → OwnR W base 30 32 v rows)
theorem addC_new {w2 : World} {base : Nat} {v : Value} {rows : List (List Value)} {b : Bool} {W W' : World} (h : addC w2 base v rows b W) (hb : Below W.heap.size W W') : addC w2 base v rows b W' :=
  ⟨h.1.trans ((grown_below hb).but _), fun e => (h.2 e).keep hb⟩
def addK (v : Value) (b : Bool) (W W' : World) : Prop := W.grownBy W' (match b with | true => none | false => v.ownBlock)
theorem addK_new {v : Value} {b : Bool} {W W' : World} (hb : Below W.heap.size W W') : addK v b W W' := (grown_below hb).but _
def addS (w2 : World) (base B o : Nat) (v : Value) (rows : List (List Value)) (R : List Value) (i : Nat) (u : Value) (W : World) : Prop :=
  match i with
  | 0 | 1 | 2 | 8 => u = .pointer (some ⟨B, o, none⟩)
  | 3 | 9 => u = .pointer (some ⟨B, o + 1, none⟩)
  | 4 => u = v
  | 5 => u = .agg R.toArray
  | 6 => ∃ y, w2.heap.size ≤ y ∧ u = .slice (some ⟨y, 0, none⟩) 1 1 ∧ Blk W y 30 R
  | 7 => OwnR W base 30 32 u (rows ++ [R]) ∧ (u.ownBlock = v.ownBlock ∨ ∃ g, u.ownBlock = some g ∧ w2.heap.size ≤ g)
  | _ => True
theorem addS_mono {w2 : World} {base B o : Nat} {v : Value} {rows : List (List Value)} {R : List Value} (hlo : ∀ b, v.ownBlock = some b → b < w2.heap.size) (b : Bool) (i : Nat) (u : Value) (W W' : World) (hb : i = 7 → b = true) (h : addS w2 base B o v rows R i u W) (hk : addK v b W W') : addS w2 base B o v rows R i u W' := by
  match i with
  | 0 | 1 | 2 | 3 | 4 | 5 | 8 | 9 => exact h
  | 6 =>
    obtain ⟨y, h1, h2, h3⟩ := h
    refine ⟨y, h1, h2, h3.grownO hk fun i hi e => ?_⟩
    subst e
    cases b
    · have := hlo i hi
      omega
    · cases hi
  | 7 =>
    obtain rfl := hb rfl
    exact ⟨OwnR.grownO h.1 hk (fun _ _ e => by cases e), h.2⟩
  | _ + 10 => trivial
set_option maxRecDepth 100000 in
set_option maxHeartbeats 2000000 in
theorem c_add_new (h : ConW w base B o ty pre M k D v L e mk) (hw : base ≤ w.heap.size) (x : List Nat) (hx : Bys x) (hn : nmB x ∉ L.map nmB) (hl : L.length ≤ 100000) :
    Calls Try.prog 22 #[.pointer (some ⟨B, o, none⟩), agN (nmB x), .string (tx x)] w fun z w' => z = .returned (.tuple #[]) ∧ ∃ k' D' v', ConW w' base B o ty pre M k' D' v' (L ++ [x]) e mk ∧ Turn base w w' (cfoot B M v) (cfoot B M v') := by
  obtain ⟨i0, hi0, hz0, hz1, hz2⟩ := info_parts2 info_hashS
  obtain ⟨R, hR⟩ : ∃ R, ints .u8 (nmB x) = R := ⟨_, rfl⟩
  have hRl : R.length = 32 := by rw [← hR, ints_length, nmB_len]
  obtain ⟨Y, hY⟩ : ∃ Y, w.heap.size = Y := ⟨_, rfl⟩
  obtain ⟨W0, hW0⟩ : ∃ W0, w.alloc (.cells R.toArray 30) = W0 := ⟨_, rfl⟩
  have kY : Blk W0 Y 30 R := by rw [← hW0]; exact Blk.newAt w Y hY _ R rfl
  have hb0 : Below w.heap.size w W0 := by rw [← hW0]; exact (Below.refl w.heap.size w).alloc (Nat.le_refl _) _
  have h0 := h.below hb0
  have hh := c_has h0 (nmB x) (nmB_oct x) (nmB_len x) false (decide_eq_false hn)
  have hag : agN (nmB x) = .agg R.toArray := by rw [← hR]; rfl
  have hkey := kNm_is (nmB_oct x) (nmB_len x)
  rw [hag] at hh hkey ⊢
  have hone : ∀ r ∈ [R], ∀ z ∈ r, z.oneCell' = true := by
    intro r hr z hz
    rw [List.mem_singleton.1 hr, ← hR] at hz
    simp only [ints, List.mem_map] at hz
    obtain ⟨n, _, rfl⟩ := hz
    rfl
  have hrows : rowsNm L ++ [R] = rowsNm (L ++ [x]) := by rw [rowsNm_snoc, ← hR]; rfl
  have hval : blkR (.agg #[.string (tx x)]) = some (bkD x, []) := blkR_mk x
  have hkm : k < maxLen := by have := h.map.size; unfold maxLen; omega
  have HH := Lib.hid hh
  have H0 := Lib.hid h0
  have HX := Lib.hid h
  have HKY := Lib.hid kY
  have HB0 := Lib.hid hb0
  have HRL := Lib.hid hRl
  have HKEY := Lib.hid hkey
  have HVAL := Lib.hid hval
  have HONE := Lib.hid hone
  have HROWS := Lib.hid hrows
  have HBY := Lib.hid hx
  have HN := Lib.hid hn
  have HL := Lib.hid hl
  have HY := Lib.hid hY
  have HW := Lib.hid hw
  have hR1 := HRL.out
  clear h h0 hh kY hb0 hRl hag hkey hone hrows hval hx hn hl hw
  generalize tx x = T at *
  go_enter Try.func22, Try.ntmps22
  go_wp2_with (refine wpList_load_blk rfl 30 _ rfl Y rfl HKY.out Try.underlying30 rfl (by rw [size_hashC, HRL.out]) ?_)
  (with_reducible refine HH.out.mono ?_)
  rintro z w1 ⟨rfl, hb1⟩
  have h1 := H0.out.below hb1
  have kY1 := HKY.out.below hb1 HKY.out.lt
  have B1 := Lib.hid (HB0.out.trans (hb1.mono HB0.out.size))
  have c0 := h1.at_ 0
  simp only [coV, List.getElem?_cons_zero, Nat.add_zero] at c0
  have hRG : ∀ wx : World, (∃ m, wx = w1.drewN m) → wx.rangeAt Y 0 R := fun wx ⟨m, e⟩ => by rw [e]; exact (kY1.drewN m).whole
  have HRG := Lib.hid hRG
  have H1 := Lib.hid h1
  have KY1 := Lib.hid kY1
  clear hb1 h1 kY1 hRG
  go_wp2_with fail
  refine region_drew_tail 7 mixed (by kernel_rfl) ?_
  simp only [List.take_succ_cons, List.take_zero, List.drop_succ_cons, List.drop_zero]
  repeat (first | (refine wpQuiet_load_row rfl 30 _ rfl Y 0 rfl R HRG.out Try.underlying30 rfl (by rw [size_hashC, HRL.out]) ?_) | go_big_quiet_step (fail) | (refine wpQuiet_step (fun K' hK' => ?_); go_simp; first | (refine hK' _ ?_; clear hK' K') | (refine ⟨_, fun _ _ => rfl, hK' _ ?_⟩; clear hK' K')))
  refine wpQuiet_nil ?_
  rintro _ ⟨m1, rfl⟩
  have H1d := Lib.hid (H1.out.drewN m1)
  have KY1d := Lib.hid (KY1.out.drewN m1)
  have B1d := Lib.hid (below_drewN B1.out m1)
  obtain ⟨w1d, hw1d⟩ : ∃ wz, w1.drewN m1 = wz := ⟨_, rfl⟩
  rw [hw1d] at H1d KY1d B1d ⊢
  clear hw1d c0
  have hmp := H1d.out.map.map
  have HMP := Lib.hid hmp
  clear hmp
  go_wp2_with (first | (at_mapUpdate; refine wpList_mapUpdate_own _ rfl _ _ _ 51 rfl 30 75 law_hashK Try.underlying51 blkR M k _ rfl HMP.out hkm _ _ _ rfl rfl HKEY.out _ [] HVAL.out ?_; intro w2 hown2 hg2))
  have hvM : ∀ i, v.ownBlock = some i → i ≠ M := fun i hi e => by
    subst e
    have hc := H1d.out.own.isCells i
    obtain ⟨es, clock, hbm, _⟩ := H1d.out.map.map
    have := hc _ hi hbm
    simp [Obj.isCells] at this
  have hvB : ∀ i, v.ownBlock = some i → i ≠ B := H1d.out.own.ne H1d.out.blk H1d.out.ty
  have hvY : ∀ i, v.ownBlock = some i → i ≠ Y := fun i hi e => by
    have := (HX.out.own.lt i hi).2
    have := HY.out
    omega
  have hMY : M ≠ Y := fun e => by
    have := HX.out.map.map.lt
    have := HY.out
    omega
  have hBM := HX.out.neM
  have blk2 := H1d.out.blk.grownO hg2 (fun i hi e => hBM (by rw [← e]; exact (Option.some.inj hi).symm))
  have mp2 := H1d.out.map.put (w' := w2) HN.out hown2
  have own2 := H1d.out.own.grownO hg2 (fun i hi e => hvM i hi (Option.some.inj e))
  have kY2 := KY1d.out.grownO hg2 (fun i hi e => hMY (by rw [Option.some.inj hi]; exact e))
  obtain ⟨D', hD'⟩ : ∃ D', D.put (kNm (nmB x)) (bkD x) = D' := ⟨_, rfl⟩
  rw [hD'] at mp2
  have hb2 : Below base w w2 := ((B1d.out.mono HW.out).grown hg2 (Nat.le_trans HW.out B1d.out.size) (fun i e => by rw [← Option.some.inj e]; exact HX.out.hM))
  have ho2 : ∀ i, i < w.heap.size → i ≠ M → w2.heap[i]? = w.heap[i]? := fun i hi hne => (hg2.block i (Nat.lt_of_lt_of_le hi B1d.out.size) (fun e => hne (Option.some.inj e))).trans (B1d.out.block i hi)
  have hz2 : w.heap.size ≤ w2.heap.size := Nat.le_trans B1d.out.size hg2.size
  obtain ⟨vs, hvs⟩ : ∃ vs, coV M v e mk = vs := ⟨_, rfl⟩
  have hlo2 := own2.lt
  obtain ⟨pa, ca, hv⟩ := own2.isSlice
  rw [rowsNm_len] at hv
  have HNL := Lib.hid (rowsNm_len L)
  have HC0 : Hid (addC w2 base v (rowsNm L) false w2.drew) := Lib.hid ⟨⟨rfl, rfl, rfl, Nat.le_refl _, fun _ _ _ => rfl⟩, fun _ => own2⟩
  have HB2 := Lib.hid blk2
  have HP2 := Lib.hid mp2
  have HK2 := Lib.hid kY2
  have HBe2 := Lib.hid hb2
  have HO2 := Lib.hid ho2
  have HZ2 := Lib.hid hz2
  have HLO2 := Lib.hid hlo2
  have HVM := Lib.hid hvM
  have HVB := Lib.hid hvB
  have HVY := Lib.hid hvY
  have HBM := Lib.hid hBM
  have HMY := Lib.hid hMY
  have HV := Lib.hid hv
  clear blk2 mp2 own2 kY2 hb2 ho2 hz2 hlo2 hvM hvB hvY hMY hBM hv hown2 hg2 hD' hvs
  go_wp2_with fail
  refine region_mix 7 10 (by decide) mixed (by kernel_rfl) (by kernel_rfl) (fun u => #[_, _, _, _, _, _, _, _, _, _, _, _, _, _, _, _, u 0, u 1, u 2, u 3, u 4, u 5, u 6, u 7, u 8, u 9]) [] (fun i => undef) rfl
    (addC w2 base v (rowsNm L)) HC0.out (addK v) (addS w2 base B o v (rowsNm L) R) ?mono ?step ?one ?last
  case mono => exact addS_mono (fun b e => (HLO2.out b e).2)
  case step =>
    intro bb u W j op hj hjk hpre ho hC hd
    have hr : addK v bb W W := by cases bb <;> exact ⟨rfl, rfl, rfl, Nat.le_refl _, fun _ _ _ => rfl⟩
    rcases j with _ | _ | _ | _ | _ | _ | _ | _ | _ | _ | j
    all_goals try (simp only [List.getElem?_cons_zero, List.getElem?_cons_succ, Option.some.injEq] at ho; subst ho)
    · go_wp2_with fail
      exact ⟨_, rfl, rfl, hC, hr⟩
    · go_wp2_with fail
      exact ⟨_, rfl, rfl, hC, hr⟩
    · have h1 : u 1 = .pointer (some ⟨B, o, none⟩) := hd ⟨1, .data⟩ (by simp) rfl
      rw [h1]
      go_wp2_with fail
      exact ⟨_, by simp [upd, h1], rfl, hC, hr⟩
    · have h1 : u 2 = .pointer (some ⟨B, o, none⟩) := hd ⟨2, .data⟩ (by simp) rfl
      rw [h1]
      go_wp2_with fail
      exact ⟨_, by simp [upd, h1], rfl, hC, hr⟩
    · have h1 : u 3 = .pointer (some ⟨B, o + 1, none⟩) := hd ⟨3, .data⟩ (by simp) rfl
      have hB := HB2.out.grownO hC.1 HVB.out
      have c2 := hB.cell (o + 1)
      have hc2 : (pre ++ coV M v e mk)[o + 1]? = some v := by
        rw [List.getElem?_append_right (by rw [HX.out.off]; omega), HX.out.off, show o + 1 - o = 1 by omega]
        rfl
      rw [hc2, HV.out] at c2
      rw [h1]
      go_wp2_with fail
      exact ⟨_, by simp [upd, h1], HV.out.symm, hC, hr⟩
    · have hk := HK2.out.grownO hC.1 HVY.out
      go_wp2_with (refine wpList_load_blk rfl 30 _ rfl Y rfl hk Try.underlying30 rfl (by rw [size_hashC, HRL.out]) ?_)
      exact ⟨_, rfl, rfl, hC, hr⟩
    · have h1 : u 5 = .agg R.toArray := hd ⟨5, .data⟩ (by simp) rfl
      have hz := hC.1.size
      have hb := (Below.refl W.heap.size W).alloc (Nat.le_refl _) (.cells R.toArray 30)
      have HC := Lib.hid (addC_new hC hb)
      have HK : Hid (addK v bb W (W.alloc (.cells R.toArray 30))) := Lib.hid (addK_new hb)
      clear hC hb
      rw [h1]
      go_wp2_with (refine wpList_buildRow rfl 36 30 _ rfl R i0 (.agg (ints .u8 (nn (zerN 32))).toArray) W.heap.size rfl Try.underlying36 hi0 hz0 (by rw [hz1, HRL.out]) (by rw [HRL.out]; decide) (by rw [HRL.out]; decide) (by simp only [List.map_toArray, List.map_cons, List.map_nil]; rfl) ?_)
      exact ⟨_, by first | (simp [upd, h1]; done) | (simp [upd, h1]; rfl), ⟨W.heap.size, hz, rfl, Blk.new' W _ _ rfl⟩, HC.out, HK.out⟩
    · omega
    · have h1 : u 0 = .pointer (some ⟨B, o, none⟩) := hd ⟨0, .data⟩ (by simp) rfl
      rw [h1]
      go_wp2_with fail
      exact ⟨_, by simp [upd, h1], rfl, hC, hr⟩
    · have h1 : u 8 = .pointer (some ⟨B, o, none⟩) := hd ⟨8, .data⟩ (by simp) rfl
      rw [h1]
      go_wp2_with fail
      exact ⟨_, by simp [upd, h1], rfl, hC, hr⟩
    · omega
  case one =>
    intro u W op ho hC hd
    simp only [List.getElem?_cons_zero, List.getElem?_cons_succ, Option.some.injEq] at ho
    subst ho
    have h4 : u 4 = v := hd ⟨4, .data⟩ (by simp) rfl
    obtain ⟨y, hy, h8, hY8⟩ : ∃ y, w2.heap.size ≤ y ∧ u 6 = .slice (some ⟨y, 0, none⟩) 1 1 ∧ Blk W y 30 R := hd ⟨6, .data⟩ (by simp) rfl
    have hO := hC.2 rfl
    have hnw := sl_one hY8
    have hlen : (rowsNm L).length + [R].length ≤ maxLen := by rw [HNL.out, List.length_singleton]; have := HL.out; unfold maxLen; omega
    have hby : ((rowsNm L).length + [R].length) * 32 ≤ 140737488355328 := by rw [HNL.out, List.length_singleton]; have := HL.out; omega
    have hbase : base ≤ W.heap.size := Nat.le_trans HW.out (Nat.le_trans HZ2.out hC.1.size)
    have hfin : ∀ w5, W.grownBy w5 v.ownBlock → addC w2 base v (rowsNm L) true w5 ∧ addK v false W w5 := fun w5 q2 => ⟨⟨hC.1.trans q2, fun e => (by cases e)⟩, q2⟩
    have HFIN := Lib.hid hfin
    have HO := Lib.hid hO
    have HNW := Lib.hid hnw
    have HLEN := Lib.hid hlen
    have HBYT := Lib.hid hby
    have HBA := Lib.hid hbase
    have HSZ := Lib.hid hC.1.size
    clear hO hnw hlen hby hbase hY8 hd hfin hC
    rw [h4, h8]
    rw [HRL.out] at HNW
    go_wp2_with (first | (refine wpList_append_rows rfl _ _ 36 rfl base 30 i0 (.agg (ints .u8 (nn (zerN 32))).toArray) 32 32 Try.underlying36 hi0 hz0 hz1 hz2 (by rfl) (by decide) v (rowsNm L) rfl HO.out (.slice (some ⟨y, 0, none⟩) 1 1) [R] rfl HNW.out HONE.out HLEN.out HBYT.out HBA.out (.inr ⟨_, _, _, rfl⟩) ?_; intro v' w5 ho5 hg5 hv5))
    obtain ⟨q1, q2⟩ := HFIN.out w5 hg5
    exact ⟨v', by simp [upd, h4, h8]; rfl, ⟨ho5, hv5.elim .inl fun e => .inr ⟨_, e, HSZ.out⟩⟩, q1, q2⟩
  case last =>
    intro u W op ho hC hS
    simp only [List.getElem?_cons_zero, List.getElem?_cons_succ, Option.some.injEq] at ho
    subst ho
    obtain ⟨h9, h9l⟩ : OwnR W base 30 32 (u 7) (rowsNm L ++ [R]) ∧ ((u 7).ownBlock = v.ownBlock ∨ ∃ g, (u 7).ownBlock = some g ∧ w2.heap.size ≤ g) := hS 7 (by decide)
    have h11 : u 9 = .pointer (some ⟨B, o + 1, none⟩) := hS 9 (by decide)
    clear hS
    obtain ⟨v5, hv5⟩ : ∃ v5, u 7 = v5 := ⟨_, rfl⟩
    rw [hv5] at h9 h9l ⊢
    obtain ⟨A5, cap5, he5⟩ := h9.isSlice
    obtain ⟨n5, hn5⟩ : ∃ n, (rowsNm L ++ [R]).length = n := ⟨_, rfl⟩
    rw [hn5] at he5
    have hB := HB2.out.grownO hC.1 HVB.out
    have c2 := hB.cell (o + 1)
    have f2 := hB.free (o + 1)
    have hc2 : (pre ++ coV M v e mk)[o + 1]? = some v := by
      rw [List.getElem?_append_right (by rw [HX.out.off]; omega), HX.out.off, show o + 1 - o = 1 by omega]
      rfl
    rw [hc2] at c2
    have HCC := Lib.hid hC
    have H9 := Lib.hid h9
    have H9L := Lib.hid h9l
    have HBB := Lib.hid hB
    clear hC h9 h9l hn5 hB hc2
    have HE5 := Lib.hid he5
    subst he5
    rw [h11]
    go_wp2_with fail
    go_end0
    refine ⟨rfl, k + 1, D', .slice A5 n5 cap5, ⟨(HBB.out.set (o + 1) _).cast ?_, HX.out.off, HX.out.ty, ?_, ?_, HX.out.hB, HX.out.hM, ?_, ?_⟩, ?_, ?_, ?_⟩
    · rw [← HX.out.off]
      unfold coV
      simp
    · refine HP2.out.same ?_
      rw [(grown_setCell W ⟨B, o + 1, none⟩ _).block M (Nat.lt_of_lt_of_le HP2.out.map.lt HCC.out.1.size) (fun e => HBM.out (Option.some.inj e).symm)]
      exact HCC.out.1.block M HP2.out.map.lt (fun e => HVM.out M e.symm rfl)
    · rw [← HROWS.out]
      exact H9.out.cellOther HBB.out HX.out.ty (o + 1) _
    · rw [List.map_append, List.map_cons, List.map_nil, List.nodup_append]
      refine ⟨HX.out.nod, by simp, fun a ha b hb e => ?_⟩
      rw [List.mem_singleton.1 hb] at e
      exact HN.out (e ▸ ha)
    · intro y hy
      rcases List.mem_append.1 hy with hy | hy
      · exact HX.out.bys y hy
      · rw [List.mem_singleton.1 hy]; exact HBY.out
    · have q := HBe2.out.grown HCC.out.1 (Nat.le_trans HW.out HZ2.out) (fun i hi => (HLO2.out i hi).1)
      exact q.grown (grown_setCell W ⟨B, o + 1, none⟩ _) (Nat.le_trans HW.out (Nat.le_trans HZ2.out HCC.out.1.size)) (fun i hi => by rw [← Option.some.inj hi]; exact HX.out.hB)
    · intro i hi hnF
      have n1 : i ≠ B := fun e => hnF (.inl e)
      have n2 : i ≠ M := fun e => hnF (.inr (.inl e))
      have n3 : ¬ v.ownBlock = some i := fun e => hnF (.inr (.inr e))
      have i2 : i < w2.heap.size := Nat.lt_of_lt_of_le hi HZ2.out
      rw [(grown_setCell W ⟨B, o + 1, none⟩ _).block i (Nat.lt_of_lt_of_le i2 HCC.out.1.size) (fun e => n1 (Option.some.inj e))]
      exact (HCC.out.1.block i i2 (fun e => n3 e.symm)).trans (HO2.out i hi n2)
    · rintro i (h | h | h)
      · exact .inl (.inl h)
      · exact .inl (.inr (.inl h))
      · rcases H9L.out with h' | ⟨g, h', hg⟩
        · exact .inl (.inr (.inr (by rw [← h']; exact h)))
        · rw [h'] at h
          have := Option.some.inj h
          exact .inr (by have := HZ2.out; omega)
end Go.Proofs.Ytbobdbdknapdcaa
