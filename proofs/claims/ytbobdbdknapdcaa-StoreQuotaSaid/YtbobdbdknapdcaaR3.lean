/- The walk of the reference's Sum. -/
import Derived.Test.YtbobdbdknapdcaaR1
import Derived.Test.YtbobdbdknapdcaaR2
import Derived.Test.YtbobdbdknapdcaaG1
import Derived.Test.YtbobdbdknapdcaaD5
import Derived.Maps.AppendAt
namespace Go.Proofs.Ytbobdbdknapdcaa
open Go.RowKit
set_option linter.unusedVariables false

theorem range_row {w : World} {g o b : Nat} {cs : List Value} (h : w.rangeAt g o cs) (hb : g ≠ b) (c : Array Value) : (w.setRow b c).rangeAt g o cs := fun j u hj => by
  rw [cell_setRow_other w b c _ hb]; exact h j u hj
theorem range_below {w w' : World} {g o B : Nat} {cs : List Value} (h : w.rangeAt g o cs) (hb : Below B w w') (hg : g < B) : w'.rangeAt g o cs := fun j u hj => by
  rw [hb.cell hg]; exact h j u hj
theorem range_part {w : World} {g : Nat} {l : List Int} (h : w.rangeAt g 0 (ints .u8 l)) (o n : Nat) : w.rangeAt g o (ints .u8 ((l.drop o).take n)) := fun j u hj => by
  have hj2 : j < n := by
    rcases Nat.lt_or_ge j n with h' | h'
    · exact h'
    · rw [List.getElem?_eq_none (by simp [ints_length]; omega)] at hj; cases hj
  have := h (o + j) u (by
    simp only [ints, List.getElem?_map, List.getElem?_take, List.getElem?_drop, hj2, if_true] at hj ⊢
    exact hj)
  rwa [Nat.zero_add] at this
def refTo (l : List Int) (v : List Int) : Nat → List Int
  | 0 => v
  | k + 1 => shaBlock kTable (refTo l v k) (bs ((l.drop (64 * k)).take 64))
theorem refTo_len (l v : List Int) : ∀ k, (refTo l v k).length = v.length
  | 0 => rfl
  | k + 1 => by rw [refTo, shaBlock_len, refTo_len l v k]
def refSum (s : ByteArray) : List Int := hashL (refTo (fillAll s) startL ((fillAll s).length / 64))
theorem fillAll_len (s : ByteArray) : (fillAll s).length = 64 * ((s.size + 72) / 64) := by
  rw [fillAll, List.length_append, is_length, fillL_len]
  unfold fillLen
  omega
theorem fillAll_octets (s : ByteArray) : Octets (fillAll s) := by
  intro n hn
  rcases List.mem_append.1 hn with h | h
  · exact is_octets s n h
  · exact fillL_octets _ _ n h

set_option maxHeartbeats 2000000 in
set_option maxRecDepth 100000 in
theorem r_Sum (s : ByteArray) (w : World) (hs : s.size ≤ 549755813888) :
    Calls Try.prog 9 #[.string s] w fun e w' => e = .returned (.agg (ints .u8 (refSum s)).toArray) ∧ Below w.heap.size w w' := by
  have hlen := fillAll_len s
  have hoct := fillAll_octets s
  have hfill := fun w => r_fill s w hs
  have hsmall : (fillAll s).length ≤ 600000000000 := by omega
  generalize hA : fillAll s = A at *
  have HA := Lib.hid hA
  have HLen := Lib.hid hlen
  have HFill := Lib.hid hfill
  clear hA hlen hfill
  go_enter Try.func9, Try.ntmps9
  have hB1 : Blk (((w.alloc (.cells (ints .u8 (zer 32)).toArray 30)).alloc (.cells (ints .u32 (zer 8)).toArray 70))) (w.heap.size + 1) 70 (ints .u32 (zer 8)) := Blk.new2 _ _ _ _ rfl
  go_wp2_with (first | (refine wpList_store_blk rfl 70 _ _ rfl (w.heap.size + 1) (ints .u32 startL) rfl rfl hB1 (by rw [size_h8]; rfl) rfl (ints_one _ _) ?_))
  have hH : Blk ((((w.alloc (.cells (ints .u8 (zer 32)).toArray 30)).alloc (.cells (ints .u32 (zer 8)).toArray 70))).setRow (w.heap.size + 1) (ints .u32 startL).toArray) (w.heap.size + 1) 70 (ints .u32 startL) := hB1.row _ rfl
  have hR : Blk ((((w.alloc (.cells (ints .u8 (zer 32)).toArray 30)).alloc (.cells (ints .u32 (zer 8)).toArray 70))).setRow (w.heap.size + 1) (ints .u32 startL).toArray) w.heap.size 30 (ints .u8 (zer 32)) := ((Blk.new w 30 (ints .u8 (zer 32))).alloc _).rowOther (by omega) _
  have hbW : Below w.heap.size w ((((w.alloc (.cells (ints .u8 (zer 32)).toArray 30)).alloc (.cells (ints .u32 (zer 8)).toArray 70))).setRow (w.heap.size + 1) (ints .u32 startL).toArray) := below_setRow (((Below.refl _ _).alloc (Nat.le_refl _) _).alloc (by simp) _) (by omega) _
  have hsz : ((((w.alloc (.cells (ints .u8 (zer 32)).toArray 30)).alloc (.cells (ints .u32 (zer 8)).toArray 70))).setRow (w.heap.size + 1) (ints .u32 startL).toArray).heap.size = w.heap.size + 2 := by simp
  change Calls Try.prog 24 #[.string s] ((((w.alloc (.cells (ints .u8 (zer 32)).toArray 30)).alloc (.cells (ints .u32 (zer 8)).toArray 70))).setRow (w.heap.size + 1) (ints .u32 startL).toArray) _
  generalize World.setRow (World.alloc (World.alloc w _) _) _ _ = w1 at *
  clear hB1
  refine (HFill.out _).mono ?_
  rintro e w2 ⟨vv, rfl, hown, hb2⟩
  have hH2 := hH.below hb2 hH.lt
  have hR2 := hR.below hb2 hR.lt
  have hbW2 := hbW.trans (hb2.mono hbW.size)
  have hb0 := hown.lt
  obtain ⟨hv, h0⟩ | ⟨g, cap, hv, hg, hn, hm⟩ := hown.cases
  · have := HLen.out
    rw [h0] at this
    simp at this
    omega
  · subst hv
    have hrg := hown.range
    have hgl := (hb0 g rfl).2
    have hg2 : w.heap.size + 2 ≤ g := by omega
    generalize hN : A.length = N at *
    have HN := Lib.hid hN
    have hN64 : Hid (N = 64 * (N / 64)) := Lib.hid (by have := HLen.out; omega)
    clear hN
    go_wp2_with fail
    go_loopw [5] (fun i wr => ∃ k : Nat, k ≤ N / 64 ∧ i = .int .i64 ((64 * k : Nat) : Int) ∧ Blk wr (w.heap.size + 1) 70 (ints .u32 (refTo A startL k)) ∧ Blk wr w.heap.size 30 (ints .u8 (zer 32)) ∧ wr.rangeAt g 0 (ints .u8 A) ∧ g < wr.heap.size ∧ Below w.heap.size w wr) (fun i _ => N - (intOf i).toNat)
    case atStart => exact ⟨0, by omega, rfl, hH2, hR2, hrg, hgl, hbW2⟩
    case round =>
      obtain ⟨k, hk, rfl, hh, hr, hrange, hgw, hbel⟩ := hrel
      clear hH2 hR2 hrg hgl hbW2
      have hNN := hN64.out
      by_cases hlt : k < N / 64
      · have h1 : 64 * k + 64 ≤ N := by omega
        have g1 : decide (((64 * k : Nat) : Int) + 64 ≤ (N : Int)) = true := by simp; omega
        have hpart := range_part hrange (64 * k) 64
        have hpl : ((A.drop (64 * k)).take 64).length = 64 := by rw [List.length_take, List.length_drop, HN.out]; omega
        have hpo : Octets ((A.drop (64 * k)).take 64) := fun n hn => hoct n (List.mem_of_mem_drop (List.mem_of_mem_take hn))
        have hv8 : (refTo A startL k).length = 8 := refTo_len _ _ _
        have hstep : refTo A startL (k + 1) = shaBlock kTable (refTo A startL k) (bs ((A.drop (64 * k)).take 64)) := rfl
        have hs8 : (refTo A startL (k + 1)).length = 8 := refTo_len _ _ _
        have Hs := Lib.hid hstep
        rw [hstep] at hs8
        clear hstep
        generalize refTo A startL k = v at *
        generalize (A.drop (64 * k)).take 64 = blk at *
        have hrow : wr.rangeAt (w.heap.size + 1) 0 (ints .u32 v) := Blk.range (x := []) (y := ints .u32 v) (z := []) (by simpa using hh)
        have HV8 := Lib.hid hv8
        have HS8 := Lib.hid hs8
        have HPL := Lib.hid hpl
        clear hv8 hs8 hpl hNN
        generalize hI : 64 * k = I at *
        have HI := Lib.hid hI
        clear hI
        have t0 : (0 : Int) ≤ (I : Int) := by omega
        have t1 : (I : Int) ≤ (I : Int) + 64 := by omega
        have t2 : (I : Int) + 64 ≤ (cap : Int) := by omega
        have t3 : ((I : Int) + 64).toNat = I + 64 := by omega
        have t4 : IntKind.i64.wrap ((I : Int) + 64) = (I : Int) + 64 := IntWalk.i64_in _ (by unfold maxLen at hm; omega)
        have t5 : ¬ cap = I := by omega
        go_wp2_with fail
        refine region_drew_tail 6 mixed (by kernel_rfl) ?_
        simp only [List.take_succ_cons, List.take_zero, List.drop_succ_cons, List.drop_zero]
        refine wpQuiet_load_mid rfl 70 _ rfl (w.heap.size + 1) 0 rfl (ints .u32 v) (fun w' ⟨m, hm⟩ => by subst hm; exact hrow) Try.underlying70 rfl (by rw [size_h8, ints_length, HV8.out]) ?_
        repeat (first | go_big_quiet_step (fail) | quiet_step (fail))
        refine wpQuiet_nil ?_
        rintro _ ⟨nq, rfl⟩
        clear t4
        have hb3 := below_drewN hbel nq
        have hh3 := hh.drewN nq
        have hr3 := hr.drewN nq
        have hrange3 : (wr.drewN nq).rangeAt g 0 (ints .u8 A) := hrange
        have hpart3 : (wr.drewN nq).rangeAt g I (ints .u8 blk) := hpart
        have hgw3 : g < (wr.drewN nq).heap.size := hgw
        generalize wr.drewN nq = w3 at *
        clear hh hr hrange hpart hgw hbel hrow
        have t6 : 64 ≤ cap - I := by omega
        go_wp2_with (first | (go_at_call 25; refine (r_step v g I (cap - I) blk _ HV8.out HPL.out hpo hpart3 hgw3 t6).mono ?_; rintro e w4 ⟨rfl, hb4⟩; have hh4 : Blk w4 (w.heap.size + 1) 70 (ints .u32 v) := hh3.below hb4 hh3.lt) | (refine wpList_store_blk rfl 70 _ _ rfl (w.heap.size + 1) (ints .u32 (shaBlock kTable v (bs blk))) rfl rfl hh4 (by rw [size_h8, ints_length, HS8.out]) (by rw [ints_length, ints_length, HV8.out, HS8.out]) (ints_one _ _) ?_))
        have hr4 := hr3.below hb4 hr3.lt
        have hb4' := hb3.trans (hb4.mono hb3.size)
        have hrange4 := range_below hrange3 hb4 hgw3
        have hsz4 := hb4.size
        go_roundw
        case rel =>
          refine ⟨k + 1, by omega, ?_, ?_, hr4.rowOther (by omega) _, range_row hrange4 (by omega) _, by simp; omega, below_setRow hb4' (by omega) _⟩
          · exact congrArg (Value.int .i64) (by have := HI.out; omega)
          · rw [Hs.out]; exact hh4.row _ (by rw [ints_length, ints_length, HV8.out, HS8.out])
        case measure => simp [intOf]; omega
      · obtain rfl : k = N / 64 := by omega
        have g1 : decide (((64 * (N / 64) : Nat) : Int) + 64 ≤ (N : Int)) = false := by simp; omega
        have hv8 : (refTo A startL (N / 64)).length = 8 := refTo_len _ _ _
        generalize hV : refTo A startL (N / 64) = v at *
        have HV := Lib.hid hV
        have HV8 := Lib.hid hv8
        clear hV hv8 hrange hNN
        have hIb : ((64 * (N / 64) : Nat) : Int) ≤ 600000000000 := by omega
        generalize hI : 64 * (N / 64) = I at *
        clear hI
        obtain ⟨wo, rfl⟩ : ∃ wo : World, wo = wr := ⟨_, rfl⟩
        go_wp2_with (first | (refine wpList_store_blk rfl 30 _ _ rfl wo.heap.size (ints .u8 (zer 32)) rfl rfl (Blk.new' wo 30 (ints .u8 (zer 32)) rfl) (by rw [size_hash]; rfl) rfl (ints_one _ _) ?_))
        have ho5 : Blk ((wo.alloc (.cells #[.int .u8 0, .int .u8 0, .int .u8 0, .int .u8 0, .int .u8 0, .int .u8 0, .int .u8 0, .int .u8 0, .int .u8 0, .int .u8 0, .int .u8 0, .int .u8 0, .int .u8 0, .int .u8 0, .int .u8 0, .int .u8 0, .int .u8 0, .int .u8 0, .int .u8 0, .int .u8 0, .int .u8 0, .int .u8 0, .int .u8 0, .int .u8 0, .int .u8 0, .int .u8 0, .int .u8 0, .int .u8 0, .int .u8 0, .int .u8 0, .int .u8 0, .int .u8 0] 30)).setRow wo.heap.size (ints .u8 (zer 32)).toArray) wo.heap.size 30 (ints .u8 (hashT v 0)) := (Blk.new' wo 30 (ints .u8 (zer 32)) rfl).row _ rfl
        have hb5 : Below wo.heap.size wo ((wo.alloc (.cells #[.int .u8 0, .int .u8 0, .int .u8 0, .int .u8 0, .int .u8 0, .int .u8 0, .int .u8 0, .int .u8 0, .int .u8 0, .int .u8 0, .int .u8 0, .int .u8 0, .int .u8 0, .int .u8 0, .int .u8 0, .int .u8 0, .int .u8 0, .int .u8 0, .int .u8 0, .int .u8 0, .int .u8 0, .int .u8 0, .int .u8 0, .int .u8 0, .int .u8 0, .int .u8 0, .int .u8 0, .int .u8 0, .int .u8 0, .int .u8 0, .int .u8 0, .int .u8 0] 30)).setRow wo.heap.size (ints .u8 (zer 32)).toArray) := below_setRow ((Below.refl _ _).alloc (Nat.le_refl _) _) (Nat.le_refl _) _
        generalize World.setRow _ _ _ = w5 at *
        have hh5 := hh.below hb5 hh.lt
        have hr5 := hr.below hb5 hr.lt
        have hbel5 := hbel.trans (hb5.mono hbel.size)
        have hhl := hh.lt
        generalize wo.heap.size = O at *
        generalize (Value.agg #[.int .u8 0, .int .u8 0, .int .u8 0, .int .u8 0, .int .u8 0, .int .u8 0, .int .u8 0, .int .u8 0, .int .u8 0, .int .u8 0, .int .u8 0, .int .u8 0, .int .u8 0, .int .u8 0, .int .u8 0, .int .u8 0, .int .u8 0, .int .u8 0, .int .u8 0, .int .u8 0, .int .u8 0, .int .u8 0, .int .u8 0, .int .u8 0, .int .u8 0, .int .u8 0, .int .u8 0, .int .u8 0, .int .u8 0, .int .u8 0, .int .u8 0, .int .u8 0]) = z25
        go_loopw [7] (fun i wr => ∃ m : Nat, m ≤ 32 ∧ i = .int .i64 (m : Int) ∧ Blk wr O 30 (ints .u8 (hashT v m)) ∧ Below O w5 wr) (fun i _ => 32 - (intOf i).toNat)
        case atStart => exact ⟨0, by omega, rfl, ho5, Below.refl _ _⟩
        case round =>
          obtain ⟨m, hm32, rfl, ho, hbo⟩ := hrel
          have hh6 := hh5.below hbo (by omega)
          by_cases hlt : m < 32
          · have hset := hashT_set v m hlt
            have hml := hashT_len v m (by omega)
            have Hs := Lib.hid hset
            clear hset
            have hc := hh6.int (j := m / 4) (by rw [HV8.out]; omega)
            have hcw := ho.int (j := m) (by omega)
            have hfr := ho.free m
            clear hml
            have u1 : (m : Int) / 4 < 8 := by omega
            have u2 : (0 : Int) ≤ (m : Int) / 4 := by omega
            have u3 : ((m : Int) / 4).toNat = m / 4 := by omega
            have u4 : (0 : Int) ≤ 24 - 8 * ((m : Int) % 4) := by omega
            have u5 : (24 - 8 * ((m : Int) % 4)).toNat = 24 - 8 * (m % 4) := by omega
            have u6 : (m : Int) < 32 := by omega
            have u7 : (0 : Int) ≤ (m : Int) % 4 := by omega
            have u8 : (m : Int) % 4 < 4 := by omega
            have u9 : 8 * ((m : Int) % 4) ≤ 24 := by omega
            go_wp2
            refine ⟨⟨m + 1, by omega, by go_num, ?_, hbo.setCell (Nat.le_refl _) _⟩, by simp [intOf]; omega⟩
            rw [← Hs.out]
            have := ho.setInt m (hashAt v m)
            simp only [hashAt, List.getD_eq_getElem?_getD] at this ⊢
            exact this
          · obtain rfl : m = 32 := by omega
            have hoL : Blk wr O 30 (ints .u8 (hashL v)) := by rw [← hashT_done]; exact ho
            have hres := hr5.below hbo (by omega)
            have hfin := hbel5.trans (hbo.mono (by omega))
            have HL : Hid ((ints .u8 (hashL v)).length = 32) := Lib.hid (by rw [ints_length, hashL_len])
            go_wp2_with (first | (refine wpList_load_blk rfl 30 _ rfl O rfl hoL Try.underlying30 rfl (by rw [size_hash]; exact congrArg some HL.out.symm) ?_) | (refine wpList_store_blk rfl 30 _ _ rfl w.heap.size (ints .u8 (hashL v)) rfl rfl hres (by rw [size_hash]; exact congrArg some HL.out.symm) (by rw [HL.out]; rfl) (ints_one _ _) ?_))
            refine bodyPost_ret (v := .agg (ints .u8 (hashL v)).toArray) (results_cell_blk rfl _ _ _ rfl (hres.row (ints .u8 (hashL v)) (by rw [HL.out]; rfl)) Try.underlying30 rfl (by rw [size_hash]; exact congrArg some HL.out.symm)) rfl ⟨?_, below_setRow hfin (Nat.le_refl _) _⟩
            rw [refSum, HA.out, HN.out, HV.out]

/-! ### It is the sum that digest's text comes to -/
theorem refTo_append (a b v : List Int) (n : Nat) (ha : a.length = 64 * n) : ∀ m, m ≤ b.length / 64 → refTo (a ++ b) v (n + m) = refTo b (refTo (a ++ b) v n) m
  | 0, _ => rfl
  | m + 1, hm => by
    have ih := refTo_append a b v n ha m (by omega)
    rw [show n + (m + 1) = (n + m) + 1 from rfl, refTo, refTo, ih]
    congr 2
    rw [List.drop_append, List.drop_eq_nil_of_le (by omega), List.nil_append, ha]
    rw [show 64 * (n + m) - 64 * n = 64 * m by omega]
theorem refTo_left (a b v : List Int) (n : Nat) (ha : a.length = 64 * n) : ∀ m, m ≤ n → refTo (a ++ b) v m = refTo a v m
  | 0, _ => rfl
  | m + 1, hm => by
    have ih := refTo_left a b v n ha m (by omega)
    show shaBlock kTable (refTo (a ++ b) v m) _ = shaBlock kTable (refTo a v m) _
    rw [ih]
    congr 2
    rw [List.drop_append_of_le_length (by omega), List.take_append_of_le_length (by simp; omega)]
theorem refTo_shift (a v : List Int) : ∀ n, refTo a v (n + 1) = refTo (a.drop 64) (shaBlock kTable v (bs (a.take 64))) n
  | 0 => by simp [refTo]
  | n + 1 => by
    show shaBlock kTable (refTo a v (n + 1)) _ = shaBlock kTable (refTo (a.drop 64) _ n) _
    rw [refTo_shift a v n, List.drop_drop]
    rw [show 64 * (n + 1) = 64 + 64 * n by omega]
theorem is_extract (s : ByteArray) (i j : Nat) : is (s.extract i j) = ((is s).drop i).take (j - i) := by
  unfold is
  rw [ByteArray.data_extract]
  simp only [Array.toList_extract, List.extract_eq_take_drop, List.map_take, List.map_drop]
theorem shaBlocks_ref : ∀ (n : Nat) (s : ByteArray) (v : List Int), s.size = 64 * n → shaBlocks kTable v s n = refTo (is s) v n
  | 0, _, _, _ => rfl
  | n + 1, s, v, hs => by
    rw [refTo_shift, shaBlocks]
    have h1 : (is s).take 64 = is (s.extract 0 64) := by rw [is_extract]; simp
    have h2 : (is s).drop 64 = is (s.extract 64 s.size) := by
      rw [is_extract, List.take_of_length_le (by rw [List.length_drop, is_length]; exact Nat.le_refl _)]
    rw [h1, h2, bs_is, shaBlocks_ref n _ _ (by rw [ByteArray.size_extract]; omega)]
theorem refSum_eq (s : ByteArray) : refSum s = shaSumOf kTable startL s := by
  unfold refSum shaSumOf
  congr 1
  have hT := (shaTail_size s).1
  have hsz : (s.extract 0 (s.size / 64 * 64)).size = 64 * (s.size / 64) := by rw [ByteArray.size_extract]; omega
  rw [shaBlocks_ref _ _ _ hT, shaBlocks_ref _ _ _ hsz]
  have hsplit : fillAll s = is (s.extract 0 (s.size / 64 * 64)) ++ is (shaTail s) := by
    unfold fillAll shaTail
    rw [is_app, is_bs _ (fillL_octets _ _), is_extract, is_extract, Nat.sub_zero, List.drop_zero, ← List.append_assoc]
    rw [List.take_of_length_le (l := (is s).drop _) (by rw [List.length_drop, is_length]; exact Nat.le_refl _), List.take_append_drop]
    congr 1
    have : fillLen s.size = fillLen (s.size - s.size / 64 * 64) := by unfold fillLen; omega
    unfold fillL
    rw [this]
  have hlen := fillAll_len s
  have hA : (is (s.extract 0 (s.size / 64 * 64))).length = 64 * (s.size / 64) := by rw [is_length, hsz]
  have hB : (is (shaTail s)).length = (shaTail s).size := is_length _
  have hL : (fillAll s).length = 64 * (s.size / 64) + (shaTail s).size := by rw [hsplit, List.length_append, hA, hB]
  rw [show (fillAll s).length / 64 = s.size / 64 + (shaTail s).size / 64 by omega, hsplit]
  rw [refTo_append _ _ _ _ hA _ (by rw [hB]; exact Nat.le_refl _), refTo_left _ _ _ _ hA _ (Nat.le_refl _)]
theorem r_Sum' (s : ByteArray) (w : World) (hs : s.size ≤ 549755813888) :
    Calls Try.prog 9 #[.string s] w fun e w' => e = .returned (.agg (ints .u8 (sumL s)).toArray) ∧ Below w.heap.size w w' := by
  have := r_Sum s w hs
  rw [refSum_eq] at this
  exact this
end Go.Proofs.Ytbobdbdknapdcaa
namespace Go.Proofs.Ytbobdbdknapdcaa
open Go.RowKit
set_option linter.unusedVariables false

theorem xorTo_getD (m : Int) (l : List Int) : ∀ n, n ≤ l.length → ∀ j, (xorTo m l n).getD j 0 = if j < n then bits .xor .u8 (l.getD j 0) m else l.getD j 0
  | 0, _, j => by rw [if_neg (by omega)]; rfl
  | n + 1, h, j => by
    show ((xorTo m l n).set n (bits .xor .u8 ((xorTo m l n).getD n 0) m)).getD j 0 = _
    rw [List.getD_eq_getElem?_getD, List.getElem?_set]
    by_cases e : n = j
    · subst e
      rw [if_pos rfl, if_pos (by rw [xorTo_len]; omega), if_pos (by omega), xorTo_getD m l n (by omega), if_neg (by omega)]
      rfl
    · rw [if_neg e, ← List.getD_eq_getElem?_getD, xorTo_getD m l n (by omega)]
      by_cases h2 : j < n
      · rw [if_pos h2, if_pos (by omega)]
      · rw [if_neg h2, if_neg (by omega)]
theorem maskL_getD (k : ByteArray) (hk : k.size ≤ 64) (m : Int) (j : Nat) (hj : j < 64) : (maskL k m).getD j 0 = bits .xor .u8 (if j < k.size then (is k).getD j 0 else 0) m := by
  unfold maskL
  rw [xorTo_getD m _ 64 (by rw [padK_len k hk]; exact Nat.le_refl _), if_pos hj]
  congr 1
  unfold padMc
  rw [List.getD_eq_getElem?_getD, List.getElem?_append, is_length]
  split
  · rw [← List.getD_eq_getElem?_getD]
  · simp [zer, List.getElem?_replicate]
    split <;> rfl
theorem take_snocI (L : List Int) (j : Nat) (h : j < L.length) : L.take (j + 1) = L.take j ++ [L.getD j 0] := by
  rw [List.take_add_one, List.getElem?_eq_getElem h, List.getD_eq_getElem?_getD, List.getElem?_eq_getElem h]
  rfl
theorem OwnB.grownO {w w' : World} {base : Nat} {e : TypeId} {v : Value} {l : List Int} {row : Option Nat} (h : OwnB w base e v l) (hg : w.grownBy w' row) (hne : ∀ i, row = some i → v.ownBlock ≠ some i) : OwnB w' base e v l := by
  obtain ⟨h1, h2⟩ := h
  refine ⟨h1, ?_⟩
  rcases h2 with h2 | ⟨g, cap, cur, hv, hg', hh, r⟩
  · exact .inl h2
  · refine .inr ⟨g, cap, cur, hv, hg', ?_, r⟩
    rw [hg.block g (Array.getElem?_eq_some_iff.1 hh).1 (fun e => hne g e.symm (by rw [hv]; rfl))]
    exact hh
theorem OwnB.keepB {w w' : World} {base : Nat} {e : TypeId} {v : Value} {l : List Int} (h : OwnB w base e v l) (hb : Below w.heap.size w w') : OwnB w' base e v l := h.below hb (fun k hk => (h.lt k hk).2)
theorem index_is (s : ByteArray) (kk : IntKind) (j : Nat) (hj : j < s.size) (w : World) :
    (Instr.index 9 (.string s) (.int kk (j : Int))).run Try.prog w = .ok (.int .u8 ((is s).getD j 0)) w := by
  have hv : s.data.toList[j]? = some (s.data.toList[j]'(by simpa using hj)) := List.getElem?_eq_getElem _
  have hg : (is s).getD j 0 = ((s.get j hj).toNat : Int) := by
    unfold is
    rw [List.getD_eq_getElem?_getD, List.getElem?_map, hv]
    rfl
  rw [hg]
  simp [Instr.index, asIntOf, Sem.run_bind, run_underlying Try.underlying9 w, hj]
  rfl
section
variable {P : Program} {C : World → Prop} {zs : Array Oper} {Q : Act → Prop} {op : Oper} {rest : List Oper} {a : Act}
theorem wpQuiet_string_own (hgd : op.guard = none) (src dst e : TypeId) (x : Operand) (ho : op.op = .convert src dst x) (base : Nat) (v : Value) (l : List Int)
    (hx : a.eval x = v) (hs : P.underlying src = some (.slice e)) (he : P.underlying e = some (.int .u8)) (hd : P.underlying dst = some .string)
    (hc : ∀ w', C w' → OwnB w' base e v l) (h : wpQuiet P zs C Q rest (a.put op.dst (.string (bs l)))) : wpQuiet P zs C Q (op :: rest) a :=
  wpQuiet_run hgd (.string (bs l)) (fun w' hw' => by
    unfold execOp
    simp only [ho, hx, Sem.run_bind, run_string_own (P := P) (w := w') src dst e base v l hs he hd (hc w' hw'), Result.andThen_ok]
    rfl) h
end

theorem mac_ne5 {wr w5 : World} {base : Nat} {vA v5 vB : Value} {lB : List Int} {o : Obj} (hB : OwnB wr base 5 vB lB) (hne : ∀ x, vA.ownBlock = some x → vB.ownBlock ≠ some x)
    (hat5 : v5.ownBlock = vA.ownBlock ∨ v5.ownBlock = some (wr.alloc o).heap.size) : ∀ x, v5.ownBlock = some x → vB.ownBlock ≠ some x := by
  intro x hx hb
  rcases hat5 with h | h
  · exact hne x (h ▸ hx) hb
  · have h1 := (hB.lt x hb).2
    rw [h] at hx
    simp at hx
    omega
theorem mac_rowB {wr w5 : World} {base : Nat} {vA : Value} {pb : Option Addr} {j cb : Nat} {lB : List Int} {o : Obj} (hg5 : (wr.alloc o).grownBy w5 vA.ownBlock) (hne : ∀ x, vA.ownBlock = some x → (Value.slice pb j cb).ownBlock ≠ some x)
    (hB : OwnB wr base 5 (.slice pb j cb) lB) (hl : lB.length = j) (y : Int) : (w5.alloc (.cells #[.int .u8 y] 5)).ownsRow base 5 1 (.slice pb j cb) j (ints .u8 lB) := by
  have := ((hB.alloc o).grownO hg5 hne).alloc (.cells #[.int .u8 y] 5)
  unfold OwnB at this
  rw [hl] at this
  exact this
theorem mac_base {wr w5 : World} {B : Nat} {o : Obj} {r : Option Nat} (hg5 : (wr.alloc o).grownBy w5 r) (h : B ≤ wr.heap.size) (y : Int) (hB : B < wr.heap.size := by omega) : B + 1 ≤ (w5.alloc (.cells #[.int .u8 y] 5)).heap.size := by
  have := hg5.size
  simp at this ⊢
  omega
theorem mac_round {w wr w5 w6 : World} {j ca cb c5 c6 : Nat} {pa pb p5 p6 : Option Addr} {LA1 LB1 : List Int} {yA yB : Int} {vs : List Value}
    (gA : OwnB wr (w.heap.size + 1) 5 (.slice pa j ca) LA1) (gB : OwnB wr (w.heap.size + 1) 5 (.slice pb j cb) LB1)
    (hne : ∀ x, (Value.slice pa j ca).ownBlock = some x → (Value.slice pb j cb).ownBlock ≠ some x)
    (gr : Blk wr w.heap.size 30 vs) (gb : Below w.heap.size w wr) (lA : LA1.length = j) (lB : LB1.length = j)
    (o5 : w5.ownsRow (w.heap.size + 1) 5 1 (.slice p5 (j + 1) c5) (j + 1) (ints .u8 LA1 ++ [.int .u8 yA]))
    (hg5 : (wr.alloc (.cells #[.int .u8 yA] 5)).grownBy w5 (Value.slice pa j ca).ownBlock)
    (hat5 : (Value.slice p5 (j + 1) c5).ownBlock = (Value.slice pa j ca).ownBlock ∨ (Value.slice p5 (j + 1) c5).ownBlock = some (wr.alloc (.cells #[.int .u8 yA] 5)).heap.size)
    (o6 : w6.ownsRow (w.heap.size + 1) 5 1 (.slice p6 (j + 1) c6) (j + 1) (ints .u8 LB1 ++ [.int .u8 yB]))
    (hg6 : (w5.alloc (.cells #[.int .u8 yB] 5)).grownBy w6 (Value.slice pb j cb).ownBlock)
    (hat6 : (Value.slice p6 (j + 1) c6).ownBlock = (Value.slice pb j cb).ownBlock ∨ (Value.slice p6 (j + 1) c6).ownBlock = some (w5.alloc (.cells #[.int .u8 yB] 5)).heap.size) :
    OwnB w6 (w.heap.size + 1) 5 (.slice p5 (j + 1) c5) (LA1 ++ [yA]) ∧ OwnB w6 (w.heap.size + 1) 5 (.slice p6 (j + 1) c6) (LB1 ++ [yB]) ∧
    (∀ x, (Value.slice p5 (j + 1) c5).ownBlock = some x → (Value.slice p6 (j + 1) c6).ownBlock ≠ some x) ∧ Blk w6 w.heap.size 30 vs ∧ Below w.heap.size w w6 := by
  have hne5 := mac_ne5 (w5 := w5) gB hne hat5
  have O5 : OwnB w5 (w.heap.size + 1) 5 (.slice p5 (j + 1) c5) (LA1 ++ [yA]) := by
    unfold OwnB
    rw [List.length_append, lA, ints_app]
    exact o5
  have O6 : OwnB w6 (w.heap.size + 1) 5 (.slice p6 (j + 1) c6) (LB1 ++ [yB]) := by
    unfold OwnB
    rw [List.length_append, lB, ints_app]
    exact o6
  have lb := fun x h => (gB.lt x h).1
  have la := fun x h => (gA.lt x h).1
  have hs := gb.size
  have k5 := (gb.alloc hs (.cells #[.int .u8 yA] 5)).grown hg5 (by simp; omega) (fun i hi => by have := la i hi; omega)
  have k6 := (k5.alloc k5.size (.cells #[.int .u8 yB] 5)).grown hg6 (by have := k5.size; simp; omega) (fun i hi => by have := lb i hi; omega)
  refine ⟨(O5.alloc _).grownO hg6 (fun i hi h => hne5 i h hi), O6, ?_, ((gr.alloc _).grownO hg5 (fun i hi h => by have := la i hi; omega)).alloc _ |>.grownO hg6 (fun i hi h => by have := lb i hi; omega), k6⟩
  intro x hx h
  rcases hat6 with h6 | h6
  · exact hne5 x hx (h6 ▸ h)
  · have := (O5.lt x hx).2
    rw [h6] at h
    simp at h
    omega

end Go.Proofs.Ytbobdbdknapdcaa
namespace Go.Proofs.Ytbobdbdknapdcaa
open Go.RowKit
set_option linter.unusedVariables false

end Go.Proofs.Ytbobdbdknapdcaa
