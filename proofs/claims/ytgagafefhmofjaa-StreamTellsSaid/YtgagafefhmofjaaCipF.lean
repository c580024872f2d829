/- Walk of cipher's Expand. -/
import Derived.Test.YtgagafefhmofjaaCipE
namespace Go.Proofs.Ytgagafefhmofjaa
open Go.RowKit
set_option linter.unusedVariables false

/-- four bytes of a key -/
def four (key : List Nat) (i : Nat) : List Nat := (List.range 4).map fun j => key.getD (4 * i + j) 0
theorem four_getD (key : List Nat) (i j : Nat) (h : j < 4) : (four key i).getD j 0 = key.getD (4 * i + j) 0 := map_range_getD _ 4 j h
theorem four_bys {key : List Nat} (h : Bys key) (i : Nat) : Bys (four key i) := by
  intro j
  rcases Nat.lt_or_ge j 4 with hj | hj
  · rw [four_getD _ _ _ hj]; exact h _
  · rw [List.getD_eq_getElem?_getD, List.getElem?_eq_none (by simp [four]; omega)]; decide
def kw (key : List Nat) (i : Nat) : Nat := wpre (four key i) 4
theorem kw_lt {key : List Nat} (h : Bys key) (i : Nat) : kw key i < 4294967296 := wpre_lt (four_bys h i) 4
/-- the power of 2 that stands at the word i -/
def pwAt (i : Nat) : Nat := 2 ^ ((i - 1) / 8)
def tempK (l : List Nat) (i : Nat) : Nat :=
  if i % 8 = 0 then eachN boxG (rotl32 (l.getD (i - 1) 0) 8) ^^^ (pwAt i * 16777216)
  else if i % 8 = 4 then eachN boxG (l.getD (i - 1) 0) else l.getD (i - 1) 0
def ksN (key : List Nat) : Nat → List Nat
  | 0 => fillF (kw key) 60 8
  | n + 1 => (ksN key n).set (8 + n) (tempK (ksN key n) (8 + n) ^^^ (ksN key n).getD n 0)
def expandL (key : List Nat) : List Nat := ksN key 52
theorem ksN_len (key : List Nat) : ∀ n, (ksN key n).length = 60
  | 0 => fillF_len _ _ _ (by omega)
  | n + 1 => by simp [ksN, ksN_len key n]
theorem expandL_len (key : List Nat) : (expandL key).length = 60 := ksN_len _ _
theorem ksN_step (key : List Nat) {i : Nat} (h : 8 ≤ i) : ksN key (i + 1 - 8) = (ksN key (i - 8)).set i (tempK (ksN key (i - 8)) i ^^^ (ksN key (i - 8)).getD (i - 8) 0) := by
  obtain ⟨n, rfl⟩ : ∃ n, i = 8 + n := ⟨i - 8, by omega⟩
  rw [show 8 + n + 1 - 8 = n + 1 by omega, show 8 + n - 8 = n by omega]
  rfl
/-- all are words -/
def Words (l : List Nat) : Prop := ∀ j, l.getD j 0 < 4294967296
theorem Words.set {l : List Nat} (h : Words l) (i x : Nat) (hx : x < 4294967296) : Words (l.set i x) := by
  intro j
  rw [List.getD_eq_getElem?_getD, List.getElem?_set]
  split
  · split
    · exact hx
    · decide
  · rw [← List.getD_eq_getElem?_getD]; exact h j
theorem xor32_lt {a b : Nat} (ha : a < 4294967296) (hb : b < 4294967296) : a ^^^ b < 4294967296 := Nat.xor_lt_two_pow (n := 32) ha hb
theorem pwAt_lt {i : Nat} (h : i ≤ 60) : pwAt i < 256 := Nat.pow_lt_pow_right (a := 2) (n := 8) (by omega) (by omega)
theorem tempK_lt {l : List Nat} (h : Words l) (i : Nat) (hi : i ≤ 60) : tempK l i < 4294967296 := by
  unfold tempK
  have h1 := pwAt_lt hi
  split
  · exact xor32_lt (eachN_lt boxG_byte _) (by omega)
  · split
    · exact eachN_lt boxG_byte _
    · exact h _
theorem fillF_words {f : Nat → Nat} (hf : ∀ i, f i < 4294967296) (n k : Nat) : Words (fillF f n k) := by
  intro j
  unfold fillF
  rw [List.getD_eq_getElem?_getD, List.getElem?_append]
  split
  · rename_i hj
    rw [List.getElem?_map, List.getElem?_range (by simpa using hj)]
    exact hf _
  · rw [List.getElem?_replicate]
    split <;> decide
theorem ksN_words {key : List Nat} (h : Bys key) : ∀ n, n ≤ 52 → Words (ksN key n)
  | 0, _ => fillF_words (fun i => kw_lt h i) _ _
  | n + 1, hn => by
    have ih := ksN_words h n (by omega)
    exact ih.set _ _ (xor32_lt (tempK_lt ih _ (by omega)) (ih n))
theorem pwAt_next {i : Nat} (h8 : 8 ≤ i) (h : i < 60) (hm : i % 8 = 0) : mul (pwAt i) 2 = pwAt (i + 1) := by
  have h' : (List.range 60).all (fun i => Nat.blt i 8 || !(Nat.beq (i % 8) 0) || Nat.beq (mul (pwAt i) 2) (pwAt (i + 1))) = true := by decide +kernel
  have := List.all_eq_true.1 h' i (List.mem_range.2 h)
  have e1 : Nat.blt i 8 = false := by rw [Bool.eq_false_iff]; simp [Nat.blt_eq]; omega
  have e2 : Nat.beq (i % 8) 0 = true := by rw [hm]; rfl
  rw [e1, e2] at this
  exact Nat.eq_of_beq_eq_true (by simpa using this)
theorem pwAt_same {i : Nat} (hm : i % 8 ≠ 0) : pwAt i = pwAt (i + 1) := by
  unfold pwAt
  congr 1
  omega

theorem size_k60 : (Try.prog.info? 26).map (·.size) = some 60 := by kernel_rfl
def zerN (n : Nat) : List Nat := List.replicate n 0
theorem zerN_len (n : Nat) : (zerN n).length = n := by simp [zerN]
theorem alloc_k60 (w : World) : (Instr.alloc 26 true (.tuple #[])).run Try.prog w = .ok (.pointer (some ⟨w.heap.size, 0, none⟩)) (w.alloc (.cells (ints .u32 (nn (zerN 60))).toArray 26)) := by kernel_rfl
theorem size_hash : (Try.prog.info? 23).map (·.size) = some 32 := by kernel_rfl

set_option maxHeartbeats 2000000 in
set_option maxRecDepth 100000 in
theorem c_Expand (key : List Nat) (w : World) (hl : key.length = 32) (hk : Bys key) :
    Calls Try.prog 10 #[.agg (ints .u8 (nn key)).toArray] w fun e w' => e = .returned (.agg (ints .u32 (nn (expandL key))).toArray) ∧ Below w.heap.size w w' := by
  have HLK := Lib.hid hl
  clear hl
  have hkb : Blk (w.alloc (.cells (ints .u8 (nn key)).toArray 23)) w.heap.size 23 (ints .u8 (nn key)) := Blk.new _ _ _
  generalize hKV : (ints .u8 (nn key)).toArray = KV at *
  have hBox := fun w => c_Box w
  have hFin := fun w => c_finder w
  have hLen := expandL_len key
  obtain ⟨L, hL⟩ : ∃ L, expandL key = L := ⟨_, rfl⟩
  rw [hL] at hLen ⊢
  have HL := Lib.hid hL
  clear hL
  generalize hBV : (ints .u8 (nn boxT)).toArray = BV at *
  have HBox := Lib.hid hBox
  have HFin := Lib.hid hFin
  have HBV := Lib.hid hBV
  have HLen := Lib.hid hLen
  clear hBox hFin hBV hKV hLen
  go_enter Try.func10, Try.ntmps10
  go_wp2
  generalize hw2 : World.alloc (World.alloc (World.alloc w _) _) _ = w2
  have hb2 : Below w.heap.size w w2 := by rw [← hw2]; exact (((Below.refl _ _).alloc (Nat.le_refl _) _).alloc (by simp) _).alloc (by simp; omega) _
  have hk0 : Blk w2 w.heap.size 23 (ints .u8 (nn key)) := by
    rw [← hw2]; exact (hkb.alloc _).alloc _
  have hk1 : Blk w2 (w.heap.size + 1) 26 (ints .u32 (nn (List.replicate 60 0))) := by
    rw [← hw2]; exact (Blk.new2 _ _ _ _ rfl).alloc _
  have hk2 : Blk w2 (w.heap.size + 1 + 1) 26 (ints .u32 (nn (fillF (kw key) 60 0))) := by
    rw [← hw2]
    have := Blk.new2 (World.alloc w (.cells KV 23)) (.cells (ints .u32 (nn (List.replicate 60 0))).toArray 26) 26 (ints .u32 (nn (fillF (kw key) 60 0))) rfl
    rw [World.size_alloc] at this
    exact this
  clear hw2 hkb
  go_loopw [4, 9] (fun _ i wr => ∃ k : Nat, k ≤ 8 ∧ i = .int .i64 k ∧ Blk wr w.heap.size 23 (ints .u8 (nn key)) ∧ Blk wr (w.heap.size + 1) 26 (ints .u32 (nn (List.replicate 60 0))) ∧ Blk wr (w.heap.size + 1 + 1) 26 (ints .u32 (nn (fillF (kw key) 60 k))) ∧ Below w.heap.size w wr) (fun _ i _ => 8 - (intOf i).toNat)
  case atStart => exact ⟨0, by omega, rfl, hk0, hk1, hk2, hb2⟩
  case round =>
    obtain ⟨k, hk8, rfl, hkey, hz, hf, hb⟩ := hrel
    clear hk0 hk1 hk2 hb2
    by_cases hlt : k < 8
    · have hset := fillF_set (kw key) 60 k (by omega)
      have hWc : ∀ cap, Calls Try.prog 24 #[.slice (some ⟨w.heap.size, 4 * k, none⟩) 4 cap] wr fun e w' => e = .returned (.int .u32 ((kw key k : Nat) : Int)) ∧ wr = w' := fun cap =>
        c_word w.heap.size (4 * k) cap (four key k) wr (four_bys hk k) (fun j hj => by rw [four_getD _ _ _ hj]; exact hkey.nat (by rw [HLK.out]; omega))
      have HW := Lib.hid hWc
      have hsl := fun w' => run_sliceAt_cut (P := Try.prog) w' 23 5 32 w.heap.size (4 * k) (4 * k + 4) (4 * (k : Int)) (4 * (k : Int) + 4) Try.underlying23 size_u8 (by omega) (by omega) (by omega) (by omega) (by omega)
      rw [show 4 * k + 4 - 4 * k = 4 by omega] at hsl
      have Hs := Lib.hid hset
      clear hset hWc
      have hc := hf.nat (j := k) (by rw [fillF_len _ _ _ (by omega)]; omega)
      have hfr := hf.free k
      generalize kw key k = v at *
      have i1 : (0 : Int) ≤ 4 * (k : Int) := by omega
      have i2 : (4 * (k : Int)).toNat = 4 * k := by omega
      have i3 : 4 * (k : Int) + 4 ≤ 32 := by omega
      have i4 : (4 * (k : Int) + 4).toNat = 4 * k + 4 := by omega
      have i5 : (k : Int) < 60 := by omega
      have i6 : (k : Int) < 8 := by omega
      go_wp2_with (go_at_call 24; (refine (HW.out _).mono ?_); rintro e w' ⟨rfl, rfl⟩)
      go_roundw
      case rel =>
        refine ⟨k + 1, by omega, by go_num, hkey.other (by simp <;> omega) _, hz.other (by simp <;> omega) _, ?_, hb.setCell (by simp <;> omega) _⟩
        rw [← Hs.out]
        exact hf.setNat k v
      case measure => simp [intOf]; omega
    · obtain rfl : k = 8 := by omega
      go_wp2_with (first | (go_at_call 26; (refine (HBox.out _).mono ?_); rintro e w5 ⟨rfl, hb5⟩) | (go_at_call 25; (refine (HFin.out _).mono ?_); rintro e w6 ⟨rfl, rfl⟩))
      have hf6 : Blk (w5.alloc (.cells BV 55)) (w.heap.size + 1 + 1) 26 (ints .u32 (nn (ksN key 0))) := (hf.below hb5 hf.lt).alloc _
      have hz6 : Blk (w5.alloc (.cells BV 55)) (w.heap.size + 1) 26 (ints .u32 (nn (List.replicate 60 0))) := (hz.below hb5 hz.lt).alloc _
      have hx6 : Blk (w5.alloc (.cells BV 55)) w5.heap.size 55 (ints .u8 (nn boxT)) := Blk.new' _ _ _ HBV.out.symm
      have hb6 : Below w.heap.size w (w5.alloc (.cells BV 55)) := (hb.trans (hb5.mono hb.size)).alloc (by have := hb.size; have := hb5.size; omega) _
      have hlt6 : w.heap.size + 1 + 1 < w5.heap.size := Nat.lt_of_lt_of_le hf.lt hb5.size
      clear hf hz hb hkey hb5
      generalize World.alloc w5 _ = w6 at *
      generalize w5.heap.size = bx at *
      go_loopw [6, 7, 8] (fun p i _ wr => ∃ n : Nat, 8 ≤ n ∧ n ≤ 60 ∧ i = .int .i64 (n : Int) ∧ p = .int .u8 ((pwAt n : Nat) : Int) ∧ Blk wr (w.heap.size + 1) 26 (ints .u32 (nn (List.replicate 60 0))) ∧ Blk wr (w.heap.size + 1 + 1) 26 (ints .u32 (nn (ksN key (n - 8)))) ∧ Blk wr bx 55 (ints .u8 (nn boxT)) ∧ Below w.heap.size w wr) (fun _ i _ _ => 60 - (intOf i).toNat)
      case atStart => exact ⟨8, by omega, by omega, rfl, rfl, hz6, hf6, hx6, hb6⟩
      case round =>
        obtain ⟨n, hn8, hn60, rfl, rfl, hz, hf, hx, hb⟩ := hrel
        clear hz6 hf6 hx6 hb6
        by_cases hln : n < 60
        · have hstep := ksN_step key hn8
          have hll := ksN_len key (n - 8)
          have hwd := ksN_words hk (n - 8) (by omega)
          have htl := tempK_lt hwd n (by omega)
          have hdef : tempK (ksN key (n - 8)) n = if n % 8 = 0 then eachN boxG (rotl32 ((ksN key (n - 8)).getD (n - 1) 0) 8) ^^^ (pwAt n * 16777216) else if n % 8 = 4 then eachN boxG ((ksN key (n - 8)).getD (n - 1) 0) else (ksN key (n - 8)).getD (n - 1) 0 := rfl
          have hxx := xor_word _ _ htl (hwd (n - 8))
          have c1 := hf.nat (j := n - 1) (by rw [hll]; omega)
          have c8 := hf.nat (j := n - 8) (by rw [hll]; omega)
          have c0 := hf.nat (j := n) (by rw [hll]; omega)
          have hfr := hf.free n
          have hw1 := hwd (n - 1)
          have hp := pwAt_lt (i := n) (by omega)
          have hpn : n % 8 = 0 → mul (pwAt n) 2 = pwAt (n + 1) := pwAt_next hn8 hln
          have hps : n % 8 ≠ 0 → pwAt n = pwAt (n + 1) := pwAt_same
          have Hs := Lib.hid hstep
          have Hpn := Lib.hid hpn
          have Hps := Lib.hid hps
          clear hstep hll hwd hpn hps
          generalize tempK (ksN key (n - 8)) n = tv at *
          generalize (ksN key (n - 8)).getD (n - 8) 0 = v8 at *
          generalize (ksN key (n - 8)).getD (n - 1) 0 = t at *
          generalize ksN key (n - 8) = l at *
          generalize pwAt n = p at *
          have b0 : (n : Int) < 60 := by omega
          have b1 : (0 : Int) ≤ (n : Int) - 1 := by omega
          have b2 : ((n : Int) - 1).toNat = n - 1 := by omega
          have b3 : (0 : Int) ≤ (n : Int) - 8 := by omega
          have b4 : ((n : Int) - 8).toNat = n - 8 := by omega
          have b5 : (n : Int) - 1 < 60 := by omega
          have b6 : (n : Int) - 8 < 60 := by omega
          have b7 : (8 : Int) ≤ (n : Int) := by omega
          by_cases hm0 : n % 8 = 0
          · rw [if_pos hm0] at hdef
            have hr := rotl32_lt 8 hw1
            have he := eachN_lt boxG_byte (rotl32 t 8)
            have hxp := xor_word _ _ he (show p * 16777216 < 4294967296 by omega)
            rw [← hdef] at hxp
            have hpm : ((p * 16777216 : Nat) : Int) = (p : Int) * 16777216 := by omega
            have HPM := Lib.hid hpm
            clear hpm
            have hR := fun w => b_rotl32 t 8 w hw1 (by omega) (by omega)
            have hE := fun w h => c_each_look bx (rotl32 t 8) w h hr
            have HR := Lib.hid hR
            have HE := Lib.hid hE
            have HP := Lib.hid (Hpn.out hm0)
            have m0 : ((n : Int) % 8 == 0) = true := by rw [beq_iff_eq]; omega
            clear hR hE hdef he hr hm0 Hpn Hps
            generalize eachN boxG (rotl32 t 8) = ev at *
            generalize rotl32 t 8 = rv at *
            generalize p * 16777216 = pv at *
            have HR1 : Hid (∀ w, Calls Try.prog 28 #[.int .u32 (t : Int), .int .i64 8] w fun e w' => e = .returned (.int .u32 (rv : Int)) ∧ w = w') := Lib.hid HR.out
            have HP1 : Hid (∀ w, Calls Try.prog 14 #[.int .u8 (p : Int), .int .u8 2] w fun e w' => e = .returned (.int .u8 (mul p 2 : Nat)) ∧ w = w') := Lib.hid (fun w => c_Times p 2 w hp (by omega))
            clear HR
            go_wp2_with (first | (go_at_call 28; (with_reducible refine (HR1.out _).mono ?_); rintro e w' ⟨rfl, rfl⟩) | (go_at_call 27; (with_reducible refine (HE.out _ hx).mono ?_); rintro e w' ⟨rfl, rfl⟩) | (go_at_call 14; (with_reducible refine (HP1.out _).mono ?_); rintro e w' ⟨rfl, rfl⟩))
            go_roundw
            case rel =>
              refine ⟨n + 1, by omega, by omega, by go_num, by rw [← HP.out], hz.other (by simp <;> omega) _, ?_, hx.other (by simp; omega) _, hb.setCell (by simp <;> omega) _⟩
              rw [Hs.out]
              have := hf.setNat n (tv ^^^ v8)
              rw [← hxx, ← hxp, HPM.out] at this
              exact this
            case measure => simp [intOf]; omega
          · rw [if_neg hm0] at hdef
            have m0 : ((n : Int) % 8 == 0) = false := by rw [beq_eq_false_iff_ne]; omega
            have HP := Lib.hid (Hps.out hm0)
            by_cases hm4 : n % 8 = 4
            · rw [if_pos hm4] at hdef
              have hE := fun w h => c_each_look bx t w h hw1
              have HE := Lib.hid hE
              have m4 : ((n : Int) % 8 == 4) = true := by rw [beq_iff_eq]; omega
              rw [← hdef] at HE
              clear hE hdef hm0 hm4 Hpn Hps
              go_wp2_with (go_at_call 27; (with_reducible refine (HE.out _ hx).mono ?_); rintro e w' ⟨rfl, rfl⟩)
              go_roundw
              case rel =>
                refine ⟨n + 1, by omega, by omega, by go_num, by rw [← HP.out], hz.other (by simp <;> omega) _, ?_, hx.other (by simp; omega) _, hb.setCell (by simp <;> omega) _⟩
                rw [Hs.out]
                exact hf.setNat n (tv ^^^ v8)
              case measure => simp [intOf]; omega
            · rw [if_neg hm4] at hdef
              have m4 : ((n : Int) % 8 == 4) = false := by rw [beq_eq_false_iff_ne]; omega
              subst hdef
              clear hm0 hm4 Hpn Hps
              go_wp2
              go_roundw
              case rel =>
                refine ⟨n + 1, by omega, by omega, by go_num, by rw [← HP.out], hz.other (by simp <;> omega) _, ?_, hx.other (by simp; omega) _, hb.setCell (by simp <;> omega) _⟩
                rw [Hs.out]
                exact hf.setNat n (tv ^^^ v8)
              case measure => simp [intOf]; omega
        · obtain rfl : n = 60 := by omega
          have hE : Blk wr (w.heap.size + 1 + 1) 26 (ints .u32 (nn L)) := by rw [← HL.out]; exact hf
          clear hf
          go_wp2_with (first | (refine wpList_load_blk rfl 26 _ rfl _ rfl hE Try.underlying26 rfl (by rw [size_k60, ints_length, nn_length, HLen.out]) ?_) | (refine wpList_store_blk rfl 26 _ _ rfl _ _ rfl rfl hz (by rw [size_k60, ints_length, nn_length, HLen.out]) (by rw [ints_length, ints_length, nn_length, nn_length, HLen.out]; rfl) (ints_one _ _) ?_))
          refine bodyPost_ret (v := .agg (ints .u32 (nn L)).toArray) (results_cell_blk rfl _ _ _ rfl (hz.row (ints .u32 (nn L)) (by rw [ints_length, ints_length, nn_length, nn_length, HLen.out]; rfl)) Try.underlying26 rfl (by rw [size_k60, ints_length, nn_length, HLen.out])) rfl ⟨rfl, below_setRow hb (by omega) _⟩
end Go.Proofs.Ytgagafefhmofjaa
